/-
  THE WALKS OF goingUp, headSize, middle's closure.
-/
import Derived.Test.YtplfcpbjlhobeaaDFormN
import Derived.Test.YtplfcpbjlhobeaaCHalf
import Derived.Test.YtplfcpbjlhobeaaCRows
import Derived.Deep.RegionHeld3
namespace Go.Proofs.Ytplfcpbjlhobeaa
open Go.RowKit

def Cm.up (leaf : Bool) : Nat := if leaf = true then 0 else 1

theorem goingUp_any (n : Cm.Nd) (v : Value) (B : Nat) (w : World) (hv : NdS w B v n) :
    Calls Try.prog 34 #[v] w fun e w' => e = .returned (.int .i64 (Cm.up n.leaf : Int)) ∧ Below w.heap.size w w' := by
  obtain ⟨vi, vk, rfl, ⟨ad, c, rfl, -⟩, ⟨kd, d, rfl, -⟩⟩ := hv
  obtain ⟨U, hU⟩ : ∃ U, Cm.up n.leaf = U := ⟨_, rfl⟩
  rw [hU]
  have HU : Hid _ := hU
  clear hU
  generalize n.leaf = lf at *
  cases lf
  · have e : Hid (U = 1) := by show _ = _; rw [← HU.out]; rfl
    go_enter Try.func34, Try.ntmps34
    go_wp2
    go_ret
    exact ⟨by rw [e.out]; rfl, (Below.refl _ w).alloc (Nat.le_refl _) _⟩
  · have e : Hid (U = 0) := by show _ = _; rw [← HU.out]; rfl
    go_enter Try.func34, Try.ntmps34
    go_wp2
    go_ret
    exact ⟨by rw [e.out]; rfl, (Below.refl _ w).alloc (Nat.le_refl _) _⟩

set_option maxRecDepth 100000 in
theorem headSize_any (leaf : Bool) (m : Nat) (hm : m ≤ 2000000) (w : World) :
    Calls Try.prog 59 #[.bool leaf, .int .i64 (m : Int)] w fun e w' => e = .returned (.int .i64 ((Cm.hd leaf + (Wm.putU m).length : Nat) : Int)) ∧ Below w.heap.size w w' := by
  obtain ⟨U, hU⟩ : ∃ U, Cm.hd leaf + (Wm.putU m).length = U := ⟨_, rfl⟩
  rw [hU]
  have HU : Hid _ := hU
  have hp := (Wm.putU_length m).2
  clear hU
  cases leaf
  · go_enter Try.func59, Try.ntmps59
    go_wp2_with fail
    refine (appendHead_any false m hm w.heap.size _ [] _ (Own.nil _ _) (by simp) (Nat.le_refl _)).mono ?_
    rintro e w1 ⟨v1, rfl, ho1, hb1⟩
    obtain ⟨ad, c, hv, -⟩ := ho1.byts
    have hln : ([] ++ (if false = true then [1] else [2]) ++ Wm.putU m : List UInt8).length = 1 + (Wm.putU m).length := by simp; omega
    rw [hln] at hv
    subst hv
    have e : Hid ((U : Int) = 1 + ((Wm.putU m).length : Int) + 2) := by show _ = _; rw [← HU.out]; unfold Cm.hd; simp; omega
    generalize (Wm.putU m).length = L at *
    clear hln ho1
    go_wp2
    go_ret
    refine ⟨?_, hb1⟩
    rw [e.out]
    rfl
  · go_enter Try.func59, Try.ntmps59
    go_wp2_with fail
    refine (appendHead_any true m hm w.heap.size _ [] _ (Own.nil _ _) (by simp) (Nat.le_refl _)).mono ?_
    rintro e w1 ⟨v1, rfl, ho1, hb1⟩
    obtain ⟨ad, c, hv, -⟩ := ho1.byts
    have hln : ([] ++ (if true = true then [1] else [2]) ++ Wm.putU m : List UInt8).length = 1 + (Wm.putU m).length := by simp; omega
    rw [hln] at hv
    subst hv
    have e : Hid ((U : Int) = 1 + ((Wm.putU m).length : Int)) := by show _ = _; rw [← HU.out]; unfold Cm.hd; simp
    generalize (Wm.putU m).length = L at *
    clear hln ho1
    go_wp2
    go_ret
    refine ⟨?_, hb1⟩
    rw [e.out]
    rfl

/-- the sizes of the items ahead of each place -/
def Cm.aheads (n : Cm.Nd) (k : Nat) : List Int := (List.range (k + 1)).map fun j => ((Cm.psz n.leaf (n.items.take j) : Nat) : Int)

theorem cost_len (n : Cm.Nd) (i : Nat) (h2 : i + Cm.up n.leaf < n.items.length) :
    (Cm.cost n i : Int) = max (((Cm.hd n.leaf + (Wm.putU i).length : Nat) : Int) + (Cm.psz n.leaf (n.items.take i) : Int)) (((Cm.hd n.leaf + (Wm.putU (n.items.length - i - Cm.up n.leaf)).length : Nat) : Int) + (Cm.psz n.leaf n.items : Int) - (Cm.psz n.leaf (n.items.take (i + Cm.up n.leaf)) : Int)) := by
  unfold Cm.cost
  rw [Cm.form_len, Cm.form_len, Cm.cutL_leaf, Cm.cutR_leaf, Cm.cutL_items]
  have e1 : (n.items.take i).length = i := by rw [List.length_take]; omega
  rw [e1]
  have hs := Cm.psz_split n.leaf n.items (i + Cm.up n.leaf)
  have e2 : (Cm.cutR n i).items = n.items.drop (i + Cm.up n.leaf) := by
    unfold Cm.up
    cases h : n.leaf with
    | true => rw [Cm.cutR_items_leaf n i h]; simp
    | false => rw [Cm.cutR_items_inner n i h]; simp
  rw [e2, List.length_drop, show n.items.length - (i + Cm.up n.leaf) = n.items.length - i - Cm.up n.leaf by omega]
  omega

set_option maxRecDepth 100000 in
set_option maxHeartbeats 4000000 in
theorem greater_any (n : Cm.Nd) (i : Nat) (h2 : i + Cm.up n.leaf < n.items.length) (hl : n.items.length ≤ 1000000) (hps : Cm.psz n.leaf n.items ≤ 1000000000) (A1 A2 A3 A4 : Nat) (b o c : Nat) (w : World)
    (c0 : w.cell? ⟨A1, 0, none⟩ = some (.bool n.leaf)) (c1 : w.cell? ⟨A2, 0, none⟩ = some (.slice (some ⟨b, o, none⟩) (n.items.length + 1) c)) (c2 : w.cell? ⟨A3, 0, none⟩ = some (.int .i64 (n.items.length : Int))) (c3 : w.cell? ⟨A4, 0, none⟩ = some (.int .i64 (Cm.up n.leaf : Int)))
    (hA : ∀ j, j ≤ n.items.length → w.cell? ⟨b, o + j, none⟩ = some (.int .i64 (Cm.psz n.leaf (n.items.take j) : Int))) (hlt : A1 < w.heap.size ∧ A2 < w.heap.size ∧ A3 < w.heap.size ∧ A4 < w.heap.size ∧ b < w.heap.size) :
    Calls Try.prog 58 #[.int .i64 (i : Int), .pointer (some ⟨A1, 0, none⟩), .pointer (some ⟨A2, 0, none⟩), .pointer (some ⟨A3, 0, none⟩), .pointer (some ⟨A4, 0, none⟩)] w fun e w' => e = .returned (.int .i64 (Cm.cost n i : Int)) ∧ Below w.heap.size w w' := by
  have HC : Hid _ := cost_len n i h2
  have d0 := hA i (by omega)
  have d1 := hA n.items.length (Nat.le_refl _)
  have d2 := hA (i + Cm.up n.leaf) (by omega)
  rw [List.take_length] at d1
  have hp0 : Cm.psz n.leaf (n.items.take i) ≤ 1000000000 := by have := Cm.psz_split n.leaf n.items i; omega
  have hp2 : Cm.psz n.leaf (n.items.take (i + Cm.up n.leaf)) ≤ Cm.psz n.leaf n.items := by have := Cm.psz_split n.leaf n.items (i + Cm.up n.leaf); omega
  have hu1 := (Wm.putU_length i).2
  have hu2 := (Wm.putU_length (n.items.length - i - Cm.up n.leaf)).2
  have hhd : Cm.hd n.leaf ≤ 3 := by unfold Cm.hd; split <;> omega
  obtain ⟨H1, hH1⟩ : ∃ H1, Cm.hd n.leaf + (Wm.putU i).length = H1 := ⟨_, rfl⟩
  obtain ⟨H2, hH2⟩ : ∃ H2, Cm.hd n.leaf + (Wm.putU (n.items.length - i - Cm.up n.leaf)).length = H2 := ⟨_, rfl⟩
  have hb1 : H1 ≤ 13 := by omega
  have hb2 : H2 ≤ 13 := by omega
  have hH : ∀ (x : Int) (q : Nat), (x = (i : Int) ∧ q = H1) ∨ (x = ((n.items.length - i - Cm.up n.leaf : Nat) : Int) ∧ q = H2) → ∀ W : World, Calls Try.prog 59 #[.bool n.leaf, .int .i64 x] W fun e w' => e = .returned (.int .i64 (q : Int)) ∧ Below W.heap.size W w' := by
    rintro x q (⟨rfl, rfl⟩ | ⟨rfl, rfl⟩) W
    · rw [← hH1]; exact headSize_any n.leaf i (by omega) W
    · rw [← hH2]; exact headSize_any n.leaf _ (by omega) W
  rw [hH1, hH2] at HC
  clear hH1 hH2 hu1 hu2 hhd hA
  obtain ⟨CC, hCC⟩ : ∃ CC, Cm.cost n i = CC := ⟨_, rfl⟩
  rw [hCC] at HC ⊢
  clear hCC
  generalize Cm.psz n.leaf (n.items.take i) = P0 at *
  generalize Cm.psz n.leaf (n.items.take (i + Cm.up n.leaf)) = P2 at *
  generalize Cm.psz n.leaf n.items = P1 at *
  generalize Cm.up n.leaf = U at *
  generalize n.leaf = lf at *
  generalize n.items.length = L at *
  obtain ⟨J, hJ⟩ : ∃ J, i + U = J := ⟨_, rfl⟩
  obtain ⟨M, hM⟩ : ∃ M, L - i - U = M := ⟨_, rfl⟩
  rw [hJ] at d2
  rw [hM] at hH
  have hwJ : IntKind.i64.wrap ((i : Int) + (U : Int)) = (J : Int) := by rw [IntKind.wrap_i64]; omega
  have hwM : IntKind.i64.wrap (IntKind.i64.wrap ((L : Int) - (i : Int)) - (U : Int)) = (M : Int) := by rw [IntKind.wrap_i64, IntKind.wrap_i64]; omega
  have k2 : (J : Int) < ((L : Int) + 1) := by omega
  have HV : Hid ((if IntKind.i64.wrap ((H1 : Int) + (P0 : Int)) < IntKind.i64.wrap (IntKind.i64.wrap ((H2 : Int) + (P1 : Int)) - (P2 : Int)) then IntKind.i64.wrap (IntKind.i64.wrap ((H2 : Int) + (P1 : Int)) - (P2 : Int)) else IntKind.i64.wrap ((H1 : Int) + (P0 : Int))) = (CC : Int)) := by
    show _ = _
    have e1 : IntKind.i64.wrap ((H1 : Int) + (P0 : Int)) = (H1 : Int) + (P0 : Int) := by rw [IntKind.wrap_i64]; omega
    have e2 : IntKind.i64.wrap ((H2 : Int) + (P1 : Int)) = (H2 : Int) + (P1 : Int) := by rw [IntKind.wrap_i64]; omega
    have e3 : IntKind.i64.wrap ((H2 : Int) + (P1 : Int) - (P2 : Int)) = (H2 : Int) + (P1 : Int) - (P2 : Int) := by rw [IntKind.wrap_i64]; omega
    rw [e1, e2, e3, HC.out]
    omega
  have HH : Hid (∀ (x : Int) (q : Nat), (x = (i : Int) ∧ q = H1) ∨ (x = (M : Int) ∧ q = H2) → ∀ W : World, Calls Try.prog 59 #[.bool lf, .int .i64 x] W fun e w' => e = .returned (.int .i64 (q : Int)) ∧ Below W.heap.size W w') := hH
  clear hH
  have hS0 : (Below w.heap.size w w ∧ w.cell? ⟨A1, 0, none⟩ = some (.bool lf) ∧ w.cell? ⟨A2, 0, none⟩ = some (.slice (some ⟨b, o, none⟩) (L + 1) c) ∧ w.cell? ⟨A3, 0, none⟩ = some (.int .i64 (L : Int)) ∧ w.cell? ⟨A4, 0, none⟩ = some (.int .i64 (U : Int)) ∧ w.cell? ⟨b, o + i, none⟩ = some (.int .i64 (P0 : Int)) ∧ w.cell? ⟨b, o + L, none⟩ = some (.int .i64 (P1 : Int)) ∧ w.cell? ⟨b, o + J, none⟩ = some (.int .i64 (P2 : Int))) := ⟨Below.refl _ _, c0, c1, c2, c3, d0, d1, d2⟩
  have HSS : Hid (∀ W W' : World, (Below w.heap.size w W ∧ W.cell? ⟨A1, 0, none⟩ = some (.bool lf) ∧ W.cell? ⟨A2, 0, none⟩ = some (.slice (some ⟨b, o, none⟩) (L + 1) c) ∧ W.cell? ⟨A3, 0, none⟩ = some (.int .i64 (L : Int)) ∧ W.cell? ⟨A4, 0, none⟩ = some (.int .i64 (U : Int)) ∧ W.cell? ⟨b, o + i, none⟩ = some (.int .i64 (P0 : Int)) ∧ W.cell? ⟨b, o + L, none⟩ = some (.int .i64 (P1 : Int)) ∧ W.cell? ⟨b, o + J, none⟩ = some (.int .i64 (P2 : Int))) → Below W.heap.size W W' → (Below w.heap.size w W' ∧ W'.cell? ⟨A1, 0, none⟩ = some (.bool lf) ∧ W'.cell? ⟨A2, 0, none⟩ = some (.slice (some ⟨b, o, none⟩) (L + 1) c) ∧ W'.cell? ⟨A3, 0, none⟩ = some (.int .i64 (L : Int)) ∧ W'.cell? ⟨A4, 0, none⟩ = some (.int .i64 (U : Int)) ∧ W'.cell? ⟨b, o + i, none⟩ = some (.int .i64 (P0 : Int)) ∧ W'.cell? ⟨b, o + L, none⟩ = some (.int .i64 (P1 : Int)) ∧ W'.cell? ⟨b, o + J, none⟩ = some (.int .i64 (P2 : Int)))) := fun W W' h hb =>
    have hk := h.1.trans (hb.mono h.1.size)
    ⟨hk, (hk.cell (p := ⟨A1, 0, none⟩) hlt.1).trans c0, (hk.cell (p := ⟨A2, 0, none⟩) hlt.2.1).trans c1, (hk.cell (p := ⟨A3, 0, none⟩) hlt.2.2.1).trans c2, (hk.cell (p := ⟨A4, 0, none⟩) hlt.2.2.2.1).trans c3, (hk.cell (p := ⟨b, o + i, none⟩) hlt.2.2.2.2).trans d0, (hk.cell (p := ⟨b, o + L, none⟩) hlt.2.2.2.2).trans d1, (hk.cell (p := ⟨b, o + J, none⟩) hlt.2.2.2.2).trans d2⟩
  have hSd : (Below w.heap.size w w.drew ∧ w.drew.cell? ⟨A1, 0, none⟩ = some (.bool lf) ∧ w.drew.cell? ⟨A2, 0, none⟩ = some (.slice (some ⟨b, o, none⟩) (L + 1) c) ∧ w.drew.cell? ⟨A3, 0, none⟩ = some (.int .i64 (L : Int)) ∧ w.drew.cell? ⟨A4, 0, none⟩ = some (.int .i64 (U : Int)) ∧ w.drew.cell? ⟨b, o + i, none⟩ = some (.int .i64 (P0 : Int)) ∧ w.drew.cell? ⟨b, o + L, none⟩ = some (.int .i64 (P1 : Int)) ∧ w.drew.cell? ⟨b, o + J, none⟩ = some (.int .i64 (P2 : Int))) := ⟨(Below.refl _ _).drew, c0, c1, c2, c3, d0, d1, d2⟩
  have k1 : (i : Int) < ((L : Int) + 1) := by omega
  have k3 : (L : Int) < ((L : Int) + 1) := by omega
  clear c0 c1 c2 c3 d0 d1 d2 hS0 hJ hM
  go_enter Try.func58, Try.ntmps58
  go_wp2_with fail
  go_region_held3 (fun W : World => (Below w.heap.size w W ∧ W.cell? ⟨A1, 0, none⟩ = some (.bool lf) ∧ W.cell? ⟨A2, 0, none⟩ = some (.slice (some ⟨b, o, none⟩) (L + 1) c) ∧ W.cell? ⟨A3, 0, none⟩ = some (.int .i64 (L : Int)) ∧ W.cell? ⟨A4, 0, none⟩ = some (.int .i64 (U : Int)) ∧ W.cell? ⟨b, o + i, none⟩ = some (.int .i64 (P0 : Int)) ∧ W.cell? ⟨b, o + L, none⟩ = some (.int .i64 (P1 : Int)) ∧ W.cell? ⟨b, o + J, none⟩ = some (.int .i64 (P2 : Int)))) (first | assumption | exact hSd) ((go_at_call 59; refine (HH.out _ _ (by first | exact .inl ⟨rfl, rfl⟩ | exact .inr ⟨rfl, rfl⟩ | exact .inr ⟨hwM, rfl⟩) _).mono ?_; rintro e w2 ⟨rfl, hb2⟩; have hS := fun h => HSS.out _ _ h hb2; specialize hS (by assumption)))
  go_wp2
  all_goals go_ret
  all_goals refine ⟨?_, hS.1⟩
  all_goals have e := HV.out
  all_goals first | rw [if_pos (by omega)] at e | rw [if_neg (by omega)] at e
  all_goals rw [← e]
  all_goals rfl

end Go.Proofs.Ytplfcpbjlhobeaa
