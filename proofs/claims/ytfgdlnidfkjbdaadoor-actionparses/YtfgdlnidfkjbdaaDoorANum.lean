/-
  WHAT LIES IN THE PROGRAM's TABLES WHEN A LAW BEGINS; WHAT THE LANDED CODE's mayNumber, readNumber DO.
-/
import Derived.Test.YtfgdlnidfkjbdaaDoorADig
import Derived.Test.YtfgdlnidfkjbdaaDoorAcLand
import Derived.Test.YtfgdlnidfkjbdaaDoorAcLaid
import Derived.Test.YtfgdlnidfkjbdaaDoorKit
namespace Go.Proofs.YtfgdlnidfkjbdaaDoor
open Go.RowKit

namespace Ac
/-- the rows of the table of kinds: first word, least, most, number, body -/
def kw (i : Nat) : List UInt8 := if i = 0 then sEnd else word (i : Int)
def kl (i : Nat) : Int := if i = 1 ∨ i = 2 ∨ i = 8 ∨ i = 11 then 1 else if i = 12 then 2 else 0
def km (i : Nat) : Int := if i = 3 ∨ i = 9 then 9223372036854775807 else kl i
def kn (i : Nat) : Bool := decide (i = 10)
def kb (i : Nat) : Bool := decide (i = 10 ∨ i = 11 ∨ i = 12)
/-- the table's cells -/
def kRow (i : Nat) : List Value := [.string ⟨(kw i).toArray⟩, .int .i64 (kl i), .int .i64 (km i), .bool (kn i), .bool (kb i)]
def kCells : List Value := kRow 0 ++ kRow 1 ++ kRow 2 ++ kRow 3 ++ kRow 4 ++ kRow 5 ++ kRow 6 ++ kRow 7 ++ kRow 8 ++ kRow 9 ++ kRow 10 ++ kRow 11 ++ kRow 12
theorem kCells_length : kCells.length = 65 := rfl
theorem kCells_at : ∀ i : Nat, i < 13 → ∀ f : Nat, f < 5 → kCells[i * 5 + f]? = (kRow i)[f]? := by
  intro i hi f hf
  match i, hi with
  | 0, _ | 1, _ | 2, _ | 3, _ | 4, _ | 5, _ | 6, _ | 7, _ | 8, _ | 9, _ | 10, _ | 11, _ | 12, _ =>
    match f, hf with
    | 0, _ | 1, _ | 2, _ | 3, _ | 4, _ => rfl
theorem digits_dec : ∀ n : Nat, n ≤ 9999 → Lib.decDigits n = digits n := by
  intro n
  induction n using Nat.strongRecOn with
  | ind n ih =>
    intro h
    rw [Lib.decDigits]
    by_cases h1 : n < 10
    · rw [dif_pos h1, digits, if_pos h1]; rfl
    · rw [dif_neg h1, ih (n / 10) (by omega) (by omega), digits_more (by omega) h]; rfl
theorem itoa_digits {n : Nat} (h : n ≤ 9999) : Lib.itoa (n : Int) = digits n := by
  unfold Lib.itoa
  rw [if_neg (by omega), Int.toNat_natCast, digits_dec n h]
def okIs (n : Nat) : Lib.NumEnd Int → Bool
  | .ok v => decide (v = (n : Int))
  | _ => false
theorem okIs_eq {n : Nat} {x : Lib.NumEnd Int} (h : okIs n x = true) : x = .ok (n : Int) := by
  cases x with
  | ok v =>
    simp only [okIs, decide_eq_true_eq] at h
    rw [h]
  | «syntax» => cases h
  | range => cases h
theorem atoi_digits {n : Nat} (h : n ≤ 1000) : Lib.atoiAll (digits n) = .ok (n : Int) := by
  have hd : ∀ n : Fin 1001, okIs n.1 (Lib.atoiAll (digits n.1)) = true := by decide +kernel
  exact okIs_eq (hd ⟨n, by omega⟩)
/-- a repeat's number, 0 where there is none -/
def numZ (s : List UInt8) : Int := ((number s).getD 0 : Nat)
end Ac

/-- what lies in the program's tables -/
structure Laid (w : World) : Prop where
  kinds : ∀ j u, Ac.kCells[j]? = some u → w.cell? ⟨0, j, none⟩ = some u
  pow : Lib.TabIs Tryd.prog w "internal/strconv.uint64pow10" .u64 Lib.pow10Tab
  syn : ∃ te pe, w.cell? ⟨3, 0, none⟩ = some (.iface te pe)
  rng : ∃ te pe, w.cell? ⟨4, 0, none⟩ = some (.iface te pe)
  size : 7 ≤ w.heap.size
theorem tabIs_block {w w' : World} (h : w'.heap[1]? = w.heap[1]?) (hp : Lib.TabIs Tryd.prog w "internal/strconv.uint64pow10" .u64 Lib.pow10Tab) : Lib.TabIs Tryd.prog w' "internal/strconv.uint64pow10" .u64 Lib.pow10Tab := by
  have hg : Tryd.prog.globalNamed "internal/strconv.uint64pow10" = some 1 := by kernel_rfl
  unfold Lib.TabIs World.var? at *
  rw [hg] at hp ⊢
  simp only [Option.bind_some] at hp ⊢
  rw [h]
  exact hp
theorem Laid.blocks {w w' : World} (h : Laid w) (hs : w.heap.size ≤ w'.heap.size) (hb : ∀ k, k < 7 → w'.heap[k]? = w.heap[k]?) : Laid w' := by
  have hc : ∀ (b o : Nat), b < 7 → w'.cell? ⟨b, o, none⟩ = w.cell? ⟨b, o, none⟩ := fun b o hlt => World.cell?_of_block (hb b hlt)
  refine ⟨fun j u hu => (hc _ j (by decide)).trans (h.kinds j u hu), tabIs_block (hb _ (by decide)) h.pow, ?_, ?_, Nat.le_trans h.size hs⟩
  · obtain ⟨te, pe, e⟩ := h.syn
    exact ⟨te, pe, (hc _ 0 (by decide)).trans e⟩
  · obtain ⟨te, pe, e⟩ := h.rng
    exact ⟨te, pe, (hc _ 0 (by decide)).trans e⟩
theorem Laid.below {w w' : World} {B : Nat} (h : Laid w) (hb : Below B w w') (hB : 7 ≤ B) : Laid w' := h.blocks hb.size fun k hk => hb.block k (by omega)
theorem Laid.turn {w w' : World} {S : List Nat} (h : Laid w) (ht : Turn S w w') (hS : ∀ x ∈ S, 7 ≤ x) : Laid w' :=
  h.blocks ht.size fun k hk => ht.block k (by have := h.size; omega) fun hx => by have := hS k hx; omega
theorem Laid.alloc {w : World} (h : Laid w) (o : Obj) : Laid (w.alloc o) := h.below ((Below.refl w.heap.size w).alloc (Nat.le_refl _) o) h.size
theorem Laid.drewN {w : World} (h : Laid w) (n : Nat) : Laid (w.drewN n) := ⟨h.kinds, h.pow, h.syn, h.rng, h.size⟩

theorem below_growS {w : World} (k : Nat) (os : Array Obj) : Below w.heap.size w (Sort.grow (w.drewN k) os) := by
  refine ⟨rfl, rfl, rfl, ?_, fun i hi => ?_⟩
  · show w.heap.size ≤ (w.heap ++ os).size
    rw [Array.size_append]; omega
  · show (w.heap ++ os)[i]? = _
    rw [Array.getElem?_append_left hi]
set_option maxRecDepth 100000 in
theorem mayNumber_any (n : Int) (w : World) : Calls Tryd.prog 63 #[.int .i64 n] w fun e w' => e = .returned (.bool (decide (0 ≤ n ∧ n ≤ 1000))) ∧ w' = w := by
  by_cases h0 : 0 ≤ n
  · by_cases h1 : n ≤ 1000
    · rw [decide_eq_true (And.intro h0 h1)]
      go_enter Tryd.func63, Tryd.ntmps63
      go_wp2
      go_ret
      exact ⟨rfl, rfl⟩
    · rw [decide_eq_false (fun h => h1 h.2)]
      go_enter Tryd.func63, Tryd.ntmps63
      go_wp2
      go_ret
      exact ⟨rfl, rfl⟩
  · rw [decide_eq_false (fun h => h0 h.1)]
    go_enter Tryd.func63, Tryd.ntmps63
    go_wp2
    go_ret
    exact ⟨rfl, rfl⟩

/-- what strconv.Atoi answers: a number and no error, or an error -/
theorem Atoi_any (s : ByteArray) (w : World) (hl : Laid w) (hs : s.size ≤ 1099511627) :
    Calls Tryd.prog 74 #[.string s] w fun e w' => Below w.heap.size w w' ∧ ((∃ v, Lib.atoiAll (bs s) = .ok v ∧ e = .returned (.tuple #[.int .i64 v, .nilIface])) ∨ ((∀ v, Lib.atoiAll (bs s) ≠ .ok v) ∧ ∃ v te pe, e = .returned (.tuple #[.int .i64 v, .iface te pe]))) := by
  cases h : Lib.atoiAll (bs s) with
  | ok v =>
    refine (Any.strconv_Atoi_ok Tryd.atoiA s (by omega) v h w).mono ?_
    rintro e w' ⟨rfl, hw⟩
    refine ⟨?_, .inl ⟨v, rfl, rfl⟩⟩
    rcases hw with rfl | ⟨t, rfl⟩
    · exact Below.refl _ _
    · exact Lib.bytesWorld_below _ _ _
  | «syntax» =>
    obtain ⟨te, pe, hc⟩ := hl.syn
    refine (Any.strconv_Atoi_syntax Tryd.atoiA s (by omega) h _ w hc (.inr ⟨te, pe, rfl⟩)).mono ?_
    rintro e w' ⟨N, rfl, -, -, hb⟩
    exact ⟨hb, .inr ⟨(fun _ h => by cases h), _, _, _, rfl⟩⟩
  | range =>
    obtain ⟨te, pe, hc⟩ := hl.rng
    refine (Any.strconv_Atoi_range Tryd.atoiA s (by omega) h _ w hc (.inr ⟨te, pe, rfl⟩)).mono ?_
    rintro e w' ⟨N, rfl, -, -, hb⟩
    exact ⟨hb, .inr ⟨(fun _ h => by cases h), _, _, _, rfl⟩⟩
theorem Itoa_any (n : Nat) (w : World) (hl : Laid w) (hn : n ≤ 1000) :
    Calls Tryd.prog 59 #[.int .i64 (n : Int)] w fun e w' => e = .returned (.string (str (Ac.digits n))) ∧ Below w.heap.size w w' := by
  refine (Any.strconv_Itoa Tryd.itoaA (n : Int) (by omega) (by omega) w hl.pow).mono ?_
  rintro e w' ⟨rfl, k, os, rfl⟩
  rw [Ac.itoa_digits (by omega)]
  exact ⟨rfl, below_growS k os⟩

set_option maxRecDepth 100000 in
theorem readNumber_any (s : ByteArray) (w : World) (hl : Laid w) (hs : s.size ≤ 1099511627) :
    Calls Tryd.prog 70 #[.string s] w fun e w' => e = .returned (.tuple #[.int .i64 (Ac.numZ (bs s)), .bool (Ac.number (bs s)).isSome]) ∧ Below w.heap.size w w' := by
  have hA := Atoi_any s w hl hs
  by_cases hok : ∃ v, Lib.atoiAll (bs s) = .ok v
  · obtain ⟨v, hv⟩ := hok
    have hA : Calls Tryd.prog 74 #[.string s] w fun e w' => e = .returned (.tuple #[.int .i64 v, .nilIface]) ∧ Below w.heap.size w w' := by
      refine hA.mono ?_
      rintro e w' ⟨hb, ⟨v', h, rfl⟩ | ⟨h, -⟩⟩
      · rw [hv] at h
        cases h
        exact ⟨rfl, hb⟩
      · exact absurd hv (h v)
    by_cases hr : 0 ≤ v ∧ v ≤ 1000
    · obtain ⟨n, rfl⟩ : ∃ n : Nat, v = (n : Int) := ⟨v.toNat, by omega⟩
      have hn : n ≤ 1000 := by omega
      have hM := mayNumber_any (n : Int)
      rw [decide_eq_true hr] at hM
      by_cases he : bs s = Ac.digits n
      · have e1 : Ac.number (bs s) = some n := by rw [he]; exact Ac.number_digits n hn
        have hse : s = str (Ac.digits n) := bs_inj (by rw [he, str])
        have HZ : Hid (Ac.numZ (bs s) = (n : Int)) := by show _ = _; unfold Ac.numZ; rw [e1]; rfl
        have HS : Hid ((Ac.number (bs s)).isSome = true) := by show _ = _; rw [e1]; rfl
        generalize Ac.numZ (bs s) = Z at *
        generalize (Ac.number (bs s)).isSome = T at *
        clear hv he e1
        subst hse
        generalize hd : str (Ac.digits n) = s at *
        have HD : Hid (str (Ac.digits n) = s) := hd
        clear hd
        go_enter Tryd.func70, Tryd.ntmps70
        go_wp2_with (first
          | (go_at_call 74; refine hA.mono ?_; rintro e w1 ⟨rfl, hb⟩)
          | (go_at_call 63; refine (hM _).mono ?_; rintro e w' ⟨rfl, rfl⟩)
          | (go_at_call 59; refine (Itoa_any n _ (hl.below hb hl.size) hn).mono ?_; rintro e w2 ⟨rfl, hb2⟩; try rw [HD.out])
          | fail)
        all_goals (go_ret2; rw [HZ.out, HS.out])
        all_goals exact ⟨rfl, hb.trans (hb2.mono hb.size)⟩
      · have e1 : Ac.number (bs s) = none := by
          cases hc : Ac.number (bs s) with
          | none => rfl
          | some m =>
            obtain ⟨h1, h2⟩ := Ac.number_some hc
            rw [h1, Ac.atoi_digits h2] at hv
            simp only [Lib.NumEnd.ok.injEq, Int.ofNat_inj] at hv
            subst hv
            exact absurd h1 he
        have HZ : Hid (Ac.numZ (bs s) = 0) := by show _ = _; unfold Ac.numZ; rw [e1]; rfl
        have HS : Hid ((Ac.number (bs s)).isSome = false) := by show _ = _; rw [e1]; rfl
        generalize Ac.numZ (bs s) = Z at *
        generalize (Ac.number (bs s)).isSome = T at *
        have hne : str (Ac.digits n) ≠ s := fun h => he (by rw [← h, str])
        generalize hd : str (Ac.digits n) = D at *
        have HD : Hid (str (Ac.digits n) = D) := hd
        have hn2 : (D.toList == s.toList) = false := by
          rw [beq_eq_false_iff_ne, ByteArray.toList_eq, ByteArray.toList_eq]
          exact fun h => hne (bs_inj h)
        clear hd hv e1 he hne
        go_enter Tryd.func70, Tryd.ntmps70
        go_wp2_with (first
          | (go_at_call 74; refine hA.mono ?_; rintro e w1 ⟨rfl, hb⟩)
          | (go_at_call 63; refine (hM _).mono ?_; rintro e w' ⟨rfl, rfl⟩)
          | (go_at_call 59; refine (Itoa_any n _ (hl.below hb hl.size) hn).mono ?_; rintro e w2 ⟨rfl, hb2⟩; try rw [HD.out])
          | fail)
        all_goals (go_ret2; rw [HZ.out, HS.out])
        all_goals exact ⟨rfl, hb.trans (hb2.mono hb.size)⟩
    · have e1 : Ac.number (bs s) = none := by
        cases hc : Ac.number (bs s) with
        | none => rfl
        | some m =>
          obtain ⟨h1, h2⟩ := Ac.number_some hc
          rw [h1, Ac.atoi_digits h2] at hv
          simp only [Lib.NumEnd.ok.injEq] at hv
          subst hv
          omega
      have HZ : Hid (Ac.numZ (bs s) = 0) := by show _ = _; unfold Ac.numZ; rw [e1]; rfl
      have HS : Hid ((Ac.number (bs s)).isSome = false) := by show _ = _; rw [e1]; rfl
      generalize Ac.numZ (bs s) = Z at *
      generalize (Ac.number (bs s)).isSome = T at *
      have hM := mayNumber_any v
      rw [decide_eq_false hr] at hM
      clear hv e1 hr
      go_enter Tryd.func70, Tryd.ntmps70
      go_wp2_with (first
        | (go_at_call 74; refine hA.mono ?_; rintro e w1 ⟨rfl, hb⟩)
        | (go_at_call 63; refine (hM _).mono ?_; rintro e w' ⟨rfl, rfl⟩)
        | fail)
      go_ret2
      rw [HZ.out, HS.out]
      exact ⟨rfl, hb⟩
  · have e1 : Ac.number (bs s) = none := by
      cases hc : Ac.number (bs s) with
      | none => rfl
      | some m =>
        obtain ⟨h1, h2⟩ := Ac.number_some hc
        exact absurd ⟨_, by rw [h1]; exact Ac.atoi_digits h2⟩ hok
    have HZ : Hid (Ac.numZ (bs s) = 0) := by show _ = _; unfold Ac.numZ; rw [e1]; rfl
    have HS : Hid ((Ac.number (bs s)).isSome = false) := by show _ = _; rw [e1]; rfl
    generalize Ac.numZ (bs s) = Z at *
    generalize (Ac.number (bs s)).isSome = T at *
    have hA : Calls Tryd.prog 74 #[.string s] w fun e w' => (∃ v te pe, e = .returned (.tuple #[.int .i64 v, .iface te pe])) ∧ Below w.heap.size w w' := by
      refine hA.mono ?_
      rintro e w' ⟨hb, ⟨v', h, rfl⟩ | ⟨-, h⟩⟩
      · exact absurd ⟨v', h⟩ hok
      · exact ⟨h, hb⟩
    have hM := mayNumber_any
    clear hok e1
    go_enter Tryd.func70, Tryd.ntmps70
    go_wp2_with (first
      | (go_at_call 74; refine hA.mono ?_; rintro e w1 ⟨⟨v, te, pe, rfl⟩, hb⟩)
      | (go_at_call 63; refine (hM _).mono ?_; rintro e w' ⟨rfl, rfl⟩)
      | fail)
    go_ret2
    rw [HZ.out, HS.out]
    exact ⟨rfl, hb⟩

end Go.Proofs.YtfgdlnidfkjbdaaDoor
