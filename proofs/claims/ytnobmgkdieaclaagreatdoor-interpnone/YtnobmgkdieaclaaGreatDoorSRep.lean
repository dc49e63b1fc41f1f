/-
  WHAT strings.ReplaceAll DOES AT ONE BYTE: walked over the library's own text; its Builder by the shelf's contracts.
-/
import Derived.Test.YtnobmgkdieaclaaGreatDoorSLib
import Derived.Lib.ReplaceLaws
import Derived.Lib.SlicesS
import Derived.Deep.LoopGhost
import Derived.Test.YtnobmgkdieaclaaGreatDoorPBs
import Derived.Test.YtnobmgkdieaclaaGreatDoorALineR
import Derived.Shelf.Strings.OnBuilder
namespace Go.Proofs.YtnobmgkdieaclaaGreatDoor
open Go.RowKit Go.Shelf

/-- each c in l is x -/
def flat (c : UInt8) (x l : List UInt8) : List UInt8 := l.flatMap fun b => if b = c then x else [b]
theorem flat_none {c : UInt8} {x : List UInt8} : ∀ {l : List UInt8}, c ∉ l → flat c x l = l
  | [], _ => rfl
  | b :: r, h => by
    have h1 : b ≠ c := fun e => h (by simp [e])
    have h2 := flat_none (c := c) (x := x) (l := r) (fun hm => h (by simp [hm]))
    unfold flat at h2 ⊢
    rw [List.flatMap_cons, h2, if_neg h1]
    rfl
theorem flat_self {c : UInt8} : ∀ (l : List UInt8), flat c [c] l = l
  | [] => rfl
  | b :: r => by
    have h2 := flat_self (c := c) r
    unfold flat at h2 ⊢
    rw [List.flatMap_cons, h2]
    by_cases h : b = c
    · rw [if_pos h, h]; rfl
    · rw [if_neg h]; rfl
theorem flat_hit {c : UInt8} {x l : List UInt8} {k : Nat} (e : l = l.take k ++ c :: l.drop (k + 1)) (h : c ∉ l.take k) : flat c x l = l.take k ++ x ++ flat c x (l.drop (k + 1)) := by
  have h2 := flat_none (x := x) h
  unfold flat at h2 ⊢
  conv => lhs; rw [e]
  rw [List.flatMap_append, h2, List.flatMap_cons, if_pos rfl, List.append_assoc]
theorem flat_len (c : UInt8) (x : List UInt8) : ∀ l : List UInt8, (flat c x l).length ≤ l.length * (x.length + 1)
  | [] => by simp [flat]
  | b :: r => by
    have h2 := flat_len c x r
    unfold flat at h2 ⊢
    rw [List.flatMap_cons, List.length_append, List.length_cons, Nat.add_mul, Nat.one_mul]
    have : (if b = c then x else [b]).length ≤ x.length + 1 := by split <;> simp
    omega
theorem count_hit {c : UInt8} {l : List UInt8} {k : Nat} (e : l = l.take k ++ c :: l.drop (k + 1)) (h : c ∉ l.take k) : l.count c = 1 + (l.drop (k + 1)).count c := by
  conv => lhs; rw [e]
  rw [List.count_append, List.count_eq_zero.2 h, List.count_cons_self]
  omega

theorem mul_small {K n : Nat} (hK : K ≤ 10000) (hn : n ≤ 10000) : K * n ≤ 100000000 := Nat.le_trans (Nat.mul_le_mul hK hn) (by decide)
theorem grow_at (S K n : Nat) (hS : S ≤ 10000) (hK : K ≤ S) (hn : n ≤ 10000) : wrap64 ((S : Int) + wrap64 ((K : Int) * ((n : Int) - 1))) = ((S + K * n - K : Nat) : Int) := by
  have h := mul_small (K := K) (n := n) (by omega) hn
  have e : (K : Int) * ((n : Int) - 1) = ((K * n : Nat) : Int) - (K : Int) := by rw [Int.mul_sub, Int.mul_one]; push_cast; rfl
  rw [e]
  generalize K * n = A at *
  unfold wrap64
  omega
theorem grow_le (S K n : Nat) (hS : S ≤ 10000) (hK : K ≤ S) (hn : n ≤ 10000) : S + K * n - K ≤ 281474976710656 := by
  have h := mul_small (K := K) (n := n) (by omega) hn
  omega
set_option maxRecDepth 100000 in
theorem Count_one (s : ByteArray) (c : UInt8) (w : World) : Calls Tryz.prog 115 #[.string s, .string ⟨#[c]⟩] w fun e w' => e = .returned (.int .i64 ((bs s).count c : Int)) ∧ w' = w := Any.strings_Count_one Tryz.lays138 s c w

set_option maxRecDepth 1000000 in
set_option maxHeartbeats 16000000 in
theorem Replace_one (c : UInt8) (s x : ByteArray) (w : World) (hs : s.size ≤ 10000) (hx : x.size ≤ 10000) : Calls Tryz.prog 130 #[.string s, .string ⟨#[c]⟩, .string x, .int .i64 (-1)] w fun e w' => ∃ t, e = .returned (.string t) ∧ bs t = flat c (bs x) (bs s) ∧ Below w.heap.size w w' := by
  have hbt : x.toList = bs x := ByteArray.toList_eq x
  by_cases h1 : bs x = [c]
  · have q1 : ([c] == x.toList) = true := by rw [hbt, h1]; simp
    have HE : Hid (flat c (bs x) (bs s) = bs s) := by show _ = _; rw [h1]; exact flat_self _
    clear h1 hbt
    go_enter Tryz.func130, Tryz.ntmps130
    go_wp2
    go_ret
    exact ⟨_, rfl, HE.out.symm, Below.refl _ _⟩
  have q1 : ([c] == x.toList) = false := by rw [hbt]; exact beq_false_of_ne (fun e => h1 e.symm)
  clear h1 hbt
  have hC := Count_one s c
  obtain ⟨K, hK⟩ : ∃ K, (bs s).count c = K := ⟨_, rfl⟩
  have HK : Hid _ := hK
  rw [hK] at hC
  clear hK
  by_cases h0 : K = 0
  · subst h0
    have HE : Hid (flat c (bs x) (bs s) = bs s) := flat_none (List.count_eq_zero.1 HK.out)
    go_enter Tryz.func130, Tryz.ntmps130
    go_wp2_with fail
    refine (hC _).mono ?_
    rintro e w1 ⟨rfl, rfl⟩
    go_wp2
    go_ret
    exact ⟨_, rfl, HE.out.symm, Below.refl _ _⟩
  have hcz : ((K : Int) == 0) = false := by simp; omega
  have hKs : K ≤ s.size := by
    have := HK.out
    rw [← this, ← bs_length]
    exact List.count_le_length
  go_enter Tryz.func130, Tryz.ntmps130
  go_wp2_with fail
  refine (hC _).mono ?_
  rintro e w1 ⟨rfl, rfl⟩
  clear hC
  go_wp2_with fail
  rw [grow_at s.size K x.size (by omega) (by omega) (by omega)]
  refine (Any.Builder_Grow_fresh Tryz.lays165 Tryz.Builder_Extra_165 w1.heap.size w1.heap.size _ _ (Nat.le_refl _) (heap_alloc_new w1 _) (by simp) (grow_le s.size K x.size (by omega) (by omega) (by omega))).mono ?_
  rintro e w2 ⟨rfl, hb0, hb1⟩
  have H1 : Hid (Lib.IsBuilder 156 5 w1.heap.size w1.heap.size (Lib.byteCells []) w2) := Or.inr hb0
  have Hb1 : Hid (Below w1.heap.size w1 w2) := ((Below.refl w1.heap.size w1).alloc (Nat.le_refl _) _).trans hb1
  clear hb0 hb1
  go_wp2_with fail
  go_loopg [11, 53] K (fun g s11 s53 wx => ∃ (i start : Nat) (acc : List UInt8), s53 = .int .i64 i ∧ s11 = .int .i64 start ∧ i + g = K ∧ start ≤ s.size ∧
      Hid (Lib.IsBuilder 156 5 w1.heap.size w1.heap.size (Lib.byteCells acc) wx) ∧ Hid (Below w1.heap.size w1 wx) ∧ Hid (acc ++ flat c (bs x) ((bs s).drop start) = flat c (bs x) (bs s)) ∧ Hid (((bs s).drop start).count c = g))
  case atStart => exact ⟨0, 0, [], rfl, rfl, by omega, Nat.zero_le _, H1, Hb1, by show _ = _; simp, by show _ = _; rw [List.drop_zero]; exact HK.out⟩
  case round =>
    obtain ⟨i, start, acc, rfl, rfl, hig, hst, HB, HW, HR, HG⟩ := hrel
    have hBw : w1.heap.size ≤ wr.heap.size := HW.out.size
    have c2 : (start : Int) ≤ (s.size : Int) := by omega
    have hlen : acc.length + (flat c (bs x) ((bs s).drop start)).length ≤ 200000000 := by
      have h1 := congrArg List.length HR.out
      rw [List.length_append] at h1
      have h2 := flat_len c (bs x) (bs s)
      rw [bs_length, bs_length] at h2
      have h3 : s.size * (x.size + 1) ≤ 10000 * 10001 := Nat.mul_le_mul hs (by omega)
      omega
    have hacc : acc.length ≤ 200000000 := by omega
    clear hlen
    cases gk with
    | zero =>
      have hiK : ¬ ((i : Int) < (K : Int)) := by omega
      go_wp2_with fail
      refine (Any.Builder_WriteString Tryz.lays166 Tryz.Builder_Extra_166 w1.heap.size w1.heap.size _ _ wr HB.out (by rw [Lib.byteCells_length, ByteArray.size_extract]; omega) hBw).mono ?_
      rintro e w3 ⟨rfl, h3, hb3⟩
      rw [Lib.strCells_eq, Lib.extract_to_end, ← Lib.byteCells_append] at h3
      have hfin : acc ++ (bs s).drop start = flat c (bs x) (bs s) := by
        rw [← HR.out, flat_none (List.count_eq_zero.1 HG.out)]
      have H3 : Hid (Lib.IsBuilder 156 5 w1.heap.size w1.heap.size (Lib.byteCells (flat c (bs x) (bs s))) w3) := by
        refine Or.inr ?_
        rw [← hfin]
        exact h3
      have Hb3 : Hid (Below w1.heap.size w1 w3) := HW.out.trans hb3
      have hBw3 : w1.heap.size ≤ w3.heap.size := Hb3.out.size
      clear h3 hb3 hfin
      go_wp2_with fail
      refine (Any.Builder_String_any Tryz.lays169 Tryz.Builder_Extra_169 w1.heap.size w1.heap.size _ w3 H3.out hBw3).mono ?_
      rintro e w5 ⟨rfl, hb5⟩
      have Hb5 : Hid (Below w1.heap.size w1 w5) := Hb3.out.trans hb5
      clear hb5
      go_wp2
      go_ret
      exact ⟨_, rfl, by simp, Hb5.out⟩
    | succ g =>
      have hiK : (i : Int) < (K : Int) := by omega
      obtain ⟨j, hj, hj2, hj3, hj4⟩ : ∃ k : Nat, Lib.indexByte ((bs s).drop start) c = k ∧ k < ((bs s).drop start).length ∧ (bs s).drop start = ((bs s).drop start).take k ++ c :: ((bs s).drop start).drop (k + 1) ∧ c ∉ ((bs s).drop start).take k := by
        rcases indexByte_cases ((bs s).drop start) c with ⟨-, h2⟩ | h
        · exfalso
          have := HG.out
          rw [List.count_eq_zero.2 h2] at this
          omega
        · exact h
      have Hcnt : Hid (((bs s).drop (start + j + 1)).count c = g) := by
        have h1 := count_hit hj3 hj4
        rw [HG.out, List.drop_drop, ← Nat.add_assoc] at h1
        show _ = _
        omega
      have Hrep : Hid (acc ++ ((bs s).drop start).take j ++ bs x ++ flat c (bs x) ((bs s).drop (start + j + 1)) = flat c (bs x) (bs s)) := by
        have h1 := flat_hit (x := bs x) hj3 hj4
        rw [List.drop_drop, ← Nat.add_assoc] at h1
        show _ = _
        rw [← HR.out, h1]
        simp only [List.append_assoc]
      rw [List.length_drop, bs_length] at hj2
      have hroom : start + j + 1 ≤ s.size := by omega
      have c3 : (start : Int) ≤ (start : Int) + (j : Int) := by omega
      have c4 : (start : Int) + (j : Int) ≤ (s.size : Int) := by omega
      have Hn : Hid (Lib.byteCells acc ++ Lib.strCells (s.extract start (start + j)) ++ Lib.strCells x = Lib.byteCells (acc ++ ((bs s).drop start).take j ++ bs x)) := by
        show _ = _
        rw [Lib.strCells_eq, Lib.strCells_eq, Lib.extract_data, Nat.add_sub_cancel_left, ← Lib.byteCells_append, ← Lib.byteCells_append]
      have hIx := Index_one (s.extract start s.size) c
      rw [show bs (s.extract start s.size) = (bs s).drop start by rw [bs_extract, List.take_of_length_le (by rw [List.length_drop, bs_length]; exact Nat.le_refl _)], hj] at hIx
      clear hj hj3 hj4 HR
      go_wp2_with fail
      refine (hIx _).mono ?_
      rintro e w2' ⟨rfl, rfl⟩
      clear hIx
      go_wp2_with fail
      refine (Any.Builder_WriteString Tryz.lays166 Tryz.Builder_Extra_166 w1.heap.size w1.heap.size _ (s.extract start (start + j)) _ HB.out (by rw [Lib.byteCells_length, ByteArray.size_extract]; omega) hBw).mono ?_
      rintro e w3 ⟨rfl, h3, hb3⟩
      have hBw3 : w1.heap.size ≤ w3.heap.size := Nat.le_trans hBw hb3.size
      have H3 : Hid _ := h3
      have Hb3 : Hid _ := hb3
      clear h3 hb3
      go_wp2_with fail
      refine (Any.Builder_WriteString Tryz.lays166 Tryz.Builder_Extra_166 w1.heap.size w1.heap.size _ x w3 (Or.inr H3.out) (by rw [List.length_append, Lib.byteCells_length, Lib.strCells_length, ByteArray.size_extract]; omega) hBw3).mono ?_
      rintro e w4 ⟨rfl, h4, hb4⟩
      rw [Hn.out] at h4
      have H4 : Hid (Lib.IsBuilder 156 5 w1.heap.size w1.heap.size _ w4) := Or.inr h4
      have Hb4 : Hid (Below w1.heap.size w1 w4) := (HW.out.trans Hb3.out).trans hb4
      clear h4 hb4
      go_wp2
      go_roundg g
      case measure => omega
      case rel => exact ⟨i + 1, start + j + 1, _, by first | rfl | (simp; unfold wrap64; omega), by first | rfl | simp | (simp; unfold wrap64; omega), by omega, by omega, H4, Hb4, Hrep, Hcnt⟩
set_option maxRecDepth 100000 in
theorem ReplaceAll_one (c : UInt8) (s x : ByteArray) (w : World) (hs : s.size ≤ 10000) (hx : x.size ≤ 10000) : Calls Tryz.prog 116 #[.string s, .string ⟨#[c]⟩, .string x] w fun e w' => ∃ t, e = .returned (.string t) ∧ bs t = flat c (bs x) (bs s) ∧ Below w.heap.size w w' := by
  go_enter Tryz.func116, Tryz.ntmps116
  go_wp2_with fail
  refine (Replace_one c s x _ hs hx).mono ?_
  rintro e w1 ⟨t, rfl, ht, hB⟩
  go_wp2
  go_ret
  exact ⟨_, rfl, ht, hB⟩
end Go.Proofs.YtnobmgkdieaclaaGreatDoor

namespace Go.Proofs.YtnobmgkdieaclaaGreatDoor
open Go.RowKit Go.Shelf

theorem told_flat (line w : List UInt8) : Ip.told line w = flat 64 line w := rfl
theorem joinW_lib : ∀ ws : List (List UInt8), Lib.join ws [32] = Ip.joinW ws
  | [] => rfl
  | [w] => Lib.join_one w [32]
  | w :: v :: r => by
    rw [Ip.joinW, ← joinW_lib (v :: r)]
    · simp [Lib.join]
    · simp
/-- how many bytes words have, with the blanks -/
def Ip.joinLen (ws : List (List UInt8)) : Nat := (Ip.joinW ws).length

set_option maxRecDepth 100000 in
theorem Join_any (ws : List (List UInt8)) (v : Value) (w : World) (B : Nat) (h : TxR.Sl w B v ws) (hB : B ≤ w.heap.size) (hs : (Ip.joinW ws).length ≤ 10000) (hn : ws.length ≤ 1099511627) :
    Calls Tryz.prog 117 #[v, .string ⟨#[32]⟩] w fun e w' => e = .returned (.string (str (Ip.joinW ws))) ∧ Below w.heap.size w w' := by
  obtain ⟨ad, c, rfl, hle, hn0, hc⟩ := h
  cases ws with
  | nil =>
    refine (Any.strings_Join_none Tryz.lays156 Tryz.Builder_Extra_156 ad c ⟨#[32]⟩ w).mono ?_
    rintro e w' ⟨rfl, rfl⟩
    exact ⟨rfl, Below.refl _ _⟩
  | cons a r =>
    obtain ⟨b, o, rfl, hb, hcell⟩ := hc (by simp)
    have e1 : (((a :: r).map str).map fun x => x.data.toList) = a :: r := by
      rw [List.map_map]
      conv => rhs; rw [← List.map_id (a :: r)]
      apply List.map_congr_left
      intro x _
      simp [str]
    have e2 : Lib.join (((a :: r).map str).map fun x => x.data.toList) (ByteArray.mk #[32]).data.toList = Ip.joinW (a :: r) := by rw [e1]; exact joinW_lib _
    have hl : ((a :: r).map str).length = (a :: r).length := List.length_map ..
    have := Any.strings_Join Tryz.lays156 Tryz.Builder_Extra_156 b o c ((a :: r).map str) ⟨#[32]⟩ w (by
      intro j x hx
      rw [List.getElem?_map] at hx
      cases hj : (a :: r)[j]? with
      | none => rw [hj] at hx; cases hx
      | some y =>
        rw [hj] at hx
        simp only [Option.map_some, Option.some.injEq] at hx
        subst hx
        refine hcell j _ ?_
        have hlt := (List.getElem?_eq_some_iff.1 hj).1
        have hv := TxR.vals_get (a :: r) j 0 hlt (by decide)
        rw [show j * TxR.k + 0 = j by show j * 1 + 0 = j; omega] at hv
        rw [hv]
        have : (a :: r)[j] = y := (List.getElem?_eq_some_iff.1 hj).2
        rw [this]
        rfl) (by omega) (by rw [hl]; omega) (by rw [hl]; exact hle) (by rw [e2]; omega)
    rw [hl, e2] at this
    exact this.mono fun e w' h => h

set_option maxRecDepth 100000 in
theorem asTold_any (line : List UInt8) (ws : List (List UInt8)) (v : Value) (w : World) (B : Nat) (h : TxR.Sl w B v ws) (hB : B ≤ w.heap.size) (hs : (Ip.joinW ws).length ≤ 10000) (hn : ws.length ≤ 1099511627) (hl : line.length ≤ 10000) :
    Calls Tryz.prog 101 #[.string (str line), v] w fun e w' => e = .returned (.string (str (Ip.words line ws))) ∧ Below w.heap.size w w' := by
  have hJ := Join_any ws v w B h hB hs hn
  have hR := fun W => ReplaceAll_one 64 (str (Ip.joinW ws)) (str line) W (by rw [str_size]; exact hs) (by rw [str_size]; exact hl)
  have hR2 : ∀ W, Calls Tryz.prog 116 #[.string (str (Ip.joinW ws)), .string ⟨#[64]⟩, .string (str line)] W fun e w' => e = .returned (.string (str (Ip.words line ws))) ∧ Below W.heap.size W w' := by
    intro W
    refine (hR W).mono ?_
    rintro e w' ⟨t, rfl, ht, hb⟩
    refine ⟨?_, hb⟩
    have : t = str (Ip.words line ws) := by
      rw [← str_of t]
      show str (bs t) = _
      rw [ht]
      simp [bs, str, Ip.words, told_flat]
    rw [this]
  clear hR hs hn hl h
  generalize str (Ip.joinW ws) = J at *
  generalize str (Ip.words line ws) = R at *
  generalize str line = L at *
  go_enter Tryz.func101, Tryz.ntmps101
  go_wp2_with (first | (go_at_call 117; refine hJ.mono ?_; rintro e w1 ⟨rfl, hb1⟩) | (go_at_call 116; refine (hR2 _).mono ?_; rintro e w2 ⟨rfl, hb2⟩) | fail)
  go_ret
  exact ⟨rfl, hb1.trans (hb2.mono hb1.size)⟩

end Go.Proofs.YtnobmgkdieaclaaGreatDoor
