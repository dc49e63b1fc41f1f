/-
  WHAT strings.ReplaceAll DOES AT ONE BYTE: walked over the library's own text; its Builder by the shelf's contracts.
-/
import Derived.Test.YtnobmgkdieaclaaGreatDoorSLib
import Derived.Lib.ReplaceLaws
import Derived.Lib.SlicesS
import Derived.Deep.LoopGhost
import Derived.Test.YtnobmgkdieaclaaGreatDoorPBs
import Derived.Test.YtnobmgkdieaclaaGreatDoorALineR
import Derived.Shelf.Strings.OnBuilder
namespace Go.Proofs.YtnobmgkdieaclaaGreatDoor
open Go.RowKit Go.Shelf

/-- each c in l is x -/
def flat (c : UInt8) (x l : List UInt8) : List UInt8 := l.flatMap fun b => if b = c then x else [b]
theorem flat_none {c : UInt8} {x : List UInt8} : ∀ {l : List UInt8}, c ∉ l → flat c x l = l
  | [], _ => rfl
  | b :: r, h => by
    have h1 : b ≠ c := fun e => h (by simp [e])
    have h2 := flat_none (c := c) (x := x) (l := r) (fun hm => h (by simp [hm]))
    unfold flat at h2 ⊢
    rw [List.flatMap_cons, h2, if_neg h1]
    rfl
theorem flat_self {c : UInt8} : ∀ (l : List UInt8), flat c [c] l = l
  | [] => rfl
  | b :: r => by
    have h2 := flat_self (c := c) r
    unfold flat at h2 ⊢
    rw [List.flatMap_cons, h2]
    by_cases h : b = c
    · rw [if_pos h, h]; rfl
    · rw [if_neg h]; rfl
theorem flat_hit {c : UInt8} {x l : List UInt8} {k : Nat} (e : l = l.take k ++ c :: l.drop (k + 1)) (h : c ∉ l.take k) : flat c x l = l.take k ++ x ++ flat c x (l.drop (k + 1)) := by
  have h2 := flat_none (x := x) h
  unfold flat at h2 ⊢
  conv => lhs; rw [e]
  rw [List.flatMap_append, h2, List.flatMap_cons, if_pos rfl, List.append_assoc]
theorem flat_len (c : UInt8) (x : List UInt8) : ∀ l : List UInt8, (flat c x l).length ≤ l.length * (x.length + 1)
  | [] => by simp [flat]
  | b :: r => by
    have h2 := flat_len c x r
    unfold flat at h2 ⊢
    rw [List.flatMap_cons, List.length_append, List.length_cons, Nat.add_mul, Nat.one_mul]
    have : (if b = c then x else [b]).length ≤ x.length + 1 := by split <;> simp
    omega
theorem count_hit {c : UInt8} {l : List UInt8} {k : Nat} (e : l = l.take k ++ c :: l.drop (k + 1)) (h : c ∉ l.take k) : l.count c = 1 + (l.drop (k + 1)).count c := by
  conv => lhs; rw [e]
  rw [List.count_append, List.count_eq_zero.2 h, List.count_cons_self]
  omega

theorem mul_small {K n : Nat} (hK : K ≤ 10000) (hn : n ≤ 10000) : K * n ≤ 100000000 := Nat.le_trans (Nat.mul_le_mul hK hn) (by decide)
theorem grow_at (S K n : Nat) (hS : S ≤ 10000) (hK : K ≤ S) (hn : n ≤ 10000) : wrap64 ((S : Int) + wrap64 ((K : Int) * ((n : Int) - 1))) = ((S + K * n - K : Nat) : Int) := by
  have h := mul_small (K := K) (n := n) (by omega) hn
  have e : (K : Int) * ((n : Int) - 1) = ((K * n : Nat) : Int) - (K : Int) := by rw [Int.mul_sub, Int.mul_one]; push_cast; rfl
  rw [e]
  generalize K * n = A at *
  unfold wrap64
  omega
theorem grow_le (S K n : Nat) (hS : S ≤ 10000) (hK : K ≤ S) (hn : n ≤ 10000) : S + K * n - K ≤ 281474976710656 := by
  have h := mul_small (K := K) (n := n) (by omega) hn
  omega
set_option maxRecDepth 100000 in
theorem Count_one (s : ByteArray) (c : UInt8) (w : World) : Calls Tryz.prog 115 #[.string s, .string ⟨#[c]⟩] w fun e w' => e = .returned (.int .i64 ((bs s).count c : Int)) ∧ w' = w := Any.strings_Count_one Tryz.lays138 s c w

set_option maxRecDepth 1000000 in
set_option maxHeartbeats 16000000 in
theorem Replace_one (c : UInt8) (s x : ByteArray) (w : World) (hs : s.size ≤ 10000) (hx : x.size ≤ 10000) : Calls Tryz.prog 130 #[.string s, .string ⟨#[c]⟩, .string x, .int .i64 (-1)] w fun e w' => ∃ t, e = .returned (.string t) ∧ bs t = flat c (bs x) (bs s) ∧ Below w.heap.size w w' := by
  have hbt : x.toList = bs x := ByteArray.toList_eq x
  by_cases h1 : bs x = [c]
  · have q1 : ([c] == x.toList) = true := by rw [hbt, h1]; simp
    have HE : Hid (flat c (bs x) (bs s) = bs s) := by show _ = _; rw [h1]; exact flat_self _
    clear h1 hbt
    go_enter Tryz.func130, Tryz.ntmps130
    go_wp2
    go_ret
    exact ⟨_, rfl, HE.out.symm, Below.refl _ _⟩
  have q1 : ([c] == x.toList) = false := by rw [hbt]; exact beq_false_of_ne (fun e => h1 e.symm)
  clear h1 hbt
  have hC := Count_one s c
  obtain ⟨K, hK⟩ : ∃ K, (bs s).count c = K := ⟨_, rfl⟩
  have HK : Hid _ := hK
  rw [hK] at hC
  clear hK
  by_cases h0 : K = 0
  · subst h0
    have HE : Hid (flat c (bs x) (bs s) = bs s) := flat_none (List.count_eq_zero.1 HK.out)
    go_enter Tryz.func130, Tryz.ntmps130
    go_wp2_with fail
    refine (hC _).mono ?_
    rintro e w1 ⟨rfl, rfl⟩
    go_wp2
    go_ret
    exact ⟨_, rfl, HE.out.symm, Below.refl _ _⟩
  have hcz : ((K : Int) == 0) = false := by simp; omega
  have hKs : K ≤ s.size := by
    have := HK.out
    rw [← this, ← bs_length]
    exact List.count_le_length
  go_enter Tryz.func130, Tryz.ntmps130
  go_wp2_with fail
  refine (hC _).mono ?_
  rintro e w1 ⟨rfl, rfl⟩
  clear hC
  go_wp2_with fail
  rw [grow_at s.size K x.size (by omega) (by omega) (by omega)]
  refine (Any.Builder_Grow_fresh Tryz.lays165 Tryz.Builder_Extra_165 w1.heap.size w1.heap.size _ _ (Nat.le_refl _) (heap_alloc_new w1 _) (by simp) (grow_le s.size K x.size (by omega) (by omega) (by omega))).mono ?_
  rintro e w2 ⟨rfl, hb0, hb1⟩
  have H1 : Hid (Lib.IsBuilder 156 5 w1.heap.size w1.heap.size (Lib.byteCells []) w2) := Or.inr hb0
  have Hb1 : Hid (Below w1.heap.size w1 w2) := ((Below.refl w1.heap.size w1).alloc (Nat.le_refl _) _).trans hb1
  clear hb0 hb1
  go_wp2_with fail
  go_loopg [11, 53] K (fun g s11 s53 wx => ∃ (i start : Nat) (acc : List UInt8), s53 = .int .i64 i ∧ s11 = .int .i64 start ∧ i + g = K ∧ start ≤ s.size ∧
      Hid (Lib.IsBuilder 156 5 w1.heap.size w1.heap.size (Lib.byteCells acc) wx) ∧ Hid (Below w1.heap.size w1 wx) ∧ Hid (acc ++ flat c (bs x) ((bs s).drop start) = flat c (bs x) (bs s)) ∧ Hid (((bs s).drop start).count c = g))
  case atStart => exact ⟨0, 0, [], rfl, rfl, by omega, Nat.zero_le _, H1, Hb1, by show _ = _; simp, by show _ = _; rw [List.drop_zero]; exact HK.out⟩
  case round =>
    obtain ⟨i, start, acc, rfl, rfl, hig, hst, HB, HW, HR, HG⟩ := hrel
    have hBw : w1.heap.size ≤ wr.heap.size := HW.out.size
    have c2 : (start : Int) ≤ (s.size : Int) := by omega
    have hlen : acc.length + (flat c (bs x) ((bs s).drop start)).length ≤ 200000000 := by
      have h1 := congrArg List.length HR.out
      rw [List.length_append] at h1
      have h2 := flat_len c (bs x) (bs s)
      rw [bs_length, bs_length] at h2
      have h3 : s.size * (x.size + 1) ≤ 10000 * 10001 := Nat.mul_le_mul hs (by omega)
      omega
    have hacc : acc.length ≤ 200000000 := by omega
    clear hlen
    cases gk with
    | zero =>
      have hiK : ¬ ((i : Int) < (K : Int)) := by omega
      go_wp2_with fail
      refine (Any.Builder_WriteString Tryz.lays166 Tryz.Builder_Extra_166 w1.heap.size w1.heap.size _ _ wr HB.out (by rw [Lib.byteCells_length, ByteArray.size_extract]; omega) hBw).mono ?_
      rintro e w3 ⟨rfl, h3, hb3⟩
      rw [Lib.strCells_eq, Lib.extract_to_end, ← Lib.byteCells_append] at h3
      have hfin : acc ++ (bs s).drop start = flat c (bs x) (bs s) := by
        rw [← HR.out, flat_none (List.count_eq_zero.1 HG.out)]
      have H3 : Hid (Lib.IsBuilder 156 5 w1.heap.size w1.heap.size (Lib.byteCells (flat c (bs x) (bs s))) w3) := by
        refine Or.inr ?_
        rw [← hfin]
        exact h3
      have Hb3 : Hid (Below w1.heap.size w1 w3) := HW.out.trans hb3
      have hBw3 : w1.heap.size ≤ w3.heap.size := Hb3.out.size
      clear h3 hb3 hfin
      go_wp2_with fail
      refine (Any.Builder_String_any Tryz.lays169 Tryz.Builder_Extra_169 w1.heap.size w1.heap.size _ w3 H3.out hBw3).mono ?_
      rintro e w5 ⟨rfl, hb5⟩
      have Hb5 : Hid (Below w1.heap.size w1 w5) := Hb3.out.trans hb5
      clear hb5
      go_wp2
      go_ret
      exact ⟨_, rfl, by simp, Hb5.out⟩
    | succ g =>
      have hiK : (i : Int) < (K : Int) := by omega
      obtain ⟨j, hj, hj2, hj3, hj4⟩ : ∃ k : Nat, Lib.indexByte ((bs s).drop start) c = k ∧ k < ((bs s).drop start).length ∧ (bs s).drop start = ((bs s).drop start).take k ++ c :: ((bs s).drop start).drop (k + 1) ∧ c ∉ ((bs s).drop start).take k := by
        rcases indexByte_cases ((bs s).drop start) c with ⟨-, h2⟩ | h
        · exfalso
          have := HG.out
          rw [List.count_eq_zero.2 h2] at this
          omega
        · exact h
      have Hcnt : Hid (((bs s).drop (start + j + 1)).count c = g) := by
        have h1 := count_hit hj3 hj4
        rw [HG.out, List.drop_drop, ← Nat.add_assoc] at h1
        show _ = _
        omega
      have Hrep : Hid (acc ++ ((bs s).drop start).take j ++ bs x ++ flat c (bs x) ((bs s).drop (start + j + 1)) = flat c (bs x) (bs s)) := by
        have h1 := flat_hit (x := bs x) hj3 hj4
        rw [List.drop_drop, ← Nat.add_assoc] at h1
        show _ = _
        rw [← HR.out, h1]
        simp only [List.append_assoc]
      rw [List.length_drop, bs_length] at hj2
      have hroom : start + j + 1 ≤ s.size := by omega
      have c3 : (start : Int) ≤ (start : Int) + (j : Int) := by omega
      have c4 : (start : Int) + (j : Int) ≤ (s.size : Int) := by omega
      have Hn : Hid (Lib.byteCells acc ++ Lib.strCells (s.extract start (start + j)) ++ Lib.strCells x = Lib.byteCells (acc ++ ((bs s).drop start).take j ++ bs x)) := by
        show _ = _
        rw [Lib.strCells_eq, Lib.strCells_eq, Lib.extract_data, Nat.add_sub_cancel_left, ← Lib.byteCells_append, ← Lib.byteCells_append]
      have hIx := Index_one (s.extract start s.size) c
      rw [show bs (s.extract start s.size) = (bs s).drop start by rw [bs_extract, List.take_of_length_le (by rw [List.length_drop, bs_length]; exact Nat.le_refl _)], hj] at hIx
      clear hj hj3 hj4 HR
      go_wp2_with fail
      refine (hIx _).mono ?_
      rintro e w2' ⟨rfl, rfl⟩
      clear hIx
      go_wp2_with fail
      refine (Any.Builder_WriteString Tryz.lays166 Tryz.Builder_Extra_166 w1.heap.size w1.heap.size _ (s.extract start (start + j)) _ HB.out (by rw [Lib.byteCells_length, ByteArray.size_extract]; omega) hBw).mono ?_
      rintro e w3 ⟨rfl, h3, hb3⟩
      have hBw3 : w1.heap.size ≤ w3.heap.size := Nat.le_trans hBw hb3.size
      have H3 : Hid _ := h3
      have Hb3 : Hid _ := hb3
      clear h3 hb3
      go_wp2_with fail
      refine (Any.Builder_WriteString Tryz.lays166 Tryz.Builder_Extra_166 w1.heap.size w1.heap.size _ x w3 (Or.inr H3.out) (by rw [List.length_append, Lib.byteCells_length, Lib.strCells_length, ByteArray.size_extract]; omega) hBw3).mono ?_
      rintro e w4 ⟨rfl, h4, hb4⟩
      rw [Hn.out] at h4
      have H4 : Hid (Lib.IsBuilder 156 5 w1.heap.size w1.heap.size _ w4) := Or.inr h4
      have Hb4 : Hid (Below w1.heap.size w1 w4) := (HW.out.trans Hb3.out).trans hb4
      clear h4 hb4
      go_wp2
      go_roundg g
      case measure => omega
      case rel => exact ⟨i + 1, start + j + 1, _, by first | rfl | (simp; unfold wrap64; omega), by first | rfl | simp | (simp; unfold wrap64; omega), by omega, by omega, H4, Hb4, Hrep, Hcnt⟩
set_option maxRecDepth 100000 in
theorem ReplaceAll_one (c : UInt8) (s x : ByteArray) (w : World) (hs : s.size ≤ 10000) (hx : x.size ≤ 10000) : Calls Tryz.prog 116 #[.string s, .string ⟨#[c]⟩, .string x] w fun e w' => ∃ t, e = .returned (.string t) ∧ bs t = flat c (bs x) (bs s) ∧ Below w.heap.size w w' := by
  go_enter Tryz.func116, Tryz.ntmps116
  go_wp2_with fail
  refine (Replace_one c s x _ hs hx).mono ?_
  rintro e w1 ⟨t, rfl, ht, hB⟩
  go_wp2
  go_ret
  exact ⟨_, rfl, ht, hB⟩
end Go.Proofs.YtnobmgkdieaclaaGreatDoor

namespace Go.Proofs.YtnobmgkdieaclaaGreatDoor
open Go.RowKit Go.Shelf

theorem told_flat (line w : List UInt8) : Ip.told line w = flat 64 line w := rfl
theorem joinW_lib : ∀ ws : List (List UInt8), Lib.join ws [32] = Ip.joinW ws
  | [] => rfl
  | [w] => Lib.join_one w [32]
  | w :: v :: r => by
    rw [Ip.joinW, ← joinW_lib (v :: r)]
    · simp [Lib.join]
    · simp
/-- how many bytes words have, with the blanks -/
def Ip.joinLen (ws : List (List UInt8)) : Nat := (Ip.joinW ws).length

set_option maxRecDepth 100000 in
theorem Join_any (ws : List (List UInt8)) (v : Value) (w : World) (B : Nat) (h : TxR.Sl w B v ws) (hB : B ≤ w.heap.size) (hs : (Ip.joinW ws).length ≤ 10000) (hn : ws.length ≤ 1099511627) :
    Calls Tryz.prog 117 #[v, .string ⟨#[32]⟩] w fun e w' => e = .returned (.string (str (Ip.joinW ws))) ∧ Below w.heap.size w w' := by
  obtain ⟨ad, c, rfl, hle, hn0, hc⟩ := h
  cases ws with
  | nil =>
    refine (Any.strings_Join_none Tryz.lays156 Tryz.Builder_Extra_156 ad c ⟨#[32]⟩ w).mono ?_
    rintro e w' ⟨rfl, rfl⟩
    exact ⟨rfl, Below.refl _ _⟩
  | cons a r =>
    obtain ⟨b, o, rfl, hb, hcell⟩ := hc (by simp)
    have e1 : (((a :: r).map str).map fun x => x.data.toList) = a :: r := by
      rw [List.map_map]
      conv => rhs; rw [← List.map_id (a :: r)]
      apply List.map_congr_left
      intro x _
      simp [str]
    have e2 : Lib.join (((a :: r).map str).map fun x => x.data.toList) (ByteArray.mk #[32]).data.toList = Ip.joinW (a :: r) := by rw [e1]; exact joinW_lib _
    have hl : ((a :: r).map str).length = (a :: r).length := List.length_map ..
    have := Any.strings_Join Tryz.lays156 Tryz.Builder_Extra_156 b o c ((a :: r).map str) ⟨#[32]⟩ w (by
      intro j x hx
      rw [List.getElem?_map] at hx
      cases hj : (a :: r)[j]? with
      | none => rw [hj] at hx; cases hx
      | some y =>
        rw [hj] at hx
        simp only [Option.map_some, Option.some.injEq] at hx
        subst hx
        refine hcell j _ ?_
        have hlt := (List.getElem?_eq_some_iff.1 hj).1
        have hv := TxR.vals_get (a :: r) j 0 hlt (by decide)
        rw [show j * TxR.k + 0 = j by show j * 1 + 0 = j; omega] at hv
        rw [hv]
        have : (a :: r)[j] = y := (List.getElem?_eq_some_iff.1 hj).2
        rw [this]
        rfl) (by omega) (by rw [hl]; omega) (by rw [hl]; exact hle) (by rw [e2]; omega)
    rw [hl, e2] at this
    exact this.mono fun e w' h => h

set_option maxRecDepth 100000 in
theorem asTold_any (line : List UInt8) (ws : List (List UInt8)) (v : Value) (w : World) (B : Nat) (h : TxR.Sl w B v ws) (hB : B ≤ w.heap.size) (hs : (Ip.joinW ws).length ≤ 10000) (hn : ws.length ≤ 1099511627) (hl : line.length ≤ 10000) :
    Calls Tryz.prog 101 #[.string (str line), v] w fun e w' => e = .returned (.string (str (Ip.words line ws))) ∧ Below w.heap.size w w' := by
  have hJ := Join_any ws v w B h hB hs hn
  have hR := fun W => ReplaceAll_one 64 (str (Ip.joinW ws)) (str line) W (by rw [str_size]; exact hs) (by rw [str_size]; exact hl)
  have hR2 : ∀ W, Calls Tryz.prog 116 #[.string (str (Ip.joinW ws)), .string ⟨#[64]⟩, .string (str line)] W fun e w' => e = .returned (.string (str (Ip.words line ws))) ∧ Below W.heap.size W w' := by
    intro W
    refine (hR W).mono ?_
    rintro e w' ⟨t, rfl, ht, hb⟩
    refine ⟨?_, hb⟩
    have : t = str (Ip.words line ws) := by
      rw [← str_of t]
      show str (bs t) = _
      rw [ht]
      simp [bs, str, Ip.words, told_flat]
    rw [this]
  clear hR hs hn hl h
  generalize str (Ip.joinW ws) = J at *
  generalize str (Ip.words line ws) = R at *
  generalize str line = L at *
  go_enter Tryz.func101, Tryz.ntmps101
  go_wp2_with (first | (go_at_call 117; refine hJ.mono ?_; rintro e w1 ⟨rfl, hb1⟩) | (go_at_call 116; refine (hR2 _).mono ?_; rintro e w2 ⟨rfl, hb2⟩) | fail)
  go_ret
  exact ⟨rfl, hb1.trans (hb2.mono hb1.size)⟩

end Go.Proofs.YtnobmgkdieaclaaGreatDoor

namespace Go.Proofs.YtnobmgkdieaclaaGreatDoor
open Go.RowKit Go.Shelf

namespace Ip
theorem cutN_ne : ∀ s : B, cutN s ≠ []
  | [] => by simp [cutN]
  | c :: r => by
    rw [cutN]
    split
    · simp
    · split <;> simp
theorem cutN_plain : ∀ {s : B}, (10 : UInt8) ∉ s → cutN s = [s]
  | [], _ => rfl
  | c :: r, h => by
    have h1 : c ≠ 10 := fun e => h (by simp [e])
    rw [cutN, if_neg h1, cutN_plain (s := r) (fun hm => h (by simp [hm]))]
theorem cutN_hit : ∀ {a b : B}, (10 : UInt8) ∉ a → cutN (a ++ 10 :: b) = a :: cutN b
  | [], b, _ => by simp [cutN]
  | c :: r, b, h => by
    have h1 : c ≠ 10 := fun e => h (by simp [e])
    rw [List.cons_append, cutN, if_neg h1, cutN_hit (a := r) (fun hm => h (by simp [hm]))]
theorem cutN_len : ∀ s : B, (cutN s).length = s.count 10 + 1
  | [] => rfl
  | c :: r => by
    have h := cutN_len r
    have hn := cutN_ne r
    rw [cutN]
    by_cases hc : c = 10
    · rw [if_pos hc, hc, List.count_cons_self, List.length_cons, h]
    · rw [if_neg hc, List.count_cons_of_ne (fun e => hc e), ← h]
      cases hr : cutN r with
      | nil => exact absurd hr hn
      | cons p q => simp
end Ip
theorem str_extract (R : List UInt8) (a b : Nat) : (str R).extract a b = str ((R.drop a).take (b - a)) := by
  apply bs_inj
  rw [bs_extract]
  simp [bs, str]
/-- block g holds just these texts -/
def TxB (w : World) (g : Nat) (l : List (List UInt8)) : Prop := Rw w g (l.map fun s => Value.string (str s)).toArray 9
theorem TxB.set {w : World} {g : Nat} {l : List (List UInt8)} (h : TxB w g l) (j : Nat) (s : List UInt8) (hj : j < l.length) : TxB (w.setCell ⟨g, j, none⟩ (.string (str s))) g (l.set j s) := by
  have := Rw.set h j (.string (str s)) (by simpa using hj)
  unfold TxB
  rw [List.map_set]
  simpa using this
theorem TxB.free {w : World} {g : Nat} {l : List (List UInt8)} (h : TxB w g l) (j : Nat) : w.frozen? ⟨g, j, none⟩ = false := Rw.free h j
theorem TxB.cell {w : World} {g : Nat} {l : List (List UInt8)} (h : TxB w g l) (j : Nat) (hj : j < l.length) : w.cell? ⟨g, j, none⟩ = some (.string (str l[j])) := by
  rw [Rw.cell h j]
  simp [hj]
theorem txB_vals : ∀ l : List (List UInt8), TxR.vals l = l.map fun s => Value.string (str s)
  | [] => rfl
  | a :: r => by
    rw [List.map_cons, ← txB_vals r]
    rfl
theorem TxB.own {w : World} {g base : Nat} {l : List (List UInt8)} (h : TxB w g l) (hg : base ≤ g) (hl : l.length ≤ 1099511627) : TxR.Own w base (.slice (some ⟨g, 0, none⟩) l.length l.length) l := by
  refine ⟨by rw [TxR.vals_length], .inr ⟨g, l.length, _, rfl, hg, h, Nat.le_refl _, by unfold maxLen; omega, ?_, ?_⟩⟩
  · simp [TxR]
  · rw [txB_vals]
    show List.take (l.length * 1) _ = _
    rw [Nat.mul_one]
    exact List.take_of_length_le (by simp)

theorem make_texts (z : Int) (n : Nat) (hz : z = (n : Int)) (hn : n ≤ 1099511627) (W : World) :
    (Instr.makeSlice 23 (.int .i64 z) (.int .i64 z)).run Tryz.prog W = .ok (.slice (some ⟨W.heap.size, 0, none⟩) n n) (W.alloc (.cells ((List.replicate n ([] : List UInt8)).map fun s => Value.string (str s)).toArray 9)) := by
  obtain ⟨i0, hi, hz0, hz1, hz2⟩ := info_parts TxR.info
  subst hz
  rw [run_make W 23 9 i0 (.string .empty) Tryz.underlying23 hi hz0 .i64 .i64 (n : Int) (n : Int) (by omega) (by omega) (by rw [hz2]; show (16 : Int) * _ ≤ _; omega) (by omega), hz1]
  have e : madeCells (Value.string .empty).cells n = ((List.replicate n ([] : List UInt8)).map fun s => Value.string (str s)).toArray := by
    apply Array.ext
    · simp [size_madeCells]
    · intro j h1 h2
      have hz : (Value.string ByteArray.empty).cells = #[Value.string .empty] := rfl
      simp [madeCells, hz, Nat.mod_one]
      rfl
  simp only [Int.toNat_natCast]
  rw [show n * TxR.k = n by show n * 1 = n; omega, e]

set_option maxRecDepth 100000 in
set_option maxHeartbeats 1000000 in
theorem genSplit_any (s : List UInt8) (w : World) (hs : s.length ≤ 1000000) : Calls Tryz.prog 143 #[.string (str s), .string ⟨#[10]⟩, .int .i64 0, .int .i64 (-1)] w fun e w' => e = .returned (.slice (some ⟨w.heap.size, 0, none⟩) (Ip.cutN s).length (Ip.cutN s).length) ∧ TxB w' w.heap.size (Ip.cutN s) ∧ Below w.heap.size w w' := by
  have hC := Count_one (str s) 10
  rw [show bs (str s) = s by simp [bs, str]] at hC
  have hcl := Ip.cutN_len s
  have hcs := List.count_le_length (a := (10 : UInt8)) (l := s)
  obtain ⟨N, hN⟩ : ∃ N, s.count 10 = N := ⟨_, rfl⟩
  rw [hN] at hC hcl hcs
  rw [hcl]
  have HN : Hid (s.count 10 = N) := hN
  have HCL : Hid ((Ip.cutN s).length = N + 1) := hcl
  have hsz := str_size s
  have nb : (N : Int) ≤ 1000000 := by omega
  have mn : min ((N : Int) + 1) (((str s).size : Int) + 1) = (N : Int) + 1 := by omega
  have zb : ((str s).size : Int) ≤ 1000000 := by omega
  have hM := make_texts ((N : Int) + 1) (N + 1) (by omega) (by omega)
  have HB0 : Hid (TxB (w.alloc (.cells ((List.replicate (N + 1) ([] : List UInt8)).map fun s => Value.string (str s)).toArray 9)) w.heap.size (List.replicate (N + 1) [])) := Rw.new w _ 9
  have HW0 : Hid (Below w.heap.size w (w.alloc (.cells ((List.replicate (N + 1) ([] : List UInt8)).map fun s => Value.string (str s)).toArray 9))) := (Below.refl _ w).alloc (Nat.le_refl _) _
  have hM0 := hM w
  generalize w.alloc (.cells ((List.replicate (N + 1) ([] : List UInt8)).map fun s => Value.string (str s)).toArray 9) = W0 at *
  have HZ : Hid (s.length ≤ 1000000) := hs
  clear hN hcl hsz hM hs hcs
  obtain ⟨S0, hS0⟩ : ∃ S0, str s = S0 := ⟨_, rfl⟩
  have HS0 : Hid (str s = S0) := hS0
  rw [hS0] at hC mn zb ⊢
  clear hS0
  go_enter Tryz.func143, Tryz.ntmps143
  go_wp2_with (first | (go_at_call 115; refine (hC _).mono ?_; rintro e w1 ⟨rfl, hw1⟩; rw [hw1]; clear hw1) | fail)
  go_loopw [0, 10] (fun sv iv wr => ∃ (i : Nat) (P : List (List UInt8)) (R : List UInt8), i ≤ N ∧ sv = .string (str R) ∧ iv = .int .i64 (i : Int) ∧ Hid (P.length = i ∧ P ++ Ip.cutN R = Ip.cutN s ∧ R.count 10 + i = N ∧ R.length ≤ 1000000) ∧ Hid (TxB wr w.heap.size (P ++ List.replicate (N + 1 - i) [])) ∧ Hid (Below w.heap.size w wr)) (fun _ iv _ => N - (intOf iv).toNat)
  case atStart => exact ⟨0, [], s, Nat.zero_le _, by rw [HS0.out], rfl, ⟨rfl, rfl, by rw [HN.out]; rfl, HZ.out⟩, HB0.out, HW0.out⟩
  case round =>
    obtain ⟨i, P, R, hi, rfl, rfl, HH, HT, HB⟩ := hrel
    obtain ⟨p1, p2, p3, p4⟩ := HH.out
    have fr := fun j => TxB.free HT.out j
    have cl := TxB.cell HT.out i (by simp; omega)
    obtain ⟨C0, hC0⟩ : ∃ C0, str ((P ++ List.replicate (N + 1 - i) ([] : List UInt8))[i]'(by simp; omega)) = C0 := ⟨_, rfl⟩
    rw [hC0] at cl
    clear hC0
    by_cases hlt : i < N
    · have i1 : (i : Int) < (N : Int) := by omega
      have hI := Index_one (str R) 10
      rw [show bs (str R) = R by simp [bs, str]] at hI
      rcases indexByte_cases R 10 with ⟨h1, h2⟩ | ⟨k, h1, h2, h3, h4⟩
      · have := List.count_eq_zero.2 h2
        omega
      · rw [h1] at hI
        have hx1 := str_extract R 0 k
        have hsz := str_size R
        have hx2 := str_extract R (k + 1) (str R).size
        have hcut := Ip.cutN_hit (b := R.drop (k + 1)) h4
        rw [← h3] at hcut
        have hcnt := count_hit h3 h4
        have hd : (R.drop (k + 1)).take ((str R).size - (k + 1)) = R.drop (k + 1) := List.take_of_length_le (by simp; omega)
        rw [hd] at hx2
        simp only [List.drop_zero, Nat.sub_zero] at hx1
        have hset := TxB.set HT.out i (R.take k) (by simp; omega)
        have e1 : (P ++ List.replicate (N + 1 - i) ([] : List UInt8)).set i (R.take k) = (P ++ [R.take k]) ++ List.replicate (N + 1 - (i + 1)) [] := by
          rw [List.set_append_right _ _ (by omega), p1, Nat.sub_self, show N + 1 - i = (N + 1 - (i + 1)) + 1 by omega, List.replicate_succ, List.set_cons_zero]
          simp
        rw [e1] at hset
        have HS : Hid (TxB (wr.setCell ⟨w.heap.size, i, none⟩ (.string (str (R.take k)))) w.heap.size ((P ++ [R.take k]) ++ List.replicate (N + 1 - (i + 1)) [])) := hset
        have HW : Hid (Below w.heap.size w (wr.setCell ⟨w.heap.size, i, none⟩ (.string (str (R.take k))))) := (Turn.put1 wr w.heap.size i _).bel HB.out (by simp)
        have HP : Hid ((P ++ [R.take k]).length = i + 1 ∧ (P ++ [R.take k]) ++ Ip.cutN (R.drop (k + 1)) = Ip.cutN s ∧ (R.drop (k + 1)).count 10 + (i + 1) = N ∧ (R.drop (k + 1)).length ≤ 1000000) := ⟨by simp [p1], by rw [← p2, hcut]; simp, by omega, by simp; omega⟩
        have k1 : (k : Int) < ((str R).size : Int) := by omega
        have k2 : ((str R).size : Int) ≤ 1000000 := by omega
        have k3 : (k : Int) + 1 ≤ ((str R).size : Int) := by omega
        clear hset e1 hcut hcnt hd h1 h2 h3 h4 p1 p2 p3 p4 HH HT HB hsz
        generalize hSR : str R = SR at *
        clear hSR
        generalize str (R.take k) = T1 at *
        go_wp2_with (first | (go_at_call 129; refine (hI _).mono ?_; rintro e w1 ⟨rfl, hw1⟩; rw [hw1]; clear hw1) | fail)
        exact ⟨⟨i + 1, P ++ [R.take k], R.drop (k + 1), by omega, rfl, by go_num, HP.out, HS.out, HW.out⟩, by simp [intOf]; omega⟩
    · obtain rfl : i = N := by omega
      have i1 : ¬ (i : Int) < (i : Int) := by omega
      have hz : R.count 10 = 0 := by omega
      have hcut := Ip.cutN_plain (List.count_eq_zero.1 hz)
      have hset := TxB.set HT.out i R (by simp; omega)
      have e1 : (P ++ List.replicate (i + 1 - i) ([] : List UInt8)).set i R = Ip.cutN s := by
        rw [List.set_append_right _ _ (by omega), p1, Nat.sub_self, show i + 1 - i = 1 by omega, ← p2, hcut]
        rfl
      rw [e1] at hset
      have HS : Hid _ := hset
      have HW : Hid (Below w.heap.size w (wr.setCell ⟨w.heap.size, i, none⟩ (.string (str R)))) := (Turn.put1 wr w.heap.size i _).bel HB.out (by simp)
      have hsl := fun W => TxR.slice_head W (some ⟨w.heap.size, 0, none⟩) (i + 1) (i + 1) (i + 1) (Nat.le_refl _)
      clear hset e1 hcut hz p1 p2 p3 p4 HH HT HB
      generalize str R = SR at *
      go_wp2
      go_ret
      exact ⟨rfl, HS.out, HW.out⟩

set_option maxRecDepth 100000 in
theorem Split_any (s : List UInt8) (w : World) (hs : s.length ≤ 1000000) : Calls Tryz.prog 124 #[.string (str s), .string ⟨#[10]⟩] w fun e w' => e = .returned (.slice (some ⟨w.heap.size, 0, none⟩) (Ip.cutN s).length (Ip.cutN s).length) ∧ TxB w' w.heap.size (Ip.cutN s) ∧ Below w.heap.size w w' := by
  have hG := genSplit_any s w hs
  generalize str s = S at *
  go_enter Tryz.func124, Tryz.ntmps124
  go_wp2_with (first | (go_at_call 143; refine hG.mono ?_; rintro e w1 ⟨rfl, h1, h2⟩) | fail)
  go_ret
  exact ⟨rfl, h1, h2⟩

set_option maxRecDepth 100000 in
theorem linesOf_any (s : List UInt8) (w : World) (hs : s.length ≤ 1000000) : Calls Tryz.prog 109 #[.string (str s)] w fun e w' => (∃ c, e = .returned (.slice (some ⟨w.heap.size, 0, none⟩) (Ip.linesOf s).length c) ∧ TxR.Own w' w.heap.size (.slice (some ⟨w.heap.size, 0, none⟩) (Ip.linesOf s).length c) (Ip.linesOf s)) ∧ Below w.heap.size w w' := by
  have hS := Split_any s w hs
  have hcl := Ip.cutN_len s
  have hcs := List.count_le_length (a := (10 : UInt8)) (l := s)
  have hlast : (Ip.cutN s).getLastD [] = (Ip.cutN s)[(Ip.cutN s).length - 1]'(by omega) := by
    rw [List.getLastD_eq_getLast?, List.getLast?_eq_getElem?, List.getElem?_eq_getElem (by omega)]
    rfl
  obtain ⟨n, hn⟩ : ∃ n, (Ip.cutN s).length = n + 1 := ⟨_, hcl⟩
  have hS2 : Calls Tryz.prog 124 #[.string (str s), .string ⟨#[10]⟩] w fun e w' => e = .returned (.slice (some ⟨w.heap.size, 0, none⟩) (n + 1) (n + 1)) ∧ TxB w' w.heap.size (Ip.cutN s) ∧ Below w.heap.size w w' := by
    rw [← hn]; exact hS
  have nb : n ≤ 1000000 := by omega
  have nbi : (n : Int) ≤ 1000000 := by omega
  have hsl := fun W => TxR.slice_head W (some ⟨w.heap.size, 0, none⟩) (n + 1) (n + 1) n (by omega)
  by_cases he : (Ip.cutN s).getLastD [] = []
  · have HL : Hid (Ip.linesOf s = (Ip.cutN s).dropLast) := by show _ = _; unfold Ip.linesOf; rw [if_pos he]
    have hq : (str ((Ip.cutN s)[(Ip.cutN s).length - 1]'(by omega))) = ⟨#[]⟩ := by rw [← hlast, he]; rfl
    have HT : ∀ W, TxB W w.heap.size (Ip.cutN s) → W.cell? ⟨w.heap.size, n, none⟩ = some (.string ⟨#[]⟩) := by
      intro W hW
      have := TxB.cell hW n (by omega)
      rw [this, ← hq]
      simp only [hn, Nat.add_sub_cancel]
    have hll : (Ip.linesOf s).length = n := by rw [HL.out, List.length_dropLast, hn]; rfl
    rw [hll]
    have HO : ∀ W, TxB W w.heap.size (Ip.cutN s) → TxR.Own W w.heap.size (.slice (some ⟨w.heap.size, 0, none⟩) n (n + 1)) (Ip.linesOf s) := by
      intro W hW
      have h0 := TxB.own hW (Nat.le_refl _) (by omega)
      rcases h0.2 with ⟨h1, -⟩ | ⟨g, cap, cur, h1, h2, h3, h4, h5, h6, h7⟩
      · cases h1
      · simp only [Value.slice.injEq, Option.some.injEq, Addr.mk.injEq, and_true] at h1
        obtain ⟨rfl, -, rfl⟩ := h1
        refine ⟨by rw [TxR.vals_length], .inr ⟨w.heap.size, n + 1, cur, by rw [hll], h2, h3, by omega, by unfold maxLen; omega, by rw [h6, hn], ?_⟩⟩
        rw [hll, HL.out, List.dropLast_eq_take, TxR.vals_take, ← h7, List.take_take, hn]
        congr 1
        show n * 1 = min ((n + 1 - 1) * 1) ((n + 1) * 1)
        omega
    clear hS hq hlast he HL hcl hcs hll
    generalize str s = S at *
    go_enter Tryz.func109, Tryz.ntmps109
    go_wp2_with (first | (go_at_call 124; refine hS2.mono ?_; rintro e w1 ⟨rfl, h1, h2⟩; have h3 := HT _ h1) | fail)
    go_ret
    exact ⟨⟨n + 1, rfl, HO _ h1⟩, h2⟩
  · have HL : Hid (Ip.linesOf s = Ip.cutN s) := by show _ = _; unfold Ip.linesOf; rw [if_neg he]
    have hq : ((str ((Ip.cutN s)[(Ip.cutN s).length - 1]'(by omega))).toList == []) = false := by
      rw [← hlast, ByteArray.toList_eq]
      simp [str]
      simpa [List.getLastD_eq_getLast?] using he
    obtain ⟨X, hX⟩ : ∃ X, str ((Ip.cutN s)[(Ip.cutN s).length - 1]'(by omega)) = X := ⟨_, rfl⟩
    rw [hX] at hq
    have HT : ∀ W, TxB W w.heap.size (Ip.cutN s) → W.cell? ⟨w.heap.size, n, none⟩ = some (.string X) := by
      intro W hW
      have := TxB.cell hW n (by omega)
      rw [this, ← hX]
      simp only [hn, Nat.add_sub_cancel]
    have hll : (Ip.linesOf s).length = n + 1 := by rw [HL.out, hn]
    rw [hll]
    have HO : ∀ W, TxB W w.heap.size (Ip.cutN s) → TxR.Own W w.heap.size (.slice (some ⟨w.heap.size, 0, none⟩) (n + 1) (n + 1)) (Ip.linesOf s) := by
      intro W hW
      have h0 := TxB.own hW (Nat.le_refl _) (by omega)
      rw [hn] at h0
      rw [HL.out]
      exact h0
    clear hS hlast he HL hcl hcs hll hX
    generalize str s = S at *
    go_enter Tryz.func109, Tryz.ntmps109
    go_wp2_with (first | (go_at_call 124; refine hS2.mono ?_; rintro e w1 ⟨rfl, h1, h2⟩; have h3 := HT _ h1) | fail)
    go_ret
    exact ⟨⟨n + 1, rfl, HO _ h1⟩, h2⟩

end Go.Proofs.YtnobmgkdieaclaaGreatDoor
