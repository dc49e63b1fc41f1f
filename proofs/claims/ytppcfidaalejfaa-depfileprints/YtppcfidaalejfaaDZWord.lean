/-
  THE LANDED READER: blanks passed; a word.
-/
import Derived.Test.YtppcfidaalejfaaSLibP
import Derived.Test.YtppcfidaalejfaaDpGo
import Derived.Test.YtppcfidaalejfaaBytesL
import Derived.Test.YtppcfidaalejfaaRecStep
import Derived.Deep.RegionHeld3
namespace Go.Proofs.Ytppcfidaalejfaa
open Go.RowKit

def rdzAt (w : World) (b : Nat) : Nat := match w.cell? ⟨b, 1, none⟩ with
  | some (.int _ i) => i.toNat
  | _ => 0
theorem RdZ.at_ {w : World} {b : Nat} {s : ByteArray} {i : Nat} (h : RdZ w b s i) : rdzAt w b = i := by
  have c1 : w.cell? ⟨b, 1, none⟩ = some (.int .i64 (i : Int)) := Rw.cell h 1
  unfold rdzAt
  rw [c1]
  simp
theorem RdZ.move {w : World} {b : Nat} {s : ByteArray} {i : Nat} (h : RdZ w b s i) (k : Nat) (z : Int) (hz : z = (k : Int)) : RdZ (w.setCell ⟨b, 1, none⟩ (.int .i64 ((i : Int) + z))) b s (i + k) := by
  have := Rw.set h 1 (.int .i64 ((i : Int) + z)) (by simp)
  unfold RdZ
  rw [show ((i + k : Nat) : Int) = (i : Int) + z by omega]
  exact this
theorem RdZ.heap {w W : World} {b : Nat} {s : ByteArray} {i : Nat} (h : RdZ w b s i) (hW : W.heap = w.heap) : RdZ W b s i := by
  unfold RdZ Rw at *
  rw [hW]
  exact h
theorem RdZ.turn {w w' : World} {b : Nat} {s : ByteArray} {i : Nat} {S : List Nat} (h : RdZ w b s i) (hT : Turn S w w') (hS : b ∉ S) : RdZ w' b s i := Rw.turn h hT hS
theorem pre_at {w : World} {b : Nat} {s : ByteArray} {i : Nat} (hi : i ≤ s.size) (p : ByteArray) {t : Bool} (ht : (bs p).isPrefixOf ((bs s).drop i) = t) (h : RdZ w b s i) :
    Calls Try.prog 45 #[.pointer (some ⟨b, 0, none⟩), .string p] w fun e w' => e = .returned (.bool t) ∧ ∃ q, w' = w.drewN q := by
  rw [← ht]
  exact sees_any w b s i h hi p
/-- a world that is another but for what was drawn -/
structure Qt (w w' : World) : Prop where
  heap : w'.heap = w.heap
  os : w'.os = w.os
  tape : w'.tape = w.tape
  output : w'.output = w.output
theorem Qt.refl (w : World) : Qt w w := ⟨rfl, rfl, rfl, rfl⟩
theorem Qt.drewN {w w' : World} (h : Qt w w') (q : Nat) : Qt w (w'.drewN q) := ⟨h.heap, h.os, h.tape, h.output⟩
theorem Qt.turn {w w' : World} (h : Qt w w') {S : List Nat} {w0 : World} (hT : Turn S w0 w) : Turn S w0 w' :=
  ⟨h.os.trans hT.os, h.tape.trans hT.tape, h.output.trans hT.output, by rw [h.heap]; exact hT.size, fun k hk hn => by rw [h.heap]; exact hT.block k hk hn⟩
theorem Qt.below {w w' : World} (h : Qt w w') : Below w.heap.size w w' := ⟨h.os, h.tape, h.output, by rw [h.heap]; exact Nat.le_refl _, fun k _ => by rw [h.heap]⟩
theorem pre_q {wr : World} {b : Nat} {s : ByteArray} {j : Nat} (hR : RdZ wr b s j) (hj : j ≤ s.size) (p : ByteArray) {t : Bool} (ht : (bs p).isPrefixOf ((bs s).drop j) = t) (W : World) (hW : Qt wr W) :
    Calls Try.prog 45 #[.pointer (some ⟨b, 0, none⟩), .string p] W fun e w' => e = .returned (.bool t) ∧ Qt wr w' := by
  refine (pre_at hj p ht (hR.heap hW.heap)).mono ?_
  rintro e w1 ⟨rfl, q, rfl⟩
  exact ⟨rfl, hW.drewN q⟩
theorem over_q {wr : World} {b : Nat} {s : ByteArray} {j : Nat} (hR : RdZ wr b s j) {t : Bool} (ht : decide (s.size ≤ j) = t) (W : World) (hW : Qt wr W) :
    Calls Try.prog 27 #[.pointer (some ⟨b, 0, none⟩)] W fun e w' => e = .returned (.bool t) ∧ Qt wr w' := by
  refine (over_any W b s j (hR.heap hW.heap)).mono ?_
  rintro e w1 ⟨rfl, q, rfl⟩
  exact ⟨by rw [ht], hW.drewN q⟩
/-- rows of bytes, as records -/
def U8R : Rc UInt8 where
  e := 5
  st := 54
  k := 1
  bytes := 1
  z := .int .u8 0
  enc c := [.int .u8 (c.toNat : Int)]
  pos := by decide
  len _ := rfl
  one f u hu := by
    simp only [List.mem_cons, List.not_mem_nil, or_false] at hu
    subst hu; rfl
  info := by kernel_rfl
  under := Try.underlying54
  zk := rfl
  small := by decide
theorem u8_vals (l : List UInt8) : U8R.vals l = bV l := by
  induction l with
  | nil => rfl
  | cons c l ih =>
    show [Value.int .u8 (c.toNat : Int)] ++ U8R.vals l = _
    rw [ih]; rfl
theorem U8R.own {w : World} {base : Nat} {v : Value} {l : List UInt8} (h : U8R.Own w base v l) : Own w base v l := by
  unfold Rc.Own at h
  rw [u8_vals] at h
  exact h
theorem byte_at {s : ByteArray} {j : Nat} {c : UInt8} {r : List UInt8} (hd : (bs s).drop j = c :: r) (h : j < s.size) : s[j] = c := by
  have h1 : ((bs s).drop j)[0]? = some c := by rw [hd]; rfl
  rw [List.getElem?_drop, Nat.add_zero, List.getElem?_eq_getElem (by rw [bs_length]; exact h)] at h1
  exact Option.some.inj h1
theorem skip_more {s : ByteArray} {j : Nat} {r : List UInt8} (h : (bs s).drop j = 32 :: r) : j + Dp.skip ((bs s).drop j) = j + 1 + Dp.skip ((bs s).drop (j + 1)) := by
  rw [Dp.drop_next h, h]
  show j + (Dp.skip r + 1) = _
  omega
theorem skip_more2 {s : ByteArray} {j : Nat} {r : List UInt8} (h : (bs s).drop j = 92 :: 10 :: r) : j + Dp.skip ((bs s).drop j) = j + 2 + Dp.skip ((bs s).drop (j + 2)) := by
  rw [Dp.drop_next2 h, h]
  show j + (Dp.skip r + 2) = _
  omega
theorem blank_cases (d : List UInt8) : (∃ r, d = 32 :: r) ∨ (∃ r, d = 92 :: 10 :: r) ∨ (Dp.blank d = false ∧ [32].isPrefixOf d = false ∧ [92, 10].isPrefixOf d = false) := by
  match d with
  | [] => exact .inr (.inr ⟨rfl, rfl, rfl⟩)
  | [c] =>
    by_cases h : c = 32
    · exact .inl ⟨[], by rw [h]⟩
    · refine .inr (.inr ⟨?_, ?_, ?_⟩)
      · unfold Dp.blank; split <;> simp_all
      · simp [List.isPrefixOf, Ne.symm h]
      · simp [List.isPrefixOf]
  | c :: c2 :: r =>
    by_cases h : c = 32
    · exact .inl ⟨_, by rw [h]⟩
    · by_cases h2 : c = 92 ∧ c2 = 10
      · obtain ⟨rfl, rfl⟩ := h2
        exact .inr (.inl ⟨_, rfl⟩)
      · refine .inr (.inr ⟨?_, ?_, ?_⟩)
        · unfold Dp.blank; split <;> simp_all
        · simp [List.isPrefixOf, Ne.symm h]
        · simp only [List.isPrefixOf, Bool.and_true, Bool.and_eq_false_iff, beq_eq_false_iff_ne, ne_eq]
          by_cases h3 : c = 92
          · exact .inr fun e => h2 ⟨h3, e.symm⟩
          · exact .inl fun e => h3 e.symm

set_option maxRecDepth 100000 in
set_option maxHeartbeats 2000000 in
theorem passBlanks_any (w : World) (b : Nat) (s : ByteArray) (i : Nat) (h : RdZ w b s i) (hi : i ≤ s.size) (hs : s.size ≤ 32768) :
    Calls Try.prog 44 #[.pointer (some ⟨b, 0, none⟩)] w fun e w' => e = .returned (.tuple #[]) ∧ RdZ w' b s (i + Dp.skip ((bs s).drop i)) ∧ Turn [b] w w' := by
  go_enter Try.func44, Try.ntmps44
  go_wp2
  go_loopw [2] (fun _ wr => ∃ j, RdZ wr b s j ∧ j ≤ s.size ∧ Hid (i + Dp.skip ((bs s).drop i) = j + Dp.skip ((bs s).drop j)) ∧ Turn [b] w wr) (fun _ wr => s.size - rdzAt wr b)
  case atStart => exact ⟨i, h, hi, rfl, Turn.refl _ _⟩
  case round =>
    obtain ⟨j, hR, hj, HSK, hT⟩ := hrel
    have hat := hR.at_
    have hl := bs_length s
    rcases blank_cases ((bs s).drop j) with ⟨r, hd⟩ | ⟨r, hd⟩ | ⟨hd, h32, hjn⟩
    · have hlt := Dp.drop_lt hd
      have hS := fun (W : World) (hW : W.heap = wr.heap) => pre_at hj ⟨#[32]⟩ (t := true) (by rw [hd]; rfl) (hR.heap hW)
      have HN : Hid _ := skip_more hd
      clear hd
      go_wp2_with fail
      refine (hS _ (by rfl)).mono ?_
      rintro e w1 ⟨rfl, q, rfl⟩
      have hR1 : RdZ (wr.drewN q) b s j := hR
      have c1 : (wr.drewN q).cell? ⟨b, 1, none⟩ = some (.int .i64 (j : Int)) := Rw.cell hR1 1
      have f1 : (wr.drewN q).frozen? ⟨b, 1, none⟩ = false := Rw.free hR1 1
      have hR2 := hR1.move 1 1 rfl
      have hat2 := hR2.at_
      have hT2 := (hT.drewN q).trans (Turn.put1 _ b 1 (.int .i64 ((j : Int) + 1))) (by simp)
      clear hS hR
      go_wp2
      exact ⟨⟨j + 1, hR2, by omega, HSK.out.trans HN.out, hT2⟩, by omega⟩
    · have hlt := Dp.drop_lt2 hd
      have hS := fun (W : World) (hW : W.heap = wr.heap) => pre_at hj ⟨#[32]⟩ (t := false) (by rw [hd]; rfl) (hR.heap hW)
      have hJ := fun (W : World) (hW : W.heap = wr.heap) => pre_at hj ⟨#[92, 10]⟩ (t := true) (by rw [hd]; rfl) (hR.heap hW)
      have HN : Hid _ := skip_more2 hd
      clear hd
      go_wp2_with fail
      refine (hS _ (by rfl)).mono ?_
      rintro e w1 ⟨rfl, q0, rfl⟩
      go_wp2_with fail
      refine (hJ _ (by rfl)).mono ?_
      rintro e w1 ⟨rfl, q, rfl⟩
      have hR1 : RdZ (wr.drewN (q0 + q)) b s j := hR.heap rfl
      have c1 : wr.cell? ⟨b, 1, none⟩ = some (.int .i64 (j : Int)) := Rw.cell hR 1
      have f1 : wr.frozen? ⟨b, 1, none⟩ = false := Rw.free hR 1
      have hR2 := hR1.move 2 2 rfl
      have hat2 := hR2.at_
      have hT2 := (hT.drewN (q0 + q)).trans (Turn.put1 _ b 1 (.int .i64 ((j : Int) + 2))) (by simp)
      clear hS hJ hR
      go_wp2
      exact ⟨⟨j + 2, hR2, by omega, HSK.out.trans HN.out, hT2⟩, by omega⟩
    · have hS := fun (W : World) (hW : W.heap = wr.heap) => pre_at hj ⟨#[32]⟩ (t := false) h32 (hR.heap hW)
      have hJ := fun (W : World) (hW : W.heap = wr.heap) => pre_at hj ⟨#[92, 10]⟩ (t := false) hjn (hR.heap hW)
      have HN : Hid _ := Dp.skip_zero hd
      clear hd h32 hjn
      go_wp2_with fail
      refine (hS _ (by rfl)).mono ?_
      rintro e w1 ⟨rfl, q0, rfl⟩
      go_wp2_with fail
      refine (hJ _ (by rfl)).mono ?_
      rintro e w1 ⟨rfl, q, rfl⟩
      have hR1 : RdZ (wr.drewN (q0 + q)) b s j := hR.heap rfl
      go_wp2
      refine bodyPost_ret (results_none rfl _ _ _) rfl ?_
      refine ⟨rfl, ?_, hT.drewN (q0 + q)⟩
      rw [HSK.out, HN.out, Nat.add_zero]
      exact hR1

theorem word_in {s : ByteArray} {i j : Nat} {a r : List UInt8} (c : UInt8) (m : Nat) (hij : i ≤ j) (hr : (bs s).drop (j + m) = r) (h : Dp.wordR ((bs s).drop i) = ((Dp.wordR ((bs s).drop j)).1.map (a ++ ·), (Dp.wordR ((bs s).drop j)).2 + (j - i)))
    (hw : Dp.wordR ((bs s).drop j) = ((Dp.wordR r).1.map (c :: ·), (Dp.wordR r).2 + m)) : Dp.wordR ((bs s).drop i) = ((Dp.wordR ((bs s).drop (j + m))).1.map ((a ++ [c]) ++ ·), (Dp.wordR ((bs s).drop (j + m))).2 + (j + m - i)) := by
  rw [h, hw, hr]
  cases (Dp.wordR r).1 with
  | none => simp; omega
  | some x => simp; omega

set_option maxRecDepth 100000 in
set_option maxHeartbeats 8000000 in
theorem word_any (w : World) (b : Nat) (s : ByteArray) (i : Nat) (h : RdZ w b s i) (hi : i ≤ s.size) (hs : s.size ≤ 32768) :
    Calls Try.prog 46 #[.pointer (some ⟨b, 0, none⟩)] w fun e w' => e = .returned (.tuple #[.string (str ((Dp.wordR ((bs s).drop i)).1.getD [])), .bool (Dp.wordR ((bs s).drop i)).1.isSome]) ∧ RdZ w' b s (i + (Dp.wordR ((bs s).drop i)).2) ∧ Turn [b] w w' := by
  have hbl : b < w.heap.size := Rw.lt h
  have hl := bs_length s
  go_enter Try.func46, Try.ntmps46
  go_wp2
  go_loopw [4] (fun v wr => ∃ (j : Nat) (a : List UInt8), RdZ wr b s j ∧ j ≤ s.size ∧ i ≤ j ∧ U8R.Own wr w.heap.size v a ∧ a.length ≤ j ∧ Hid (Dp.wordR ((bs s).drop i) = ((Dp.wordR ((bs s).drop j)).1.map (a ++ ·), (Dp.wordR ((bs s).drop j)).2 + (j - i))) ∧ Turn [b] w wr) (fun _ wr => s.size - rdzAt wr b)
  case atStart =>
    refine ⟨i, [], h, hi, Nat.le_refl _, Rc.Own.nil _ _, Nat.zero_le _, ?_, Turn.refl _ _⟩
    show _ = _
    cases hw : Dp.wordR ((bs s).drop i) with
    | mk o k => cases o <;> simp
  case round =>
    obtain ⟨j, a, hR, hj, hij, hO, hal, HW, hT⟩ := hrel
    have hat := hR.at_
    clear h
    cases hd : (bs s).drop j with
    | nil =>
      have hQ0 := Qt.refl wr
      have hov := over_q hR (t := true) (by exact decide_eq_true (by have := congrArg List.length hd; rw [List.length_drop, List.length_nil] at this; omega))
      have HN : Hid (Dp.wordR ((bs s).drop j) = (some [], 0)) := by rw [hd]; rfl
      clear hd
      go_wp2_with fail
      refine (hov _ hQ0).mono ?_
      rintro e W1 ⟨rfl, hQ1⟩
      obtain ⟨va, vc, rfl, -, -⟩ := (U8R.own hO).byts
      have hO5 : U8R.Own W1 w.heap.size (.slice va a.length vc) a := hO.below (hQ1.below) (Nat.le_refl _)
      have hcv := conv_byts (U8R.own hO5).byts
      have hR5 := hR.heap hQ1.heap
      have hT5 := hQ1.turn hT
      clear hR hO hT hov hQ0
      go_wp2
      go_ret2
      have HR := HW.out
      rw [HN.out] at HR
      rw [HR]
      refine ⟨by simp, ?_, hT5⟩
      show RdZ _ b s (i + (0 + (j - i)))
      rw [show i + (0 + (j - i)) = j by omega]
      exact hR5
    | cons c r =>
      by_cases e32 : c = 32
      · subst e32
        have hQ0 := Qt.refl wr
        have hov := over_q hR (t := false) (by exact decide_eq_false (by have := Dp.drop_lt hd; omega))
        have hS := pre_q hR hj ⟨#[32]⟩ (t := true) (by rw [hd]; rfl)
        have HN : Hid (Dp.wordR ((bs s).drop j) = (some [], 0)) := by rw [hd]; rfl
        clear hd
        go_wp2_with fail
        refine (hov _ hQ0).mono ?_
        rintro e W1 ⟨rfl, hQ1⟩
        go_wp2_with fail
        refine (hS _ hQ1).mono ?_
        rintro e W2 ⟨rfl, hQ2⟩
        obtain ⟨va, vc, rfl, -, -⟩ := (U8R.own hO).byts
        have hO5 : U8R.Own W2 w.heap.size (.slice va a.length vc) a := hO.below (hQ2.below) (Nat.le_refl _)
        have hcv := conv_byts (U8R.own hO5).byts
        have hR5 := hR.heap hQ2.heap
        have hT5 := hQ2.turn hT
        clear hR hO hT hov hQ0
        go_wp2
        go_ret2
        have HR := HW.out
        rw [HN.out] at HR
        rw [HR]
        refine ⟨by simp, ?_, hT5⟩
        show RdZ _ b s (i + (0 + (j - i)))
        rw [show i + (0 + (j - i)) = j by omega]
        exact hR5
      by_cases e58 : c = 58
      · subst e58
        have hQ0 := Qt.refl wr
        have hov := over_q hR (t := false) (by exact decide_eq_false (by have := Dp.drop_lt hd; omega))
        have hS := pre_q hR hj ⟨#[32]⟩ (t := false) (by rw [hd]; rfl)
        have hC := pre_q hR hj ⟨#[58]⟩ (t := true) (by rw [hd]; rfl)
        have HN : Hid (Dp.wordR ((bs s).drop j) = (some [], 0)) := by rw [hd]; rfl
        clear hd
        go_wp2_with fail
        refine (hov _ hQ0).mono ?_
        rintro e W1 ⟨rfl, hQ1⟩
        go_wp2_with fail
        refine (hS _ hQ1).mono ?_
        rintro e W2 ⟨rfl, hQ2⟩
        go_wp2_with fail
        refine (hC _ hQ2).mono ?_
        rintro e W3 ⟨rfl, hQ3⟩
        obtain ⟨va, vc, rfl, -, -⟩ := (U8R.own hO).byts
        have hO5 : U8R.Own W3 w.heap.size (.slice va a.length vc) a := hO.below (hQ3.below) (Nat.le_refl _)
        have hcv := conv_byts (U8R.own hO5).byts
        have hR5 := hR.heap hQ3.heap
        have hT5 := hQ3.turn hT
        clear hR hO hT hov hQ0
        go_wp2
        go_ret2
        have HR := HW.out
        rw [HN.out] at HR
        rw [HR]
        refine ⟨by simp, ?_, hT5⟩
        show RdZ _ b s (i + (0 + (j - i)))
        rw [show i + (0 + (j - i)) = j by omega]
        exact hR5
      by_cases e10 : c = 10
      · subst e10
        have hQ0 := Qt.refl wr
        have hov := over_q hR (t := false) (by exact decide_eq_false (by have := Dp.drop_lt hd; omega))
        have hS := pre_q hR hj ⟨#[32]⟩ (t := false) (by rw [hd]; rfl)
        have hC := pre_q hR hj ⟨#[58]⟩ (t := false) (by rw [hd]; rfl)
        have hn := pre_q hR hj ⟨#[10]⟩ (t := true) (by rw [hd]; rfl)
        have HN : Hid (Dp.wordR ((bs s).drop j) = (some [], 0)) := by rw [hd]; rfl
        clear hd
        go_wp2_with fail
        refine (hov _ hQ0).mono ?_
        rintro e W1 ⟨rfl, hQ1⟩
        go_wp2_with fail
        refine (hS _ hQ1).mono ?_
        rintro e W2 ⟨rfl, hQ2⟩
        go_wp2_with fail
        refine (hC _ hQ2).mono ?_
        rintro e W3 ⟨rfl, hQ3⟩
        go_wp2_with fail
        refine (hn _ hQ3).mono ?_
        rintro e W4 ⟨rfl, hQ4⟩
        obtain ⟨va, vc, rfl, -, -⟩ := (U8R.own hO).byts
        have hO5 : U8R.Own W4 w.heap.size (.slice va a.length vc) a := hO.below (hQ4.below) (Nat.le_refl _)
        have hcv := conv_byts (U8R.own hO5).byts
        have hR5 := hR.heap hQ4.heap
        have hT5 := hQ4.turn hT
        clear hR hO hT hov hQ0
        go_wp2
        go_ret2
        have HR := HW.out
        rw [HN.out] at HR
        rw [HR]
        refine ⟨by simp, ?_, hT5⟩
        show RdZ _ b s (i + (0 + (j - i)))
        rw [show i + (0 + (j - i)) = j by omega]
        exact hR5
      by_cases e92 : c = 92
      · subst e92
        have hjl : j < s.size := by have := Dp.drop_lt hd; omega
        have hbyte := byte_at hd hjl
        have j0 : (0 : Int) ≤ (j : Int) := by omega
        have j1 : (j : Int) < (s.size : Int) := by omega
        have hx : ((s[j].toNat : Int) < 32) = False := by rw [hbyte]; simp
        clear hbyte
        cases r with
        | nil =>
          have hQ0 := Qt.refl wr
          have hov := over_q hR (t := false) (by exact decide_eq_false (by have := Dp.drop_lt hd; omega))
          have hS := pre_q hR hj ⟨#[32]⟩ (t := false) (by rw [hd]; rfl)
          have hC := pre_q hR hj ⟨#[58]⟩ (t := false) (by rw [hd]; rfl)
          have hn := pre_q hR hj ⟨#[10]⟩ (t := false) (by rw [hd]; rfl)
          have hJ := pre_q hR hj ⟨#[92, 10]⟩ (t := false) (by rw [hd]; rfl)
          have ha := pre_q hR hj ⟨#[92, 32]⟩ (t := false) (by rw [hd]; rfl)
          have hb := pre_q hR hj ⟨#[92, 58]⟩ (t := false) (by rw [hd]; rfl)
          have hc := pre_q hR hj ⟨#[92, 92]⟩ (t := false) (by rw [hd]; rfl)
          have hz := pre_q hR hj ⟨#[92]⟩ (t := true) (by rw [hd]; rfl)
          have HN : Hid (Dp.wordR ((bs s).drop j) = (none, 0)) := by show _ = _; rw [hd]; rfl
          clear hd
          go_wp2_with fail
          refine (hov _ hQ0).mono ?_
          rintro e W1 ⟨rfl, hQ1⟩
          go_wp2_with fail
          refine (hS _ hQ1).mono ?_
          rintro e W2 ⟨rfl, hQ2⟩
          go_wp2_with fail
          refine (hC _ hQ2).mono ?_
          rintro e W3 ⟨rfl, hQ3⟩
          go_wp2_with fail
          refine (hn _ hQ3).mono ?_
          rintro e W4 ⟨rfl, hQ4⟩
          go_wp2_with fail
          refine (hJ _ hQ4).mono ?_
          rintro e W5 ⟨rfl, hQ5⟩
          have c0 : W5.cell? ⟨b, 0, none⟩ = some (.string s) := Rw.cell (hR.heap hQ5.heap) 0
          have c1 : W5.cell? ⟨b, 1, none⟩ = some (.int .i64 (j : Int)) := Rw.cell (hR.heap hQ5.heap) 1
          go_wp2_with fail
          go_quiet (fail)
          have hQ6 := hQ5.drewN nq
          clear c0 c1
          go_wp2_with fail
          refine (ha _ hQ6).mono ?_
          rintro e W7 ⟨rfl, hQ7⟩
          go_wp2_with fail
          refine (hb _ hQ7).mono ?_
          rintro e W8 ⟨rfl, hQ8⟩
          go_wp2_with fail
          refine (hc _ hQ8).mono ?_
          rintro e W9 ⟨rfl, hQ9⟩
          go_wp2_with fail
          refine (hz _ hQ9).mono ?_
          rintro e W10 ⟨rfl, hQ10⟩
          have hR5 := hR.heap hQ10.heap
          have hT5 := hQ10.turn hT
          go_wp2
          go_ret2
          have HR := HW.out
          rw [HN.out] at HR
          rw [HR]
          refine ⟨by simp; rfl, ?_, ?_⟩
          · rw [show i + (0 + (j - i)) = j by omega]; exact hR5.heap rfl
          · first | exact hT5 | exact hT5.drewN _
        | cons c r =>
          by_cases e10b : c = 10
          · subst e10b
            have hQ0 := Qt.refl wr
            have hov := over_q hR (t := false) (by exact decide_eq_false (by have := Dp.drop_lt hd; omega))
            have hS := pre_q hR hj ⟨#[32]⟩ (t := false) (by rw [hd]; rfl)
            have hC := pre_q hR hj ⟨#[58]⟩ (t := false) (by rw [hd]; rfl)
            have hn := pre_q hR hj ⟨#[10]⟩ (t := false) (by rw [hd]; rfl)
            have hJ := pre_q hR hj ⟨#[92, 10]⟩ (t := true) (by rw [hd]; rfl)
            have HN : Hid (Dp.wordR ((bs s).drop j) = (some [], 0)) := by rw [hd]; rfl
            clear hd
            go_wp2_with fail
            refine (hov _ hQ0).mono ?_
            rintro e W1 ⟨rfl, hQ1⟩
            go_wp2_with fail
            refine (hS _ hQ1).mono ?_
            rintro e W2 ⟨rfl, hQ2⟩
            go_wp2_with fail
            refine (hC _ hQ2).mono ?_
            rintro e W3 ⟨rfl, hQ3⟩
            go_wp2_with fail
            refine (hn _ hQ3).mono ?_
            rintro e W4 ⟨rfl, hQ4⟩
            go_wp2_with fail
            refine (hJ _ hQ4).mono ?_
            rintro e W5 ⟨rfl, hQ5⟩
            obtain ⟨va, vc, rfl, -, -⟩ := (U8R.own hO).byts
            have hO5 : U8R.Own W5 w.heap.size (.slice va a.length vc) a := hO.below (hQ5.below) (Nat.le_refl _)
            have hcv := conv_byts (U8R.own hO5).byts
            have hR5 := hR.heap hQ5.heap
            have hT5 := hQ5.turn hT
            clear hR hO hT hov hQ0
            go_wp2
            go_ret2
            have HR := HW.out
            rw [HN.out] at HR
            rw [HR]
            refine ⟨by simp, ?_, hT5⟩
            show RdZ _ b s (i + (0 + (j - i)))
            rw [show i + (0 + (j - i)) = j by omega]
            exact hR5
          · cases he : Dp.esc c with
            | false =>
              have e1 : c ≠ 32 := by rintro rfl; revert he; decide
              have e2 : c ≠ 58 := by rintro rfl; revert he; decide
              have e3 : c ≠ 92 := by rintro rfl; revert he; decide
              have hQ0 := Qt.refl wr
              have hov := over_q hR (t := false) (by exact decide_eq_false (by have := Dp.drop_lt hd; omega))
              have hS := pre_q hR hj ⟨#[32]⟩ (t := false) (by rw [hd]; simp [List.isPrefixOf])
              have hC := pre_q hR hj ⟨#[58]⟩ (t := false) (by rw [hd]; simp [List.isPrefixOf])
              have hn := pre_q hR hj ⟨#[10]⟩ (t := false) (by rw [hd]; simp [List.isPrefixOf])
              have hJ := pre_q hR hj ⟨#[92, 10]⟩ (t := false) (by rw [hd]; simp [List.isPrefixOf, Ne.symm e10b])
              have ha := pre_q hR hj ⟨#[92, 32]⟩ (t := false) (by rw [hd]; simp [List.isPrefixOf, Ne.symm e1])
              have hb := pre_q hR hj ⟨#[92, 58]⟩ (t := false) (by rw [hd]; simp [List.isPrefixOf, Ne.symm e2])
              have hc := pre_q hR hj ⟨#[92, 92]⟩ (t := false) (by rw [hd]; simp [List.isPrefixOf, Ne.symm e3])
              have hz := pre_q hR hj ⟨#[92]⟩ (t := true) (by rw [hd]; simp [List.isPrefixOf])
              have HN : Hid (Dp.wordR ((bs s).drop j) = (none, 0)) := by show _ = _; rw [hd]; rw [Dp.wordR_esc e10b, he, if_neg (by simp)]
              clear hd
              go_wp2_with fail
              refine (hov _ hQ0).mono ?_
              rintro e W1 ⟨rfl, hQ1⟩
              go_wp2_with fail
              refine (hS _ hQ1).mono ?_
              rintro e W2 ⟨rfl, hQ2⟩
              go_wp2_with fail
              refine (hC _ hQ2).mono ?_
              rintro e W3 ⟨rfl, hQ3⟩
              go_wp2_with fail
              refine (hn _ hQ3).mono ?_
              rintro e W4 ⟨rfl, hQ4⟩
              go_wp2_with fail
              refine (hJ _ hQ4).mono ?_
              rintro e W5 ⟨rfl, hQ5⟩
              have c0 : W5.cell? ⟨b, 0, none⟩ = some (.string s) := Rw.cell (hR.heap hQ5.heap) 0
              have c1 : W5.cell? ⟨b, 1, none⟩ = some (.int .i64 (j : Int)) := Rw.cell (hR.heap hQ5.heap) 1
              go_wp2_with fail
              go_quiet (fail)
              have hQ6 := hQ5.drewN nq
              clear c0 c1
              go_wp2_with fail
              refine (ha _ hQ6).mono ?_
              rintro e W7 ⟨rfl, hQ7⟩
              go_wp2_with fail
              refine (hb _ hQ7).mono ?_
              rintro e W8 ⟨rfl, hQ8⟩
              go_wp2_with fail
              refine (hc _ hQ8).mono ?_
              rintro e W9 ⟨rfl, hQ9⟩
              go_wp2_with fail
              refine (hz _ hQ9).mono ?_
              rintro e W10 ⟨rfl, hQ10⟩
              have hR5 := hR.heap hQ10.heap
              have hT5 := hQ10.turn hT
              go_wp2
              go_ret2
              have HR := HW.out
              rw [HN.out] at HR
              rw [HR]
              refine ⟨by simp; rfl, ?_, ?_⟩
              · rw [show i + (0 + (j - i)) = j by omega]; exact hR5.heap rfl
              · first | exact hT5 | exact hT5.drewN _
            | true =>
              have hjl2 : j + 1 < s.size := by have := Dp.drop_lt2 hd; omega
              have hbyte2 := byte_at (Dp.drop_next hd) hjl2
              have j2 : (0 : Int) ≤ (j : Int) + 1 := by omega
              have j3 : (j : Int) + 1 < (s.size : Int) := by omega
              by_cases ec : c = 32
              · subst ec
                have hQ0 := Qt.refl wr
                have hov := over_q hR (t := false) (by exact decide_eq_false (by have := Dp.drop_lt hd; omega))
                have hS := pre_q hR hj ⟨#[32]⟩ (t := false) (by rw [hd]; rfl)
                have hC := pre_q hR hj ⟨#[58]⟩ (t := false) (by rw [hd]; rfl)
                have hn := pre_q hR hj ⟨#[10]⟩ (t := false) (by rw [hd]; rfl)
                have hJ := pre_q hR hj ⟨#[92, 10]⟩ (t := false) (by rw [hd]; rfl)
                have ha := pre_q hR hj ⟨#[92, 32]⟩ (t := true) (by rw [hd]; rfl)
                have HN : Hid _ := word_in 32 2 hij (Dp.drop_next2 hd) HW.out (by rw [hd]; rfl)
                clear hd
                go_wp2_with fail
                refine (hov _ hQ0).mono ?_
                rintro e W1 ⟨rfl, hQ1⟩
                go_wp2_with fail
                refine (hS _ hQ1).mono ?_
                rintro e W2 ⟨rfl, hQ2⟩
                go_wp2_with fail
                refine (hC _ hQ2).mono ?_
                rintro e W3 ⟨rfl, hQ3⟩
                go_wp2_with fail
                refine (hn _ hQ3).mono ?_
                rintro e W4 ⟨rfl, hQ4⟩
                go_wp2_with fail
                refine (hJ _ hQ4).mono ?_
                rintro e W5 ⟨rfl, hQ5⟩
                have c0 : W5.cell? ⟨b, 0, none⟩ = some (.string s) := Rw.cell (hR.heap hQ5.heap) 0
                have c1 : W5.cell? ⟨b, 1, none⟩ = some (.int .i64 (j : Int)) := Rw.cell (hR.heap hQ5.heap) 1
                go_wp2_with fail
                go_quiet (fail)
                have hQ6 := hQ5.drewN nq
                clear c0 c1
                go_wp2_with fail
                refine (ha _ hQ6).mono ?_
                rintro e W7 ⟨rfl, hQ7⟩
                have hR5 := hR.heap hQ7.heap
                obtain ⟨va, vc, rfl, -, -⟩ := (U8R.own hO).byts
                have hO5 : U8R.Own W7 w.heap.size (.slice va a.length vc) a := hO.below (hQ7.below) (Nat.le_refl _)
                have hT5 := hQ7.turn hT
                have HX : Hid (s[j + 1] = 32) := hbyte2
                clear hR hO hT hov hQ0 hbyte2 hx HW
                have c1 : W7.cell? ⟨b, 1, none⟩ = some (.int .i64 (j : Int)) := Rw.cell hR5 1
                have f1 : W7.frozen? ⟨b, 1, none⟩ = false := Rw.free hR5 1
                have hR6 := hR5.move 1 1 rfl
                have hT6 := hT5.trans (Turn.put1 W7 b 1 (.int .i64 ((j : Int) + 1))) (by simp)
                have hO6 : U8R.Own (W7.setCell ⟨b, 1, none⟩ (.int .i64 ((j : Int) + 1))) w.heap.size _ a := Row.turn hO5 (Turn.put1 W7 b 1 _) (by intro g hg hm; rw [List.mem_singleton] at hm; subst hm; exact absurd (World.ownsRow.lt hO5 _ hg).1 (by omega))
                go_wp2_with fail
                generalize W7.setCell ⟨b, 1, none⟩ (.int .i64 ((j : Int) + 1)) = W0 at *
                have hOb : ∀ g, (Value.slice va a.length vc).ownBlock = some g → b ≠ g := fun g hg e => by subst e; exact absurd (World.ownsRow.lt hO6 _ hg).1 (by omega)
                have c0 : W0.cell? ⟨b, 0, none⟩ = some (.string s) := Rw.cell hR6 0
                have c1 : W0.cell? ⟨b, 1, none⟩ = some (.int .i64 ((j : Int) + 1)) := Rw.cell hR6 1
                have HY : Hid (∀ w4, (W0.alloc (.cells #[.int .u8 (s[j + 1].toNat : Int)] 5)).drew.grownBy w4 (Value.slice va a.length vc).ownBlock → RdZ w4 b s (j + 1) ∧ Turn [b] w w4) := fun w4 hg => by
                  have hT7 : Turn (Value.slice va a.length vc).ownBlock.toList W0 w4 := (((Turn.refl (Value.slice va a.length vc).ownBlock.toList W0).alloc _).drew).trans (Turn.of_grown hg) (fun x hx _ => hx)
                  refine ⟨hR6.turn hT7 (fun hm => ?_), hT6.trans hT7 (fun x hx hl => ?_)⟩
                  · exact hOb b (by simpa using hm) rfl
                  · exact absurd (World.ownsRow.lt hO6 x (by simpa using hx)).1 (by omega)
                have hLd : U8R.Sl (W0.alloc (.cells #[.int .u8 (s[j + 1].toNat : Int)] 5)).drew (W0.heap.size + 1) (.slice (some ⟨W0.heap.size, 0, none⟩) 1 1) [s[j + 1]] := U8R.lit W0 s[j + 1] #[.int .u8 (s[j + 1].toNat : Int)] rfl
                have hOd : U8R.Own (W0.alloc (.cells #[.int .u8 (s[j + 1].toNat : Int)] 5)).drew w.heap.size (.slice va a.length vc) a := hO6.alloc _
                have HLn : Hid (a.length + [s[j + 1]].length ≤ 1099511627) := by show _ ≤ _; simp; omega
                have hbs : w.heap.size ≤ (W0.alloc (.cells #[.int .u8 (s[j + 1].toNat : Int)] 5)).drew.heap.size := by have := hT6.size; show _ ≤ (W0.alloc _).heap.size; rw [size_alloc]; omega
                have hal2 : a.length + 1 ≤ j + 1 + 1 := by omega
                clear hT6 hR6 hO6 hOb
                go_upto_region 11 with fail
                go_region_law
                  (first | (refine Rc.step_app U8R ?_ (.tmp 56) (.tmp 66) ?_ w.heap.size (W0.heap.size + 1) _ _ a [s[j + 1]] ?_ hOd ?_ hLd (by simp) HLn hbs ?_; (next => rfl); (next => rfl); (next => rfl); (next => rfl); intro g cap w4 hO8 hg8; obtain ⟨hR8, hT8⟩ := HY.out w4 hg8; have d1 : w4.cell? ⟨b, 1, none⟩ = some (.int .i64 ((j : Int) + 1)) := Rw.cell hR8 1; have f1 : w4.frozen? ⟨b, 1, none⟩ = false := Rw.free hR8 1; have hR9 : RdZ (w4.setCell ⟨b, 1, none⟩ (.int .i64 ((j : Int) + 1 + 1))) b s (j + 1 + 1) := hR8.move 1 1 rfl; have hat9 := hR9.at_; have hT9 := hT8.trans (Turn.put1 w4 b 1 (.int .i64 ((j : Int) + 1 + 1))) (by simp); have hO9 := Row.turn hO8 (Turn.put1 w4 b 1 (.int .i64 ((j : Int) + 1 + 1))) (by intro g hg hm; rw [List.mem_singleton] at hm; subst hm; exact absurd (World.ownsRow.lt hO8 _ hg).1 (by omega))) | fail)
                all_goals go_wp2
                all_goals (refine ⟨⟨j + 1 + 1, a ++ [s[j + 1]], hR9, by omega, by omega, hO9, by simp; omega, ?_, hT9⟩, by omega⟩; show _ = _; rw [HX.out]; exact HN)
              by_cases ec : c = 58
              · subst ec
                have hQ0 := Qt.refl wr
                have hov := over_q hR (t := false) (by exact decide_eq_false (by have := Dp.drop_lt hd; omega))
                have hS := pre_q hR hj ⟨#[32]⟩ (t := false) (by rw [hd]; rfl)
                have hC := pre_q hR hj ⟨#[58]⟩ (t := false) (by rw [hd]; rfl)
                have hn := pre_q hR hj ⟨#[10]⟩ (t := false) (by rw [hd]; rfl)
                have hJ := pre_q hR hj ⟨#[92, 10]⟩ (t := false) (by rw [hd]; rfl)
                have ha := pre_q hR hj ⟨#[92, 32]⟩ (t := false) (by rw [hd]; rfl)
                have hb := pre_q hR hj ⟨#[92, 58]⟩ (t := true) (by rw [hd]; rfl)
                have HN : Hid _ := word_in 58 2 hij (Dp.drop_next2 hd) HW.out (by rw [hd]; rfl)
                clear hd
                go_wp2_with fail
                refine (hov _ hQ0).mono ?_
                rintro e W1 ⟨rfl, hQ1⟩
                go_wp2_with fail
                refine (hS _ hQ1).mono ?_
                rintro e W2 ⟨rfl, hQ2⟩
                go_wp2_with fail
                refine (hC _ hQ2).mono ?_
                rintro e W3 ⟨rfl, hQ3⟩
                go_wp2_with fail
                refine (hn _ hQ3).mono ?_
                rintro e W4 ⟨rfl, hQ4⟩
                go_wp2_with fail
                refine (hJ _ hQ4).mono ?_
                rintro e W5 ⟨rfl, hQ5⟩
                have c0 : W5.cell? ⟨b, 0, none⟩ = some (.string s) := Rw.cell (hR.heap hQ5.heap) 0
                have c1 : W5.cell? ⟨b, 1, none⟩ = some (.int .i64 (j : Int)) := Rw.cell (hR.heap hQ5.heap) 1
                go_wp2_with fail
                go_quiet (fail)
                have hQ6 := hQ5.drewN nq
                clear c0 c1
                go_wp2_with fail
                refine (ha _ hQ6).mono ?_
                rintro e W7 ⟨rfl, hQ7⟩
                go_wp2_with fail
                refine (hb _ hQ7).mono ?_
                rintro e W8 ⟨rfl, hQ8⟩
                have hR5 := hR.heap hQ8.heap
                obtain ⟨va, vc, rfl, -, -⟩ := (U8R.own hO).byts
                have hO5 : U8R.Own W8 w.heap.size (.slice va a.length vc) a := hO.below (hQ8.below) (Nat.le_refl _)
                have hT5 := hQ8.turn hT
                have HX : Hid (s[j + 1] = 58) := hbyte2
                clear hR hO hT hov hQ0 hbyte2 hx HW
                have c1 : W8.cell? ⟨b, 1, none⟩ = some (.int .i64 (j : Int)) := Rw.cell hR5 1
                have f1 : W8.frozen? ⟨b, 1, none⟩ = false := Rw.free hR5 1
                have hR6 := hR5.move 1 1 rfl
                have hT6 := hT5.trans (Turn.put1 W8 b 1 (.int .i64 ((j : Int) + 1))) (by simp)
                have hO6 : U8R.Own (W8.setCell ⟨b, 1, none⟩ (.int .i64 ((j : Int) + 1))) w.heap.size _ a := Row.turn hO5 (Turn.put1 W8 b 1 _) (by intro g hg hm; rw [List.mem_singleton] at hm; subst hm; exact absurd (World.ownsRow.lt hO5 _ hg).1 (by omega))
                go_wp2_with fail
                generalize W8.setCell ⟨b, 1, none⟩ (.int .i64 ((j : Int) + 1)) = W0 at *
                have hOb : ∀ g, (Value.slice va a.length vc).ownBlock = some g → b ≠ g := fun g hg e => by subst e; exact absurd (World.ownsRow.lt hO6 _ hg).1 (by omega)
                have c0 : W0.cell? ⟨b, 0, none⟩ = some (.string s) := Rw.cell hR6 0
                have c1 : W0.cell? ⟨b, 1, none⟩ = some (.int .i64 ((j : Int) + 1)) := Rw.cell hR6 1
                have HY : Hid (∀ w4, (W0.alloc (.cells #[.int .u8 (s[j + 1].toNat : Int)] 5)).drew.grownBy w4 (Value.slice va a.length vc).ownBlock → RdZ w4 b s (j + 1) ∧ Turn [b] w w4) := fun w4 hg => by
                  have hT7 : Turn (Value.slice va a.length vc).ownBlock.toList W0 w4 := (((Turn.refl (Value.slice va a.length vc).ownBlock.toList W0).alloc _).drew).trans (Turn.of_grown hg) (fun x hx _ => hx)
                  refine ⟨hR6.turn hT7 (fun hm => ?_), hT6.trans hT7 (fun x hx hl => ?_)⟩
                  · exact hOb b (by simpa using hm) rfl
                  · exact absurd (World.ownsRow.lt hO6 x (by simpa using hx)).1 (by omega)
                have hLd : U8R.Sl (W0.alloc (.cells #[.int .u8 (s[j + 1].toNat : Int)] 5)).drew (W0.heap.size + 1) (.slice (some ⟨W0.heap.size, 0, none⟩) 1 1) [s[j + 1]] := U8R.lit W0 s[j + 1] #[.int .u8 (s[j + 1].toNat : Int)] rfl
                have hOd : U8R.Own (W0.alloc (.cells #[.int .u8 (s[j + 1].toNat : Int)] 5)).drew w.heap.size (.slice va a.length vc) a := hO6.alloc _
                have HLn : Hid (a.length + [s[j + 1]].length ≤ 1099511627) := by show _ ≤ _; simp; omega
                have hbs : w.heap.size ≤ (W0.alloc (.cells #[.int .u8 (s[j + 1].toNat : Int)] 5)).drew.heap.size := by have := hT6.size; show _ ≤ (W0.alloc _).heap.size; rw [size_alloc]; omega
                have hal2 : a.length + 1 ≤ j + 1 + 1 := by omega
                clear hT6 hR6 hO6 hOb
                go_upto_region 11 with fail
                go_region_law
                  (first | (refine Rc.step_app U8R ?_ (.tmp 56) (.tmp 66) ?_ w.heap.size (W0.heap.size + 1) _ _ a [s[j + 1]] ?_ hOd ?_ hLd (by simp) HLn hbs ?_; (next => rfl); (next => rfl); (next => rfl); (next => rfl); intro g cap w4 hO8 hg8; obtain ⟨hR8, hT8⟩ := HY.out w4 hg8; have d1 : w4.cell? ⟨b, 1, none⟩ = some (.int .i64 ((j : Int) + 1)) := Rw.cell hR8 1; have f1 : w4.frozen? ⟨b, 1, none⟩ = false := Rw.free hR8 1; have hR9 : RdZ (w4.setCell ⟨b, 1, none⟩ (.int .i64 ((j : Int) + 1 + 1))) b s (j + 1 + 1) := hR8.move 1 1 rfl; have hat9 := hR9.at_; have hT9 := hT8.trans (Turn.put1 w4 b 1 (.int .i64 ((j : Int) + 1 + 1))) (by simp); have hO9 := Row.turn hO8 (Turn.put1 w4 b 1 (.int .i64 ((j : Int) + 1 + 1))) (by intro g hg hm; rw [List.mem_singleton] at hm; subst hm; exact absurd (World.ownsRow.lt hO8 _ hg).1 (by omega))) | fail)
                all_goals go_wp2
                all_goals (refine ⟨⟨j + 1 + 1, a ++ [s[j + 1]], hR9, by omega, by omega, hO9, by simp; omega, ?_, hT9⟩, by omega⟩; show _ = _; rw [HX.out]; exact HN)
              by_cases ec : c = 92
              · subst ec
                have hQ0 := Qt.refl wr
                have hov := over_q hR (t := false) (by exact decide_eq_false (by have := Dp.drop_lt hd; omega))
                have hS := pre_q hR hj ⟨#[32]⟩ (t := false) (by rw [hd]; rfl)
                have hC := pre_q hR hj ⟨#[58]⟩ (t := false) (by rw [hd]; rfl)
                have hn := pre_q hR hj ⟨#[10]⟩ (t := false) (by rw [hd]; rfl)
                have hJ := pre_q hR hj ⟨#[92, 10]⟩ (t := false) (by rw [hd]; rfl)
                have ha := pre_q hR hj ⟨#[92, 32]⟩ (t := false) (by rw [hd]; rfl)
                have hb := pre_q hR hj ⟨#[92, 58]⟩ (t := false) (by rw [hd]; rfl)
                have hc := pre_q hR hj ⟨#[92, 92]⟩ (t := true) (by rw [hd]; rfl)
                have HN : Hid _ := word_in 92 2 hij (Dp.drop_next2 hd) HW.out (by rw [hd]; rfl)
                clear hd
                go_wp2_with fail
                refine (hov _ hQ0).mono ?_
                rintro e W1 ⟨rfl, hQ1⟩
                go_wp2_with fail
                refine (hS _ hQ1).mono ?_
                rintro e W2 ⟨rfl, hQ2⟩
                go_wp2_with fail
                refine (hC _ hQ2).mono ?_
                rintro e W3 ⟨rfl, hQ3⟩
                go_wp2_with fail
                refine (hn _ hQ3).mono ?_
                rintro e W4 ⟨rfl, hQ4⟩
                go_wp2_with fail
                refine (hJ _ hQ4).mono ?_
                rintro e W5 ⟨rfl, hQ5⟩
                have c0 : W5.cell? ⟨b, 0, none⟩ = some (.string s) := Rw.cell (hR.heap hQ5.heap) 0
                have c1 : W5.cell? ⟨b, 1, none⟩ = some (.int .i64 (j : Int)) := Rw.cell (hR.heap hQ5.heap) 1
                go_wp2_with fail
                go_quiet (fail)
                have hQ6 := hQ5.drewN nq
                clear c0 c1
                go_wp2_with fail
                refine (ha _ hQ6).mono ?_
                rintro e W7 ⟨rfl, hQ7⟩
                go_wp2_with fail
                refine (hb _ hQ7).mono ?_
                rintro e W8 ⟨rfl, hQ8⟩
                go_wp2_with fail
                refine (hc _ hQ8).mono ?_
                rintro e W9 ⟨rfl, hQ9⟩
                have hR5 := hR.heap hQ9.heap
                obtain ⟨va, vc, rfl, -, -⟩ := (U8R.own hO).byts
                have hO5 : U8R.Own W9 w.heap.size (.slice va a.length vc) a := hO.below (hQ9.below) (Nat.le_refl _)
                have hT5 := hQ9.turn hT
                have HX : Hid (s[j + 1] = 92) := hbyte2
                clear hR hO hT hov hQ0 hbyte2 hx HW
                have c1 : W9.cell? ⟨b, 1, none⟩ = some (.int .i64 (j : Int)) := Rw.cell hR5 1
                have f1 : W9.frozen? ⟨b, 1, none⟩ = false := Rw.free hR5 1
                have hR6 := hR5.move 1 1 rfl
                have hT6 := hT5.trans (Turn.put1 W9 b 1 (.int .i64 ((j : Int) + 1))) (by simp)
                have hO6 : U8R.Own (W9.setCell ⟨b, 1, none⟩ (.int .i64 ((j : Int) + 1))) w.heap.size _ a := Row.turn hO5 (Turn.put1 W9 b 1 _) (by intro g hg hm; rw [List.mem_singleton] at hm; subst hm; exact absurd (World.ownsRow.lt hO5 _ hg).1 (by omega))
                go_wp2_with fail
                generalize W9.setCell ⟨b, 1, none⟩ (.int .i64 ((j : Int) + 1)) = W0 at *
                have hOb : ∀ g, (Value.slice va a.length vc).ownBlock = some g → b ≠ g := fun g hg e => by subst e; exact absurd (World.ownsRow.lt hO6 _ hg).1 (by omega)
                have c0 : W0.cell? ⟨b, 0, none⟩ = some (.string s) := Rw.cell hR6 0
                have c1 : W0.cell? ⟨b, 1, none⟩ = some (.int .i64 ((j : Int) + 1)) := Rw.cell hR6 1
                have HY : Hid (∀ w4, (W0.alloc (.cells #[.int .u8 (s[j + 1].toNat : Int)] 5)).drew.grownBy w4 (Value.slice va a.length vc).ownBlock → RdZ w4 b s (j + 1) ∧ Turn [b] w w4) := fun w4 hg => by
                  have hT7 : Turn (Value.slice va a.length vc).ownBlock.toList W0 w4 := (((Turn.refl (Value.slice va a.length vc).ownBlock.toList W0).alloc _).drew).trans (Turn.of_grown hg) (fun x hx _ => hx)
                  refine ⟨hR6.turn hT7 (fun hm => ?_), hT6.trans hT7 (fun x hx hl => ?_)⟩
                  · exact hOb b (by simpa using hm) rfl
                  · exact absurd (World.ownsRow.lt hO6 x (by simpa using hx)).1 (by omega)
                have hLd : U8R.Sl (W0.alloc (.cells #[.int .u8 (s[j + 1].toNat : Int)] 5)).drew (W0.heap.size + 1) (.slice (some ⟨W0.heap.size, 0, none⟩) 1 1) [s[j + 1]] := U8R.lit W0 s[j + 1] #[.int .u8 (s[j + 1].toNat : Int)] rfl
                have hOd : U8R.Own (W0.alloc (.cells #[.int .u8 (s[j + 1].toNat : Int)] 5)).drew w.heap.size (.slice va a.length vc) a := hO6.alloc _
                have HLn : Hid (a.length + [s[j + 1]].length ≤ 1099511627) := by show _ ≤ _; simp; omega
                have hbs : w.heap.size ≤ (W0.alloc (.cells #[.int .u8 (s[j + 1].toNat : Int)] 5)).drew.heap.size := by have := hT6.size; show _ ≤ (W0.alloc _).heap.size; rw [size_alloc]; omega
                have hal2 : a.length + 1 ≤ j + 1 + 1 := by omega
                clear hT6 hR6 hO6 hOb
                go_upto_region 11 with fail
                go_region_law
                  (first | (refine Rc.step_app U8R ?_ (.tmp 56) (.tmp 66) ?_ w.heap.size (W0.heap.size + 1) _ _ a [s[j + 1]] ?_ hOd ?_ hLd (by simp) HLn hbs ?_; (next => rfl); (next => rfl); (next => rfl); (next => rfl); intro g cap w4 hO8 hg8; obtain ⟨hR8, hT8⟩ := HY.out w4 hg8; have d1 : w4.cell? ⟨b, 1, none⟩ = some (.int .i64 ((j : Int) + 1)) := Rw.cell hR8 1; have f1 : w4.frozen? ⟨b, 1, none⟩ = false := Rw.free hR8 1; have hR9 : RdZ (w4.setCell ⟨b, 1, none⟩ (.int .i64 ((j : Int) + 1 + 1))) b s (j + 1 + 1) := hR8.move 1 1 rfl; have hat9 := hR9.at_; have hT9 := hT8.trans (Turn.put1 w4 b 1 (.int .i64 ((j : Int) + 1 + 1))) (by simp); have hO9 := Row.turn hO8 (Turn.put1 w4 b 1 (.int .i64 ((j : Int) + 1 + 1))) (by intro g hg hm; rw [List.mem_singleton] at hm; subst hm; exact absurd (World.ownsRow.lt hO8 _ hg).1 (by omega))) | fail)
                all_goals go_wp2
                all_goals (refine ⟨⟨j + 1 + 1, a ++ [s[j + 1]], hR9, by omega, by omega, hO9, by simp; omega, ?_, hT9⟩, by omega⟩; show _ = _; rw [HX.out]; exact HN)
              exfalso
              revert he
              simp [Dp.esc, *]
      have hst : Dp.stop c = false := by simp [Dp.stop, e32, e58, e10]
      have hjl : j < s.size := by have := Dp.drop_lt hd; omega
      have hbyte := byte_at hd hjl
      have j0 : (0 : Int) ≤ (j : Int) := by omega
      have j1 : (j : Int) < (s.size : Int) := by omega
      by_cases h32 : c < 32
      · have hx : ((s[j].toNat : Int) < 32) = True := by rw [hbyte]; have : c.toNat < 32 := h32; simp; omega
        have hQ0 := Qt.refl wr
        have hov := over_q hR (t := false) (by exact decide_eq_false (by have := Dp.drop_lt hd; omega))
        have hS := pre_q hR hj ⟨#[32]⟩ (t := false) (by rw [hd]; simp [List.isPrefixOf, Ne.symm e32])
        have hC := pre_q hR hj ⟨#[58]⟩ (t := false) (by rw [hd]; simp [List.isPrefixOf, Ne.symm e58])
        have hn := pre_q hR hj ⟨#[10]⟩ (t := false) (by rw [hd]; simp [List.isPrefixOf, Ne.symm e10])
        have hJ := pre_q hR hj ⟨#[92, 10]⟩ (t := false) (by rw [hd]; simp [List.isPrefixOf, Ne.symm e92])
        have HN : Hid (Dp.wordR ((bs s).drop j) = (none, 0)) := by show _ = _; rw [hd, Dp.wordR_byte e92, hst, if_neg (by simp), if_pos h32]
        clear hd hbyte
        go_wp2_with fail
        refine (hov _ hQ0).mono ?_
        rintro e W1 ⟨rfl, hQ1⟩
        go_wp2_with fail
        refine (hS _ hQ1).mono ?_
        rintro e W2 ⟨rfl, hQ2⟩
        go_wp2_with fail
        refine (hC _ hQ2).mono ?_
        rintro e W3 ⟨rfl, hQ3⟩
        go_wp2_with fail
        refine (hn _ hQ3).mono ?_
        rintro e W4 ⟨rfl, hQ4⟩
        go_wp2_with fail
        refine (hJ _ hQ4).mono ?_
        rintro e W5 ⟨rfl, hQ5⟩
        have c0 : W5.cell? ⟨b, 0, none⟩ = some (.string s) := Rw.cell (hR.heap hQ5.heap) 0
        have c1 : W5.cell? ⟨b, 1, none⟩ = some (.int .i64 (j : Int)) := Rw.cell (hR.heap hQ5.heap) 1
        go_wp2_with fail
        go_quiet (fail)
        have hR5 := hR.heap hQ5.heap
        have hT5 := hQ5.turn hT
        go_wp2
        go_ret2
        have HR := HW.out
        rw [HN.out] at HR
        rw [HR]
        refine ⟨by simp; rfl, ?_, ?_⟩
        · rw [show i + (0 + (j - i)) = j by omega]; exact hR5.heap rfl
        · first | exact hT5 | exact hT5.drewN _
      · have hx : ((s[j].toNat : Int) < 32) = False := by rw [hbyte]; have : ¬ c.toNat < 32 := h32; simp; omega
        have hQ0 := Qt.refl wr
        have hov := over_q hR (t := false) (by exact decide_eq_false (by have := Dp.drop_lt hd; omega))
        have hS := pre_q hR hj ⟨#[32]⟩ (t := false) (by rw [hd]; simp [List.isPrefixOf, Ne.symm e32])
        have hC := pre_q hR hj ⟨#[58]⟩ (t := false) (by rw [hd]; simp [List.isPrefixOf, Ne.symm e58])
        have hn := pre_q hR hj ⟨#[10]⟩ (t := false) (by rw [hd]; simp [List.isPrefixOf, Ne.symm e10])
        have hJ := pre_q hR hj ⟨#[92, 10]⟩ (t := false) (by rw [hd]; simp [List.isPrefixOf, Ne.symm e92])
        have ha := pre_q hR hj ⟨#[92, 32]⟩ (t := false) (by rw [hd]; simp [List.isPrefixOf, Ne.symm e92])
        have hb := pre_q hR hj ⟨#[92, 58]⟩ (t := false) (by rw [hd]; simp [List.isPrefixOf, Ne.symm e92])
        have hc := pre_q hR hj ⟨#[92, 92]⟩ (t := false) (by rw [hd]; simp [List.isPrefixOf, Ne.symm e92])
        have hz := pre_q hR hj ⟨#[92]⟩ (t := false) (by rw [hd]; simp [List.isPrefixOf, Ne.symm e92])
        have HN : Hid _ := word_in c 1 hij (Dp.drop_next hd) HW.out (by rw [hd, Dp.wordR_byte e92, hst, if_neg (by simp), if_neg h32])
        have HX : Hid (s[j] = c) := hbyte
        clear hd hbyte
        go_wp2_with fail
        refine (hov _ hQ0).mono ?_
        rintro e W1 ⟨rfl, hQ1⟩
        go_wp2_with fail
        refine (hS _ hQ1).mono ?_
        rintro e W2 ⟨rfl, hQ2⟩
        go_wp2_with fail
        refine (hC _ hQ2).mono ?_
        rintro e W3 ⟨rfl, hQ3⟩
        go_wp2_with fail
        refine (hn _ hQ3).mono ?_
        rintro e W4 ⟨rfl, hQ4⟩
        go_wp2_with fail
        refine (hJ _ hQ4).mono ?_
        rintro e W5 ⟨rfl, hQ5⟩
        have c0 : W5.cell? ⟨b, 0, none⟩ = some (.string s) := Rw.cell (hR.heap hQ5.heap) 0
        have c1 : W5.cell? ⟨b, 1, none⟩ = some (.int .i64 (j : Int)) := Rw.cell (hR.heap hQ5.heap) 1
        go_wp2_with fail
        go_quiet (fail)
        have hQ6 := hQ5.drewN nq
        clear c0 c1
        go_wp2_with fail
        refine (ha _ hQ6).mono ?_
        rintro e W7 ⟨rfl, hQ7⟩
        go_wp2_with fail
        refine (hb _ hQ7).mono ?_
        rintro e W8 ⟨rfl, hQ8⟩
        go_wp2_with fail
        refine (hc _ hQ8).mono ?_
        rintro e W9 ⟨rfl, hQ9⟩
        go_wp2_with fail
        refine (hz _ hQ9).mono ?_
        rintro e W10 ⟨rfl, hQ10⟩
        have hR5 := hR.heap hQ10.heap
        obtain ⟨va, vc, rfl, -, -⟩ := (U8R.own hO).byts
        have hO5 : U8R.Own W10 w.heap.size (.slice va a.length vc) a := hO.below (hQ10.below) (Nat.le_refl _)
        have hT5 := hQ10.turn hT
        clear hR hO hT hov hQ0 hx HW
        go_wp2_with fail
        obtain ⟨W0, hW0⟩ : ∃ W0, W10 = W0 := ⟨_, rfl⟩
        rw [hW0] at hR5 hO5 hT5 ⊢
        have hR6 := hR5
        have hO6 := hO5
        have hT6 := hT5
        have hOb : ∀ g, (Value.slice va a.length vc).ownBlock = some g → b ≠ g := fun g hg e => by subst e; exact absurd (World.ownsRow.lt hO6 _ hg).1 (by omega)
        have c0 : W0.cell? ⟨b, 0, none⟩ = some (.string s) := Rw.cell hR6 0
        have c1 : W0.cell? ⟨b, 1, none⟩ = some (.int .i64 ((j : Int))) := Rw.cell hR6 1
        have HY : Hid (∀ w4, (W0.alloc (.cells #[.int .u8 (s[j].toNat : Int)] 5)).drew.grownBy w4 (Value.slice va a.length vc).ownBlock → RdZ w4 b s (j) ∧ Turn [b] w w4) := fun w4 hg => by
          have hT7 : Turn (Value.slice va a.length vc).ownBlock.toList W0 w4 := (((Turn.refl (Value.slice va a.length vc).ownBlock.toList W0).alloc _).drew).trans (Turn.of_grown hg) (fun x hx _ => hx)
          refine ⟨hR6.turn hT7 (fun hm => ?_), hT6.trans hT7 (fun x hx hl => ?_)⟩
          · exact hOb b (by simpa using hm) rfl
          · exact absurd (World.ownsRow.lt hO6 x (by simpa using hx)).1 (by omega)
        have hLd : U8R.Sl (W0.alloc (.cells #[.int .u8 (s[j].toNat : Int)] 5)).drew (W0.heap.size + 1) (.slice (some ⟨W0.heap.size, 0, none⟩) 1 1) [s[j]] := U8R.lit W0 s[j] #[.int .u8 (s[j].toNat : Int)] rfl
        have hOd : U8R.Own (W0.alloc (.cells #[.int .u8 (s[j].toNat : Int)] 5)).drew w.heap.size (.slice va a.length vc) a := hO6.alloc _
        have HLn : Hid (a.length + [s[j]].length ≤ 1099511627) := by show _ ≤ _; simp; omega
        have hbs : w.heap.size ≤ (W0.alloc (.cells #[.int .u8 (s[j].toNat : Int)] 5)).drew.heap.size := by have := hT6.size; show _ ≤ (W0.alloc _).heap.size; rw [size_alloc]; omega
        have hal2 : a.length + 1 ≤ j + 1 := by omega
        clear hT6 hR6 hO6 hOb
        go_upto_region 11 with fail
        go_region_law
          (first | (refine Rc.step_app U8R ?_ (.tmp 56) (.tmp 66) ?_ w.heap.size (W0.heap.size + 1) _ _ a [s[j]] ?_ hOd ?_ hLd (by simp) HLn hbs ?_; (next => rfl); (next => rfl); (next => rfl); (next => rfl); intro g cap w4 hO8 hg8; obtain ⟨hR8, hT8⟩ := HY.out w4 hg8; have d1 : w4.cell? ⟨b, 1, none⟩ = some (.int .i64 ((j : Int))) := Rw.cell hR8 1; have f1 : w4.frozen? ⟨b, 1, none⟩ = false := Rw.free hR8 1; have hR9 : RdZ (w4.setCell ⟨b, 1, none⟩ (.int .i64 ((j : Int) + 1))) b s (j + 1) := hR8.move 1 1 rfl; have hat9 := hR9.at_; have hT9 := hT8.trans (Turn.put1 w4 b 1 (.int .i64 ((j : Int) + 1))) (by simp); have hO9 := Row.turn hO8 (Turn.put1 w4 b 1 (.int .i64 ((j : Int) + 1))) (by intro g hg hm; rw [List.mem_singleton] at hm; subst hm; exact absurd (World.ownsRow.lt hO8 _ hg).1 (by omega))) | fail)
        all_goals go_wp2
        all_goals (refine ⟨⟨j + 1, a ++ [s[j]], hR9, by omega, by omega, hO9, by simp; omega, ?_, hT9⟩, by omega⟩; show _ = _; rw [HX.out]; exact HN)

end Go.Proofs.Ytppcfidaalejfaa
