/-
  WHAT strings.Split DOES AT ONE BYTE 10; linesOf.
-/
import Derived.Test.YtnobmgkdieaclaaGreatDoorSLib
import Derived.Test.YtnobmgkdieaclaaGreatDoorKit
import Derived.Test.YtnobmgkdieaclaaGreatDoorPBs
import Derived.Sort.Walk0
import Derived.Lib.SlicesCompact
namespace Go.Proofs.YtnobmgkdieaclaaGreatDoor
open Go.RowKit Go.Shelf

namespace Ip
theorem cutN_ne : ∀ s : B, cutN s ≠ []
  | [] => by simp [cutN]
  | c :: r => by
    rw [cutN]
    split
    · simp
    · split <;> simp
theorem cutN_plain : ∀ {s : B}, (10 : UInt8) ∉ s → cutN s = [s]
  | [], _ => rfl
  | c :: r, h => by
    have h1 : c ≠ 10 := fun e => h (by simp [e])
    rw [cutN, if_neg h1, cutN_plain (s := r) (fun hm => h (by simp [hm]))]
theorem cutN_hit : ∀ {a b : B}, (10 : UInt8) ∉ a → cutN (a ++ 10 :: b) = a :: cutN b
  | [], b, _ => by simp [cutN]
  | c :: r, b, h => by
    have h1 : c ≠ 10 := fun e => h (by simp [e])
    rw [List.cons_append, cutN, if_neg h1, cutN_hit (a := r) (fun hm => h (by simp [hm]))]
theorem cutN_len : ∀ s : B, (cutN s).length = s.count 10 + 1
  | [] => rfl
  | c :: r => by
    have h := cutN_len r
    have hn := cutN_ne r
    rw [cutN]
    by_cases hc : c = 10
    · rw [if_pos hc, hc, List.count_cons_self, List.length_cons, h]
    · rw [if_neg hc, List.count_cons_of_ne (fun e => hc e), ← h]
      cases hr : cutN r with
      | nil => exact absurd hr hn
      | cons p q => simp
end Ip
theorem str_extract (R : List UInt8) (a b : Nat) : (str R).extract a b = str ((R.drop a).take (b - a)) := by
  apply bs_inj
  rw [bs_extract]
  simp [bs, str]
/-- block g holds just these texts -/
def TxB (w : World) (g : Nat) (l : List (List UInt8)) : Prop := Rw w g (l.map fun s => Value.string (str s)).toArray 9
theorem TxB.set {w : World} {g : Nat} {l : List (List UInt8)} (h : TxB w g l) (j : Nat) (s : List UInt8) (hj : j < l.length) : TxB (w.setCell ⟨g, j, none⟩ (.string (str s))) g (l.set j s) := by
  have := Rw.set h j (.string (str s)) (by simpa using hj)
  unfold TxB
  rw [List.map_set]
  simpa using this
theorem TxB.free {w : World} {g : Nat} {l : List (List UInt8)} (h : TxB w g l) (j : Nat) : w.frozen? ⟨g, j, none⟩ = false := Rw.free h j
theorem TxB.cell {w : World} {g : Nat} {l : List (List UInt8)} (h : TxB w g l) (j : Nat) (hj : j < l.length) : w.cell? ⟨g, j, none⟩ = some (.string (str l[j])) := by
  rw [Rw.cell h j]
  simp [hj]
theorem txB_vals : ∀ l : List (List UInt8), TxR.vals l = l.map fun s => Value.string (str s)
  | [] => rfl
  | a :: r => by
    rw [List.map_cons, ← txB_vals r]
    rfl
theorem TxB.own {w : World} {g base : Nat} {l : List (List UInt8)} (h : TxB w g l) (hg : base ≤ g) (hl : l.length ≤ 1099511627) : TxR.Own w base (.slice (some ⟨g, 0, none⟩) l.length l.length) l := by
  refine ⟨by rw [TxR.vals_length], .inr ⟨g, l.length, _, rfl, hg, h, Nat.le_refl _, by unfold maxLen; omega, ?_, ?_⟩⟩
  · simp [TxR]
  · rw [txB_vals]
    show List.take (l.length * 1) _ = _
    rw [Nat.mul_one]
    exact List.take_of_length_le (by simp)

theorem make_texts (z : Int) (n : Nat) (hz : z = (n : Int)) (hn : n ≤ 1099511627) (W : World) :
    (Instr.makeSlice 23 (.int .i64 z) (.int .i64 z)).run Tryz.prog W = .ok (.slice (some ⟨W.heap.size, 0, none⟩) n n) (W.alloc (.cells ((List.replicate n ([] : List UInt8)).map fun s => Value.string (str s)).toArray 9)) := by
  obtain ⟨i0, hi, hz0, hz1, hz2⟩ := info_parts TxR.info
  subst hz
  rw [run_make W 23 9 i0 (.string .empty) Tryz.underlying23 hi hz0 .i64 .i64 (n : Int) (n : Int) (by omega) (by omega) (by rw [hz2]; show (16 : Int) * _ ≤ _; omega) (by omega), hz1]
  have e : madeCells (Value.string .empty).cells n = ((List.replicate n ([] : List UInt8)).map fun s => Value.string (str s)).toArray := by
    apply Array.ext
    · simp [size_madeCells]
    · intro j h1 h2
      have hz : (Value.string ByteArray.empty).cells = #[Value.string .empty] := rfl
      simp [madeCells, hz, Nat.mod_one]
      rfl
  simp only [Int.toNat_natCast]
  rw [show n * TxR.k = n by show n * 1 = n; omega, e]

set_option maxRecDepth 100000 in
set_option maxHeartbeats 1000000 in
theorem genSplit_any (s : List UInt8) (w : World) (hs : s.length ≤ 1000000) : Calls Tryz.prog 143 #[.string (str s), .string ⟨#[10]⟩, .int .i64 0, .int .i64 (-1)] w fun e w' => e = .returned (.slice (some ⟨w.heap.size, 0, none⟩) (Ip.cutN s).length (Ip.cutN s).length) ∧ TxB w' w.heap.size (Ip.cutN s) ∧ Below w.heap.size w w' := by
  have hC := Count_one (str s) 10
  rw [show bs (str s) = s by simp [bs, str]] at hC
  have hcl := Ip.cutN_len s
  have hcs := List.count_le_length (a := (10 : UInt8)) (l := s)
  obtain ⟨N, hN⟩ : ∃ N, s.count 10 = N := ⟨_, rfl⟩
  rw [hN] at hC hcl hcs
  rw [hcl]
  have HN : Hid (s.count 10 = N) := hN
  have HCL : Hid ((Ip.cutN s).length = N + 1) := hcl
  have hsz := str_size s
  have nb : (N : Int) ≤ 1000000 := by omega
  have mn : min ((N : Int) + 1) (((str s).size : Int) + 1) = (N : Int) + 1 := by omega
  have zb : ((str s).size : Int) ≤ 1000000 := by omega
  have hM := make_texts ((N : Int) + 1) (N + 1) (by omega) (by omega)
  have HB0 : Hid (TxB (w.alloc (.cells ((List.replicate (N + 1) ([] : List UInt8)).map fun s => Value.string (str s)).toArray 9)) w.heap.size (List.replicate (N + 1) [])) := Rw.new w _ 9
  have HW0 : Hid (Below w.heap.size w (w.alloc (.cells ((List.replicate (N + 1) ([] : List UInt8)).map fun s => Value.string (str s)).toArray 9))) := (Below.refl _ w).alloc (Nat.le_refl _) _
  have hM0 := hM w
  generalize w.alloc (.cells ((List.replicate (N + 1) ([] : List UInt8)).map fun s => Value.string (str s)).toArray 9) = W0 at *
  have HZ : Hid (s.length ≤ 1000000) := hs
  clear hN hcl hsz hM hs hcs
  obtain ⟨S0, hS0⟩ : ∃ S0, str s = S0 := ⟨_, rfl⟩
  have HS0 : Hid (str s = S0) := hS0
  rw [hS0] at hC mn zb ⊢
  clear hS0
  go_enter Tryz.func143, Tryz.ntmps143
  go_wp2_with (first | (go_at_call 115; refine (hC _).mono ?_; rintro e w1 ⟨rfl, hw1⟩; rw [hw1]; clear hw1) | fail)
  go_loopw [0, 10] (fun sv iv wr => ∃ (i : Nat) (P : List (List UInt8)) (R : List UInt8), i ≤ N ∧ sv = .string (str R) ∧ iv = .int .i64 (i : Int) ∧ Hid (P.length = i ∧ P ++ Ip.cutN R = Ip.cutN s ∧ R.count 10 + i = N ∧ R.length ≤ 1000000) ∧ Hid (TxB wr w.heap.size (P ++ List.replicate (N + 1 - i) [])) ∧ Hid (Below w.heap.size w wr)) (fun _ iv _ => N - (intOf iv).toNat)
  case atStart => exact ⟨0, [], s, Nat.zero_le _, by rw [HS0.out], rfl, ⟨rfl, rfl, by rw [HN.out]; rfl, HZ.out⟩, HB0.out, HW0.out⟩
  case round =>
    obtain ⟨i, P, R, hi, rfl, rfl, HH, HT, HB⟩ := hrel
    obtain ⟨p1, p2, p3, p4⟩ := HH.out
    have fr := fun j => TxB.free HT.out j
    have cl := TxB.cell HT.out i (by simp; omega)
    obtain ⟨C0, hC0⟩ : ∃ C0, str ((P ++ List.replicate (N + 1 - i) ([] : List UInt8))[i]'(by simp; omega)) = C0 := ⟨_, rfl⟩
    rw [hC0] at cl
    clear hC0
    by_cases hlt : i < N
    · have i1 : (i : Int) < (N : Int) := by omega
      have hI := Index_one (str R) 10
      rw [show bs (str R) = R by simp [bs, str]] at hI
      rcases indexByte_cases R 10 with ⟨h1, h2⟩ | ⟨k, h1, h2, h3, h4⟩
      · have := List.count_eq_zero.2 h2
        omega
      · rw [h1] at hI
        have hx1 := str_extract R 0 k
        have hsz := str_size R
        have hx2 := str_extract R (k + 1) (str R).size
        have hcut := Ip.cutN_hit (b := R.drop (k + 1)) h4
        rw [← h3] at hcut
        have hcnt := count_hit h3 h4
        have hd : (R.drop (k + 1)).take ((str R).size - (k + 1)) = R.drop (k + 1) := List.take_of_length_le (by simp; omega)
        rw [hd] at hx2
        simp only [List.drop_zero, Nat.sub_zero] at hx1
        have hset := TxB.set HT.out i (R.take k) (by simp; omega)
        have e1 : (P ++ List.replicate (N + 1 - i) ([] : List UInt8)).set i (R.take k) = (P ++ [R.take k]) ++ List.replicate (N + 1 - (i + 1)) [] := by
          rw [List.set_append_right _ _ (by omega), p1, Nat.sub_self, show N + 1 - i = (N + 1 - (i + 1)) + 1 by omega, List.replicate_succ, List.set_cons_zero]
          simp
        rw [e1] at hset
        have HS : Hid (TxB (wr.setCell ⟨w.heap.size, i, none⟩ (.string (str (R.take k)))) w.heap.size ((P ++ [R.take k]) ++ List.replicate (N + 1 - (i + 1)) [])) := hset
        have HW : Hid (Below w.heap.size w (wr.setCell ⟨w.heap.size, i, none⟩ (.string (str (R.take k))))) := (Turn.put1 wr w.heap.size i _).bel HB.out (by simp)
        have HP : Hid ((P ++ [R.take k]).length = i + 1 ∧ (P ++ [R.take k]) ++ Ip.cutN (R.drop (k + 1)) = Ip.cutN s ∧ (R.drop (k + 1)).count 10 + (i + 1) = N ∧ (R.drop (k + 1)).length ≤ 1000000) := ⟨by simp [p1], by rw [← p2, hcut]; simp, by omega, by simp; omega⟩
        have k1 : (k : Int) < ((str R).size : Int) := by omega
        have k2 : ((str R).size : Int) ≤ 1000000 := by omega
        have k3 : (k : Int) + 1 ≤ ((str R).size : Int) := by omega
        clear hset e1 hcut hcnt hd h1 h2 h3 h4 p1 p2 p3 p4 HH HT HB hsz
        generalize hSR : str R = SR at *
        clear hSR
        generalize str (R.take k) = T1 at *
        go_wp2_with (first | (go_at_call 129; refine (hI _).mono ?_; rintro e w1 ⟨rfl, hw1⟩; rw [hw1]; clear hw1) | fail)
        exact ⟨⟨i + 1, P ++ [R.take k], R.drop (k + 1), by omega, rfl, by go_num, HP.out, HS.out, HW.out⟩, by simp [intOf]; omega⟩
    · obtain rfl : i = N := by omega
      have i1 : ¬ (i : Int) < (i : Int) := by omega
      have hz : R.count 10 = 0 := by omega
      have hcut := Ip.cutN_plain (List.count_eq_zero.1 hz)
      have hset := TxB.set HT.out i R (by simp; omega)
      have e1 : (P ++ List.replicate (i + 1 - i) ([] : List UInt8)).set i R = Ip.cutN s := by
        rw [List.set_append_right _ _ (by omega), p1, Nat.sub_self, show i + 1 - i = 1 by omega, ← p2, hcut]
        rfl
      rw [e1] at hset
      have HS : Hid _ := hset
      have HW : Hid (Below w.heap.size w (wr.setCell ⟨w.heap.size, i, none⟩ (.string (str R)))) := (Turn.put1 wr w.heap.size i _).bel HB.out (by simp)
      have hsl := fun W => TxR.slice_head W (some ⟨w.heap.size, 0, none⟩) (i + 1) (i + 1) (i + 1) (Nat.le_refl _)
      clear hset e1 hcut hz p1 p2 p3 p4 HH HT HB
      generalize str R = SR at *
      go_wp2
      go_ret
      exact ⟨rfl, HS.out, HW.out⟩

set_option maxRecDepth 100000 in
theorem Split_any (s : List UInt8) (w : World) (hs : s.length ≤ 1000000) : Calls Tryz.prog 124 #[.string (str s), .string ⟨#[10]⟩] w fun e w' => e = .returned (.slice (some ⟨w.heap.size, 0, none⟩) (Ip.cutN s).length (Ip.cutN s).length) ∧ TxB w' w.heap.size (Ip.cutN s) ∧ Below w.heap.size w w' := by
  have hG := genSplit_any s w hs
  generalize str s = S at *
  go_enter Tryz.func124, Tryz.ntmps124
  go_wp2_with (first | (go_at_call 143; refine hG.mono ?_; rintro e w1 ⟨rfl, h1, h2⟩) | fail)
  go_ret
  exact ⟨rfl, h1, h2⟩

set_option maxRecDepth 100000 in
theorem linesOf_any (s : List UInt8) (w : World) (hs : s.length ≤ 1000000) : Calls Tryz.prog 109 #[.string (str s)] w fun e w' => (∃ c, e = .returned (.slice (some ⟨w.heap.size, 0, none⟩) (Ip.linesOf s).length c) ∧ TxR.Own w' w.heap.size (.slice (some ⟨w.heap.size, 0, none⟩) (Ip.linesOf s).length c) (Ip.linesOf s)) ∧ Below w.heap.size w w' := by
  have hS := Split_any s w hs
  have hcl := Ip.cutN_len s
  have hcs := List.count_le_length (a := (10 : UInt8)) (l := s)
  have hlast : (Ip.cutN s).getLastD [] = (Ip.cutN s)[(Ip.cutN s).length - 1]'(by omega) := by
    rw [List.getLastD_eq_getLast?, List.getLast?_eq_getElem?, List.getElem?_eq_getElem (by omega)]
    rfl
  obtain ⟨n, hn⟩ : ∃ n, (Ip.cutN s).length = n + 1 := ⟨_, hcl⟩
  have hS2 : Calls Tryz.prog 124 #[.string (str s), .string ⟨#[10]⟩] w fun e w' => e = .returned (.slice (some ⟨w.heap.size, 0, none⟩) (n + 1) (n + 1)) ∧ TxB w' w.heap.size (Ip.cutN s) ∧ Below w.heap.size w w' := by
    rw [← hn]; exact hS
  have nb : n ≤ 1000000 := by omega
  have nbi : (n : Int) ≤ 1000000 := by omega
  have hsl := fun W => TxR.slice_head W (some ⟨w.heap.size, 0, none⟩) (n + 1) (n + 1) n (by omega)
  by_cases he : (Ip.cutN s).getLastD [] = []
  · have HL : Hid (Ip.linesOf s = (Ip.cutN s).dropLast) := by show _ = _; unfold Ip.linesOf; rw [if_pos he]
    have hq : (str ((Ip.cutN s)[(Ip.cutN s).length - 1]'(by omega))) = ⟨#[]⟩ := by rw [← hlast, he]; rfl
    have HT : ∀ W, TxB W w.heap.size (Ip.cutN s) → W.cell? ⟨w.heap.size, n, none⟩ = some (.string ⟨#[]⟩) := by
      intro W hW
      have := TxB.cell hW n (by omega)
      rw [this, ← hq]
      simp only [hn, Nat.add_sub_cancel]
    have hll : (Ip.linesOf s).length = n := by rw [HL.out, List.length_dropLast, hn]; rfl
    rw [hll]
    have HO : ∀ W, TxB W w.heap.size (Ip.cutN s) → TxR.Own W w.heap.size (.slice (some ⟨w.heap.size, 0, none⟩) n (n + 1)) (Ip.linesOf s) := by
      intro W hW
      have h0 := TxB.own hW (Nat.le_refl _) (by omega)
      rcases h0.2 with ⟨h1, -⟩ | ⟨g, cap, cur, h1, h2, h3, h4, h5, h6, h7⟩
      · cases h1
      · simp only [Value.slice.injEq, Option.some.injEq, Addr.mk.injEq, and_true] at h1
        obtain ⟨rfl, -, rfl⟩ := h1
        refine ⟨by rw [TxR.vals_length], .inr ⟨w.heap.size, n + 1, cur, by rw [hll], h2, h3, by omega, by unfold maxLen; omega, by rw [h6, hn], ?_⟩⟩
        rw [hll, HL.out, List.dropLast_eq_take, TxR.vals_take, ← h7, List.take_take, hn]
        congr 1
        show n * 1 = min ((n + 1 - 1) * 1) ((n + 1) * 1)
        omega
    clear hS hq hlast he HL hcl hcs hll
    generalize str s = S at *
    go_enter Tryz.func109, Tryz.ntmps109
    go_wp2_with (first | (go_at_call 124; refine hS2.mono ?_; rintro e w1 ⟨rfl, h1, h2⟩; have h3 := HT _ h1) | fail)
    go_ret
    exact ⟨⟨n + 1, rfl, HO _ h1⟩, h2⟩
  · have HL : Hid (Ip.linesOf s = Ip.cutN s) := by show _ = _; unfold Ip.linesOf; rw [if_neg he]
    have hq : ((str ((Ip.cutN s)[(Ip.cutN s).length - 1]'(by omega))).toList == []) = false := by
      rw [← hlast, ByteArray.toList_eq]
      simp [str]
      simpa [List.getLastD_eq_getLast?] using he
    obtain ⟨X, hX⟩ : ∃ X, str ((Ip.cutN s)[(Ip.cutN s).length - 1]'(by omega)) = X := ⟨_, rfl⟩
    rw [hX] at hq
    have HT : ∀ W, TxB W w.heap.size (Ip.cutN s) → W.cell? ⟨w.heap.size, n, none⟩ = some (.string X) := by
      intro W hW
      have := TxB.cell hW n (by omega)
      rw [this, ← hX]
      simp only [hn, Nat.add_sub_cancel]
    have hll : (Ip.linesOf s).length = n + 1 := by rw [HL.out, hn]
    rw [hll]
    have HO : ∀ W, TxB W w.heap.size (Ip.cutN s) → TxR.Own W w.heap.size (.slice (some ⟨w.heap.size, 0, none⟩) (n + 1) (n + 1)) (Ip.linesOf s) := by
      intro W hW
      have h0 := TxB.own hW (Nat.le_refl _) (by omega)
      rw [hn] at h0
      rw [HL.out]
      exact h0
    clear hS hlast he HL hcl hcs hll hX
    generalize str s = S at *
    go_enter Tryz.func109, Tryz.ntmps109
    go_wp2_with (first | (go_at_call 124; refine hS2.mono ?_; rintro e w1 ⟨rfl, h1, h2⟩; have h3 := HT _ h1) | fail)
    go_ret
    exact ⟨⟨n + 1, rfl, HO _ h1⟩, h2⟩

end Go.Proofs.YtnobmgkdieaclaaGreatDoor

namespace Go.Proofs.YtnobmgkdieaclaaGreatDoor
open Go.RowKit

def StR : Rc ByteArray where
  e := 9
  st := 23
  k := 1
  bytes := 16
  z := .string .empty
  enc s := [.string s]
  pos := by decide
  len _ := rfl
  one f u hu := by
    simp only [List.mem_cons, List.not_mem_nil, or_false] at hu
    subst hu; rfl
  info := by kernel_rfl
  under := Tryz.underlying23
  zk := rfl
  small := by decide

end Go.Proofs.YtnobmgkdieaclaaGreatDoor

namespace Go.Proofs.YtnobmgkdieaclaaGreatDoor.Ks

/-- the one is below the other -/
def kl (a b : ByteArray) : Bool := Op.bytesLess a.toList b.toList
theorem bl_irrefl : ∀ x : List UInt8, Op.bytesLess x x = false := by
  intro x
  induction x with
  | nil => rfl
  | cons a r ih => simp [Op.bytesLess, ih]
theorem bl_trans : ∀ x y z : List UInt8, Op.bytesLess x y = true → Op.bytesLess y z = true → Op.bytesLess x z = true := by
  intro x
  induction x with
  | nil =>
    intro y z h1 h2
    cases y with
    | nil => simp [Op.bytesLess] at h1
    | cons b s =>
      cases z with
      | nil => simp [Op.bytesLess] at h2
      | cons c t => rfl
  | cons a r ih =>
    intro y z h1 h2
    cases y with
    | nil => simp [Op.bytesLess] at h1
    | cons b s =>
      cases z with
      | nil => simp [Op.bytesLess] at h2
      | cons c t =>
        simp only [Op.bytesLess, Bool.or_eq_true, decide_eq_true_eq, Bool.and_eq_true, beq_iff_eq, UInt8.lt_iff_toNat_lt] at h1 h2 ⊢
        rcases h1 with h1 | ⟨rfl, h1⟩
        · rcases h2 with h2 | ⟨rfl, h2⟩
          · exact .inl (by omega)
          · exact .inl h1
        · rcases h2 with h2 | ⟨rfl, h2⟩
          · exact .inl h2
          · exact .inr ⟨rfl, ih s t h1 h2⟩
theorem kl_trans {a b c : ByteArray} (h1 : kl a b = true) (h2 : kl b c = true) : kl a c = true := bl_trans _ _ _ h1 h2
theorem kl_irrefl (a : ByteArray) : kl a a = false := bl_irrefl _
theorem kl_asymm {a b : ByteArray} (h : kl a b = true) : kl b a = false := by
  cases h2 : kl b a with
  | false => rfl
  | true =>
    have := kl_trans h h2
    rw [kl_irrefl] at this
    cases this
theorem bl_total : ∀ x y : List UInt8, Op.bytesLess x y = false → x ≠ y → Op.bytesLess y x = true := by
  intro x
  induction x with
  | nil =>
    intro y h1 h2
    cases y with
    | nil => exact absurd rfl h2
    | cons b s => simp [Op.bytesLess] at h1
  | cons a r ih =>
    intro y h1 h2
    cases y with
    | nil => rfl
    | cons b s =>
      simp only [Op.bytesLess, Bool.or_eq_true, decide_eq_true_eq, Bool.and_eq_true, beq_iff_eq, Bool.or_eq_false_iff, decide_eq_false_iff_not, UInt8.lt_iff_toNat_lt] at h1 ⊢
      by_cases e : a = b
      · subst e
        refine .inr ⟨rfl, ih s ?_ fun h => h2 (by rw [h])⟩
        simpa using h1.2
      · have : a.toNat ≠ b.toNat := fun h => e (UInt8.toNat_inj.1 h)
        exact .inl (by omega)
theorem kl_total {a b : ByteArray} (h1 : kl a b = false) (h2 : a ≠ b) : kl b a = true :=
  bl_total _ _ h1 fun h => h2 (by rw [ByteArray.toList_eq, ByteArray.toList_eq] at h; exact ByteArray.ext (Array.toList_inj.1 h))

end Go.Proofs.YtnobmgkdieaclaaGreatDoor.Ks

namespace Go.Proofs.YtnobmgkdieaclaaGreatDoor.Ks

/-- rising, none twice -/
def Rising (l : List ByteArray) : Prop := l.Pairwise fun a b => kl a b = true
def le (x y : List UInt8) : Bool := decide (x ≤ y)
/-- bytes as a text -/
def ba (l : List UInt8) : ByteArray := ⟨l.toArray⟩
theorem ba_bs (s : ByteArray) : ba (bs s) = s := ByteArray.ext (by simp [ba, bs])
theorem bs_ba (l : List UInt8) : bs (ba l) = l := by simp [ba, bs]
theorem kl_bs (a b : ByteArray) : kl a b = decide (bs a < bs b) := by
  unfold kl
  rw [Proofs.bytesLess_eq, ByteArray.toList_eq, ByteArray.toList_eq]
theorem le_trans {x y z : List UInt8} (h1 : le x y = true) (h2 : le y z = true) : le x z = true := by
  simp only [le, decide_eq_true_eq] at *; exact List.le_trans h1 h2
theorem le_total (x y : List UInt8) : (le x y || le y x) = true := by
  simp only [le, Bool.or_eq_true, decide_eq_true_eq]; exact List.le_total x y
theorem lt_of {x y : List UInt8} (h : x ≤ y) (hn : x ≠ y) : x < y := by
  rcases Decidable.em (x < y) with h1 | h1
  · exact h1
  · exact absurd (List.le_antisymm h (List.not_lt.1 h1)) hn
/-- rising lists that have the same texts are one -/
theorem rising_ext : ∀ {a b : List ByteArray}, Rising a → Rising b → (∀ x, x ∈ a ↔ x ∈ b) → a = b
  | [], [], _, _, _ => rfl
  | [], y :: _, _, _, h => absurd ((h y).2 (by simp)) (by simp)
  | x :: _, [], _, _, h => absurd ((h x).1 (by simp)) (by simp)
  | x :: a, y :: b, ha, hb, h => by
    obtain ⟨a1, a2⟩ := List.pairwise_cons.1 ha
    obtain ⟨b1, b2⟩ := List.pairwise_cons.1 hb
    have hxy : x = y := by
      rcases List.mem_cons.1 ((h x).1 (by simp)) with e | e
      · exact e
      rcases List.mem_cons.1 ((h y).2 (by simp)) with e2 | e2
      · exact e2.symm
      have := kl_trans (b1 x e) (a1 y e2)
      rw [kl_irrefl] at this; cases this
    subst hxy
    refine congrArg (x :: ·) (rising_ext a2 b2 fun z => ?_)
    have hz := h z
    simp only [List.mem_cons] at hz
    constructor
    · intro hm
      rcases hz.1 (.inr hm) with e | e
      · subst e; have := a1 z hm; rw [kl_irrefl] at this; cases this
      · exact e
    · intro hm
      rcases hz.2 (.inr hm) with e | e
      · subst e; have := b1 z hm; rw [kl_irrefl] at this; cases this
      · exact e
theorem rising_nodup {l : List ByteArray} (h : Rising l) : l.Nodup := h.imp fun {a b} hab e => by subst e; rw [kl_irrefl] at hab; cases hab

/-- texts, sorted -/
def sortT (l : List ByteArray) : List ByteArray := ((l.map bs).mergeSort le).map ba
theorem sortT_perm (l : List ByteArray) : (sortT l).Perm l := by
  have h := (List.mergeSort_perm (l.map bs) le).map ba
  rw [List.map_map] at h
  have e : (ba ∘ bs) = id := by funext s; exact ba_bs s
  rw [e, List.map_id] at h
  exact h
theorem mem_sortT {l : List ByteArray} {q : ByteArray} : q ∈ sortT l ↔ q ∈ l := (sortT_perm l).mem_iff
theorem sortT_length (l : List ByteArray) : (sortT l).length = l.length := (sortT_perm l).length_eq
theorem sortT_le (l : List ByteArray) : (sortT l).Pairwise fun a b => bs a ≤ bs b := by
  have h := List.pairwise_mergeSort (le := le) (fun a b c => le_trans) le_total (l.map bs)
  unfold sortT
  rw [List.pairwise_map]
  refine h.imp fun {a b} hab => ?_
  rw [bs_ba, bs_ba]
  simpa [le] using hab
/-- sorted, where none stands twice: rising -/
theorem sortT_rising {l : List ByteArray} (h : l.Nodup) : Rising (sortT l) := by
  have hn : (sortT l).Nodup := (sortT_perm l).nodup_iff.2 h
  refine ((sortT_le l).and hn).imp fun {a b} hab => ?_
  rw [kl_bs, decide_eq_true_eq]
  exact lt_of hab.1 fun e => hab.2 (bs_inj e)

/-- runs of equal texts, one of each -/
def compT (l : List ByteArray) : List ByteArray := (Lib.compact (l.map bs)).map ba
theorem compact_facts (d : Array (List UInt8)) (hd : ∀ i j, i < j → j < d.size → d[i]! ≤ d[j]!) : ∀ m, m ≤ d.size → (Lib.compactUpTo d m).Pairwise (· < ·) ∧ ∀ x, x ∈ Lib.compactUpTo d m ↔ ∃ j, j < m ∧ d[j]! = x := by
  intro m
  induction m with
  | zero => intro _; exact ⟨by simp [Lib.compactUpTo], fun x => by simp [Lib.compactUpTo]⟩
  | succ m ih =>
    intro hm
    obtain ⟨h1, h2⟩ := ih (by omega)
    rw [Lib.compactUpTo_succ]
    cases hk : Lib.keeps d m with
    | true =>
      simp only [if_true]
      refine ⟨List.pairwise_append.2 ⟨h1, List.pairwise_singleton _ _, fun x hx y hy => ?_⟩, fun x => ?_⟩
      · rw [List.mem_singleton] at hy
        subst hy
        obtain ⟨j, hj, rfl⟩ := (h2 x).1 hx
        have hk' : m = 0 ∨ d[m]! ≠ d[m - 1]! := by simpa [Lib.keeps] using hk
        have hne : d[m]! ≠ d[m - 1]! := hk'.resolve_left (by omega)
        refine lt_of (hd j m hj (by omega)) fun e => hne ?_
        rcases Nat.lt_or_ge j (m - 1) with h | h
        · have e1 := hd j (m - 1) h (by omega)
          have e2 := hd (m - 1) m (by omega) (by omega)
          rw [e] at e1
          exact List.le_antisymm e1 e2
        · have : j = m - 1 := by omega
          rw [← this, e]
      · rw [List.mem_append, List.mem_singleton, h2 x]
        constructor
        · rintro (⟨j, hj, e⟩ | e)
          · exact ⟨j, by omega, e⟩
          · exact ⟨m, by omega, e.symm⟩
        · rintro ⟨j, hj, e⟩
          rcases Nat.lt_or_ge j m with h | h
          · exact .inl ⟨j, h, e⟩
          · have : j = m := by omega
            subst this; exact .inr e.symm
    | false =>
      have hk' : ¬ (m = 0 ∨ d[m]! ≠ d[m - 1]!) := by simpa [Lib.keeps] using hk
      have hm0 : m ≠ 0 := fun e => hk' (.inl e)
      have heq : d[m]! = d[m - 1]! := Decidable.byContradiction fun e => hk' (.inr e)
      simp only [Bool.false_eq_true, if_false, List.append_nil]
      refine ⟨h1, fun x => ?_⟩
      rw [h2 x]
      constructor
      · rintro ⟨j, hj, e⟩; exact ⟨j, by omega, e⟩
      · rintro ⟨j, hj, e⟩
        rcases Nat.lt_or_ge j m with h | h
        · exact ⟨j, h, e⟩
        · have : j = m := by omega
          subst this; exact ⟨j - 1, by omega, by rw [← heq]; exact e⟩
/-- sorted, and each once: rising, the same texts -/
theorem compT_facts {l : List ByteArray} (h : l.Pairwise fun a b => bs a ≤ bs b) : Rising (compT l) ∧ ∀ q, q ∈ compT l ↔ q ∈ l := by
  have hget : ∀ i, (hi : i < l.length) → (l.map bs).toArray[i]! = bs l[i] := fun i hi => by simp [hi]
  obtain ⟨h1, h2⟩ := compact_facts (l.map bs).toArray (fun i j hij hj => by
    have hj' : j < l.length := by simpa using hj
    rw [hget i (by omega), hget j hj']
    exact List.pairwise_iff_getElem.1 h i j (by omega) hj' hij) (l.map bs).length (by simp)
  refine ⟨?_, fun q => ?_⟩
  · unfold Rising compT Lib.compact
    rw [List.pairwise_map]
    refine h1.imp fun {a b} hab => ?_
    rw [kl_bs, bs_ba, bs_ba]
    exact decide_eq_true hab
  · unfold compT Lib.compact
    rw [List.mem_map]
    constructor
    · rintro ⟨x, hx, rfl⟩
      obtain ⟨j, hj, rfl⟩ := (h2 x).1 hx
      have hj' : j < l.length := by simpa using hj
      rw [hget j hj', ba_bs]
      exact List.getElem_mem hj'
    · intro hq
      obtain ⟨j, hj, rfl⟩ := List.getElem_of_mem hq
      exact ⟨bs l[j], (h2 _).2 ⟨j, by simpa using hj, hget j hj⟩, ba_bs _⟩
theorem once_facts (l : List ByteArray) : Rising (compT (sortT l)) ∧ ∀ q, q ∈ compT (sortT l) ↔ q ∈ l := by
  obtain ⟨h1, h2⟩ := compT_facts (sortT_le l)
  exact ⟨h1, fun q => (h2 q).trans mem_sortT⟩

end Go.Proofs.YtnobmgkdieaclaaGreatDoor.Ks
