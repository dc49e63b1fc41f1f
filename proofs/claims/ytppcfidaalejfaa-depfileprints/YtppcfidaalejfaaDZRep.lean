/-
  THE REPLACER AT WORK: a word written.
-/
import Derived.Test.YtppcfidaalejfaaDZBuild
import Derived.Test.YtppcfidaalejfaaDZWord
import Derived.Test.YtppcfidaalejfaaDZRepP
import Derived.Lib.Bytealg
import Derived.Laws.IdiomCopy
import Derived.Deep.DeepCutAuto
import Derived.Deep.RegionHeld3
namespace Go.Proofs.Ytppcfidaalejfaa
open Go.RowKit

set_option maxRecDepth 100000 in
set_option maxHeartbeats 1000000 in
theorem Count_any (s x : ByteArray) (c : UInt8) (hx : x = ⟨#[c]⟩) (w : World) : Calls Try.prog 132 #[.string s, .string x] w fun e w' => e = .returned (.int .i64 ((bs s).count c : Nat)) ∧ w' = w := by
  subst hx
  go_enter Try.func132, Try.ntmps132
  go_wp2
  rw [run_callFunc_extern Try.func134 (by kernel_rfl) (by kernel_rfl) (by kernel_rfl) (e := Extern.BytealgCount.count) (by kernel_rfl), Lib.run_countString]
  simp only [Result.andThen]
  rw [Oper.upon_value]
  go_wp2
  go_ret
  refine ⟨?_, rfl⟩
  simp [Lib.countByte, bs]
  rfl

theorem Qt.cell {w w' : World} (h : Qt w w') (p : Addr) : w'.cell? p = w.cell? p := by
  cases w; cases w'
  have := h.heap
  simp only at this
  subst this
  rfl

theorem esc_s3 {c : UInt8} : Dp.esc c = true ↔ c ∈ s3 := by
  simp only [Dp.esc, s3, Bool.or_eq_true, decide_eq_true_eq, List.mem_cons, List.not_mem_nil, or_false]
  constructor
  · rintro ((h | h) | h)
    · exact .inr (.inr h)
    · exact .inr (.inl h)
    · exact .inl h
  · rintro (h | h | h)
    · exact .inr h
    · exact .inl (.inr h)
    · exact .inl (.inl h)
/-- 's[m:]' of a block from its head -/
theorem slice_at (W : World) (g n c m : Nat) (hm : m ≤ n) (hmc : m < c) : (Instr.slice 54 (.slice (some ⟨g, 0, none⟩) n c) (some (.int .i64 (m : Int))) none none).run Try.prog W = .ok (.slice (some ⟨g, m, none⟩) (n - m) (c - m)) W := by
  rw [run_slice_l W 54 (some ⟨g, 0, none⟩) n c (by rw [elem27]; exact Try.underlying54) .i64 (m : Int) (by omega) (by omega), elem27, size5]
  have : ¬ c = m := by omega
  simp [Result.andThen, sliced, this, addr_add]
set_option maxRecDepth 100000 in
set_option maxHeartbeats 8000000 in
theorem byteRep_any (w : World) (b : Nat) (s : ByteArray) (g : Nat → Value) (tv : Value) (hRB : RB w b g tv) (hG : RepG w g s3) (hT : BR.Sl w w.heap.size tv l3) (hs : s.size ≤ 1000000) :
    Calls Try.prog 130 #[.pointer (some ⟨b, 0, none⟩), .string s] w fun e w' => e = .returned (.string (str (Dp.written (bs s)))) ∧ Below w.heap.size w w' := by
  have hl := bs_length s
  obtain ⟨bo, oo, tc, hv, -, -⟩ := BR.ix hT (j := 0) (by decide)
  subst hv
  have hrow : w.cell? ⟨b, 256, none⟩ = some (.slice (some ⟨bo, oo, none⟩) 3 tc) := hRB.row
  have HC : Hid (∀ j (hj : j < 3), w.cell? ⟨bo, oo + j, none⟩ = some (.string (str (l3[j]'hj)))) := fun j hj => by
    obtain ⟨b2, o2, c2, e, -, hh⟩ := BR.ix hT (j := j) hj
    simp only [Value.slice.injEq, Option.some.injEq, Addr.mk.injEq, and_true] at e
    obtain ⟨⟨rfl, rfl⟩, -, -⟩ := e
    exact hh
  have HCT : Hid _ := fun j => Dp.cntE_take (l := bs s) (j := j)
  have hcE : Dp.cntE (bs s) ≤ s.size := by rw [← hl]; exact List.length_filter_le ..
  have hen := eql_nil54
  have hnn := neq_nil54
  go_enter Try.func130, Try.ntmps130
  go_upto_if 26 with fail
  go_cut [5, 6] (fun ns an wx => ns = .int .i64 ((s.size : Int) + (Dp.cntE (bs s) : Nat)) ∧ an = .bool (decide (0 < Dp.cntE (bs s))) ∧ Qt w wx)
  case first =>
    by_cases h24 : (24 : Int) ≤ (s.size : Int)
    · have HSUM : Hid _ := Dp.count_cntE (bs s)
      simp only [decide_eq_true h24]
      clear h24
      generalize hc1 : (bs s).count 92 = c1 at *
      generalize hc2 : (bs s).count 58 = c2 at *
      generalize hc3 : (bs s).count 32 = c3 at *
      have hb1 : c1 ≤ s.size := by rw [← hc1, ← hl]; exact List.count_le_length
      have hb2 : c2 ≤ s.size := by rw [← hc2, ← hl]; exact List.count_le_length
      have hb3 : c3 ≤ s.size := by rw [← hc3, ← hl]; exact List.count_le_length
      have hct1 : ∀ x W, x = ⟨#[92]⟩ → Calls Try.prog 132 #[.string s, .string x] W fun e w' => e = .returned (.int .i64 (c1 : Nat)) ∧ w' = W := fun x W hx => by rw [← hc1]; exact Count_any s x 92 hx W
      have hct2 : ∀ x W, x = ⟨#[58]⟩ → Calls Try.prog 132 #[.string s, .string x] W fun e w' => e = .returned (.int .i64 (c2 : Nat)) ∧ w' = W := fun x W hx => by rw [← hc2]; exact Count_any s x 58 hx W
      have hct3 : ∀ x W, x = ⟨#[32]⟩ → Calls Try.prog 132 #[.string s, .string x] W fun e w' => e = .returned (.int .i64 (c3 : Nat)) ∧ w' = W := fun x W hx => by rw [← hc3]; exact Count_any s x 32 hx W
      clear hc1 hc2 hc3
      go_wp2
      go_loopw [5, 6, 32] (fun ns an k wr => ∃ n : Nat, ns = .int .i64 ((s.size : Int) + (n : Int)) ∧ an = .bool (decide (0 < n)) ∧ ((k = .int .i64 0 ∧ n = 0) ∨ (k = .int .i64 1 ∧ n = c1) ∨ (k = .int .i64 2 ∧ n = c1 + c2) ∨ (k = .int .i64 3 ∧ n = c1 + (c2 + c3))) ∧ Qt w wr) (fun _ _ k _ => 3 - (intOf k).toNat)
      case atStart => exact ⟨0, by simp, rfl, .inl ⟨rfl, rfl⟩, Qt.refl _⟩
      case round =>
        obtain ⟨n, rfl, rfl, hx, hQ⟩ := hrel
        rcases hx with ⟨rfl, hn⟩ | ⟨rfl, hn⟩ | ⟨rfl, hn⟩ | ⟨rfl, hn⟩
        · obtain ⟨sb, hsb, hsz, hget⟩ : ∃ sb : ByteArray, (⟨#[92]⟩ : ByteArray) = sb ∧ sb.size = 1 ∧ ∀ h : 0 < sb.size, sb[0] = 92 := ⟨_, rfl, rfl, fun _ => rfl⟩
          have hg0 : 0 < sb.size := by omega
          have hget : sb[0] = 92 := hget hg0
          have c0 : wr.cell? ⟨bo, oo, none⟩ = some (.string sb) := by rw [hQ.cell, ← hsb]; exact HC.out 0 (by decide)
          have hct := fun W => hct1 sb W hsb.symm
          clear hsb
          obtain ⟨rb2, rc2, hgc, -, -⟩ := (hG 92).1 (by decide)
          have r1 : wr.cell? ⟨b, 92, none⟩ = some (.slice (some ⟨rb2, 0, none⟩) 2 rc2) := by rw [hQ.cell, hRB.cell (k := 92) (by decide)]; exact congrArg some hgc
          clear hgc
          go_wp2_with fail
          refine (hct _).mono ?_
          rintro e W1 ⟨rfl, rfl⟩
          by_cases hcz : c1 = 0
          · have hz : ((c1 : Int) != 0) = false := by rw [hcz]; rfl
            have hn2 : n + c1 = n := by omega
            go_wp2
            exact ⟨⟨n, by simp [hn], by simp [hn], .inr (.inl ⟨rfl, by omega⟩), hQ⟩, by simp [intOf]⟩
          · have hz : ((c1 : Int) != 0) = true := by rw [bne_iff_ne]; omega
            have hd : decide (0 < n + c1) = true := decide_eq_true (by omega)
            have m1 : (0 : Int) ≤ (c1 : Int) := by omega
            have m2 : (c1 : Int) ≤ 1000000 := by omega
            have hnb : n ≤ 3000000 := by omega
            clear hcz
            go_wp2_with fail
            go_quiet (fail)
            have hQ2 := hQ.drewN nq
            go_wp2
            exact ⟨⟨n + c1, by simp [hn]; try omega, by rw [hd], .inr (.inl ⟨rfl, by omega⟩), hQ2⟩, by simp [intOf]⟩
        · obtain ⟨sb, hsb, hsz, hget⟩ : ∃ sb : ByteArray, (⟨#[58]⟩ : ByteArray) = sb ∧ sb.size = 1 ∧ ∀ h : 0 < sb.size, sb[0] = 58 := ⟨_, rfl, rfl, fun _ => rfl⟩
          have hg0 : 0 < sb.size := by omega
          have hget : sb[0] = 58 := hget hg0
          have c0 : wr.cell? ⟨bo, oo + 1, none⟩ = some (.string sb) := by rw [hQ.cell, ← hsb]; exact HC.out 1 (by decide)
          have hct := fun W => hct2 sb W hsb.symm
          clear hsb
          obtain ⟨rb2, rc2, hgc, -, -⟩ := (hG 58).1 (by decide)
          have r1 : wr.cell? ⟨b, 58, none⟩ = some (.slice (some ⟨rb2, 0, none⟩) 2 rc2) := by rw [hQ.cell, hRB.cell (k := 58) (by decide)]; exact congrArg some hgc
          clear hgc
          go_wp2_with fail
          refine (hct _).mono ?_
          rintro e W1 ⟨rfl, rfl⟩
          by_cases hcz : c2 = 0
          · have hz : ((c2 : Int) != 0) = false := by rw [hcz]; rfl
            have hn2 : n + c2 = n := by omega
            go_wp2
            exact ⟨⟨n, by simp [hn], by simp [hn], .inr (.inr (.inl ⟨rfl, by omega⟩)), hQ⟩, by simp [intOf]⟩
          · have hz : ((c2 : Int) != 0) = true := by rw [bne_iff_ne]; omega
            have hd : decide (0 < n + c2) = true := decide_eq_true (by omega)
            have m1 : (0 : Int) ≤ (c2 : Int) := by omega
            have m2 : (c2 : Int) ≤ 1000000 := by omega
            have hnb : n ≤ 3000000 := by omega
            clear hcz
            go_wp2_with fail
            go_quiet (fail)
            have hQ2 := hQ.drewN nq
            go_wp2
            exact ⟨⟨n + c2, by simp [hn]; try omega, by rw [hd], .inr (.inr (.inl ⟨rfl, by omega⟩)), hQ2⟩, by simp [intOf]⟩
        · obtain ⟨sb, hsb, hsz, hget⟩ : ∃ sb : ByteArray, (⟨#[32]⟩ : ByteArray) = sb ∧ sb.size = 1 ∧ ∀ h : 0 < sb.size, sb[0] = 32 := ⟨_, rfl, rfl, fun _ => rfl⟩
          have hg0 : 0 < sb.size := by omega
          have hget : sb[0] = 32 := hget hg0
          have c0 : wr.cell? ⟨bo, oo + 2, none⟩ = some (.string sb) := by rw [hQ.cell, ← hsb]; exact HC.out 2 (by decide)
          have hct := fun W => hct3 sb W hsb.symm
          clear hsb
          obtain ⟨rb2, rc2, hgc, -, -⟩ := (hG 32).1 (by decide)
          have r1 : wr.cell? ⟨b, 32, none⟩ = some (.slice (some ⟨rb2, 0, none⟩) 2 rc2) := by rw [hQ.cell, hRB.cell (k := 32) (by decide)]; exact congrArg some hgc
          clear hgc
          go_wp2_with fail
          refine (hct _).mono ?_
          rintro e W1 ⟨rfl, rfl⟩
          by_cases hcz : c3 = 0
          · have hz : ((c3 : Int) != 0) = false := by rw [hcz]; rfl
            have hn2 : n + c3 = n := by omega
            go_wp2
            exact ⟨⟨n, by simp [hn], by simp [hn], .inr (.inr (.inr ⟨rfl, by omega⟩)), hQ⟩, by simp [intOf]⟩
          · have hz : ((c3 : Int) != 0) = true := by rw [bne_iff_ne]; omega
            have hd : decide (0 < n + c3) = true := decide_eq_true (by omega)
            have m1 : (0 : Int) ≤ (c3 : Int) := by omega
            have m2 : (c3 : Int) ≤ 1000000 := by omega
            have hnb : n ≤ 3000000 := by omega
            clear hcz
            go_wp2_with fail
            go_quiet (fail)
            have hQ2 := hQ.drewN nq
            go_wp2
            exact ⟨⟨n + c3, by simp [hn]; try omega, by rw [hd], .inr (.inr (.inr ⟨rfl, by omega⟩)), hQ2⟩, by simp [intOf]⟩
        · have he : n = Dp.cntE (bs s) := by rw [hn]; exact HSUM.out
          go_wp2
          go_meet
          exact ⟨by rw [he], by rw [he], hQ⟩
    · simp only [decide_eq_false h24]
      clear h24
      go_wp2
      go_loopw [5, 6, 10] (fun ns an k wr => ∃ j : Nat, j ≤ s.size ∧ k = .int .i64 (j : Int) ∧ ns = .int .i64 ((s.size : Int) + (Dp.cntE ((bs s).take j) : Nat)) ∧ an = .bool (decide (0 < Dp.cntE ((bs s).take j))) ∧ w = wr) (fun _ _ k _ => s.size - (intOf k).toNat)
      case atStart => exact ⟨0, Nat.zero_le _, rfl, by simp [Dp.cntE], rfl, rfl⟩
      case round =>
        obtain ⟨j, hj, rfl, rfl, rfl, rfl⟩ := hrel
        by_cases hjl : j < s.size
        · have j1 : (j : Int) < (s.size : Int) := by omega
          have j0 : (0 : Int) ≤ (j : Int) := by omega
          have hk := s[j].toNat_lt
          have k1 : (s[j].toNat : Int) < 256 := by omega
          have hbl : (bs s)[j]'(by omega) = s[j] := rfl
          have HCJ : Hid (Dp.cntE ((bs s).take (j + 1)) = Dp.cntE ((bs s).take j) + if Dp.esc s[j] then 1 else 0) := HCT.out j (by omega)
          have hcj : Dp.cntE ((bs s).take j) ≤ 1000000 := by
            have h1 : Dp.cntE ((bs s).take j) ≤ ((bs s).take j).length := List.length_filter_le ..
            rw [List.length_take] at h1
            omega
          cases he : Dp.esc s[j] with
          | true =>
            obtain ⟨rb2, rc2, hgc, -, -⟩ := (hG s[j]).1 (esc_s3.1 he)
            have r1 : w.cell? ⟨b, s[j].toNat, none⟩ = some (.slice (some ⟨rb2, 0, none⟩) 2 rc2) := by rw [hRB.cell (by omega)]; exact congrArg some hgc
            have HN : Hid (Dp.cntE ((bs s).take (j + 1)) = Dp.cntE ((bs s).take j) + 1) := by have := HCJ.out; rw [he, if_pos rfl] at this; exact this
            clear he hgc
            generalize Dp.cntE ((bs s).take j) = n at *
            go_wp2
            exact ⟨⟨j + 1, by omega, by go_num, by rw [HN.out]; go_num, by rw [HN.out]; simp, trivial⟩, by simp [intOf]; omega⟩
          | false =>
            have r1 : w.cell? ⟨b, s[j].toNat, none⟩ = some (.slice none 0 0) := by rw [hRB.cell (by omega)]; exact congrArg some ((hG s[j]).2 (fun h => by rw [esc_s3.2 h] at he; cases he))
            have HN : Hid (Dp.cntE ((bs s).take (j + 1)) = Dp.cntE ((bs s).take j)) := by have := HCJ.out; rw [he, if_neg (by simp)] at this; exact this
            clear he
            generalize Dp.cntE ((bs s).take j) = n at *
            go_wp2
            exact ⟨⟨j + 1, by omega, by go_num, by rw [HN.out], by rw [HN.out], trivial⟩, by simp [intOf]; omega⟩
        · obtain rfl : j = s.size := by omega
          have j1 : ¬ (s.size : Int) < (s.size : Int) := by omega
          have he : Dp.cntE ((bs s).take s.size) = Dp.cntE (bs s) := by rw [← hl, List.take_length]
          go_wp2
          go_meet
          exact ⟨rfl, rfl, Qt.refl _⟩
  case rest =>
    obtain ⟨rfl, rfl, hQ⟩ := hcut
    have hwz := Dp.written_size (bs s)
    by_cases hz : Dp.cntE (bs s) = 0
    · have hn : Hid (str (Dp.written (bs s)) = s) := by show _ = _; rw [Dp.written_none hz]; exact str_of s
      have hd : decide (0 < Dp.cntE (bs s)) = false := decide_eq_false (by omega)
      clear hz
      go_wp2
      go_ret
      rw [hn.out]
      exact ⟨rfl, hQ.below⟩
    · have hd : decide (0 < Dp.cntE (bs s)) = true := decide_eq_true (by omega)
      obtain ⟨N, hN⟩ : ∃ N, (Dp.written (bs s)).length = N := ⟨_, rfl⟩
      have hNe : (s.size : Int) + (Dp.cntE (bs s) : Nat) = (N : Int) := by rw [hN] at hwz; omega
      have hNb : N ≤ 2000000 := by rw [hN] at hwz; omega
      rw [hNe, hd]
      have hmk := make_byts (N : Int) N rfl (by omega) wc
      have hb0 := hQ.below.alloc (by rw [hQ.heap]; exact Nat.le_refl _) (.cells (bV (List.replicate N 0)).toArray 5)
      have hB0 : Blk (wc.alloc (.cells (bV (List.replicate N 0)).toArray 5)) wc.heap.size (List.replicate N 0) := Blk.made wc _
      have hcz : wc.heap.size = w.heap.size := by rw [hQ.heap]
      rw [hcz] at hmk hB0
      have hbl := hRB.lt
      have HWT : Hid _ := fun j => Dp.written_take (l := bs s) (j := j)
      have HLE : Hid (∀ i, i ≤ s.size → (Dp.written ((bs s).take i)).length + (s.size - i) ≤ N) := fun i _ => by
        have := Dp.cntE_le (bs s) i
        rw [hN, hl] at this
        exact this
      clear hz hd hNe hwz hcE HCT HC
      go_wp2
      go_loopw [13, 14] (fun jj k wr => ∃ i : Nat, i ≤ s.size ∧ k = .int .i64 (i : Int) ∧ jj = .int .i64 ((Dp.written ((bs s).take i)).length : Nat) ∧ Blk wr w.heap.size (Dp.written ((bs s).take i) ++ List.replicate (N - (Dp.written ((bs s).take i)).length) 0) ∧ Below w.heap.size w wr) (fun _ k _ => s.size - (intOf k).toNat)
      case atStart => exact ⟨0, Nat.zero_le _, rfl, rfl, by simpa [Dp.written] using hB0, hb0⟩
      case round =>
        clear hmk hB0 hb0 hcz
        obtain ⟨i, hi, rfl, rfl, hBk, hBe⟩ := hrel
        have hgl := hBk.lt
        by_cases hil : i < s.size
        · have j1 : (i : Int) < (s.size : Int) := by omega
          have j0 : (0 : Int) ≤ (i : Int) := by omega
          have hk := s[i].toNat_lt
          have k1 : (s[i].toNat : Int) < 256 := by omega
          have HW1 : Hid (Dp.written ((bs s).take (i + 1)) = Dp.written ((bs s).take i) ++ if Dp.esc s[i] then [92, s[i]] else [s[i]]) := HWT.out i (by omega)
          have hl1 := HLE.out i hi
          have hl2 := HLE.out (i + 1) hil
          rw [HW1.out] at hl2
          cases he : Dp.esc s[i] with
          | true =>
            obtain ⟨rb2, rc2, hgc, hrc, hup⟩ := (hG s[i]).1 (esc_s3.1 he)
            have hubl := hup.lt
            rw [he, if_pos rfl] at HW1 hl2
            have hup2 : UpB wr rb2 [92, s[i]] := hup.turn (⟨hBe.os, hBe.tape, hBe.output, hBe.size, fun k hk _ => hBe.block k hk⟩ : Turn [] w wr) (by simp)
            have hcell : w.cell? ⟨b, s[i].toNat, none⟩ = some (.slice (some ⟨rb2, 0, none⟩) 2 rc2) := by rw [hRB.cell (by omega)]; exact congrArg some hgc
            have r1 : wr.cell? ⟨b, s[i].toNat, none⟩ = some (.slice (some ⟨rb2, 0, none⟩) 2 rc2) := (hBe.cell (p := ⟨b, s[i].toNat, none⟩) hbl).trans hcell
            clear he hcell hgc hup
            obtain ⟨P, hP⟩ : ∃ P, Dp.written ((bs s).take i) = P := ⟨_, rfl⟩
            rw [hP] at hBk HW1 hl1 hl2 ⊢
            simp only [List.length_append, List.length_cons, List.length_nil] at hl2
            have hPN : P.length + 1 < N := by omega
            obtain ⟨r, hr⟩ : ∃ r, N - P.length = r + 2 := ⟨N - P.length - 2, by omega⟩
            have hX : N - (P ++ [92, s[i]]).length = r := by rw [List.length_append]; simp only [List.length_cons, List.length_nil]; omega
            rw [hr] at hBk
            have p0 : (0 : Int) ≤ (P.length : Int) := by omega
            have p1 : (P.length : Int) ≤ (N : Int) := by omega
            have hsl := fun W => slice_at W w.heap.size N N P.length (by omega) (by omega)
            have hcp : ∃ W7, (Builtin.copy_ #[54, 54] 3 #[.slice (some ⟨w.heap.size, P.length, none⟩) (N - P.length) (N - P.length), .slice (some ⟨rb2, 0, none⟩) 2 rc2]).run Try.prog wr.drew = .ok (.int .i64 2) W7 ∧ Blk W7 w.heap.size (P ++ [92, s[i]] ++ List.replicate r 0) ∧ Turn [w.heap.size] wr W7 := by
              have hd : Blk wr.drew w.heap.size (P ++ List.replicate (r + 2) 0) := hBk
              have hud : UpB wr.drew rb2 [92, s[i]] := hup2
              have hlen : (P ++ List.replicate (r + 2) (0 : UInt8)).length = N := by rw [List.length_append, List.length_replicate]; omega
              have hrun := run_copy_cells (P := Try.prog) wr.drew 54 54 3 5 w.heap.size P.length (N - P.length) (N - P.length) ⟨rb2, 0, none⟩ 2 rc2 (bV [92, s[i]]) Try.underlying54 (by kernel_rfl) (by rw [bV_length]; show 2 = Nat.min 2 (N - P.length); rw [show Nat.min 2 (N - P.length) = min 2 (N - P.length) from rfl]; omega)
                (byts_news (w := wr.drew) (b := rb2) (o := 0) (l := [92, s[i]]) (fun j hj => by rw [Nat.zero_add]; exact hud.cell j hj))
                (fun j hj => by rw [bV_length] at hj; have hj2 : j < 2 := hj; rw [hd.cell (P.length + j) (by omega)]; rfl) (fun j _ => hd.free _) (bV_oneCell _)
              refine ⟨_, hrun, ?_, ?_⟩
              · have h1 := (hd.set P.length 92).set (P.length + 1) s[i]
                rw [Dp.lay2] at h1
                exact h1
              · exact (((Turn.refl [w.heap.size] wr).drew).set (by simp) _).set (by simp) _
            obtain ⟨W7, hcp, hB7, hT7⟩ := hcp
            rw [hr] at hcp
            have r1d : wr.drew.cell? ⟨b, s[i].toNat, none⟩ = some (.slice (some ⟨rb2, 0, none⟩) 2 rc2) := r1
            have r7 : W7.cell? ⟨b, s[i].toNat, none⟩ = some (.slice (some ⟨rb2, 0, none⟩) 2 rc2) := (hT7.cell (p := ⟨b, s[i].toNat, none⟩) (Nat.lt_of_lt_of_le hbl hBe.size) (by simp; omega)).trans r1
            have hBe7 : Below w.heap.size w W7 := hT7.bel hBe (by simp)
            have hwr : IntKind.i64.wrap ((P.length : Int) + 2) = (P.length : Int) + 2 := by rw [IntKind.wrap_i64]; omega
            clear hP hBk hBe hl1 hl2 hup2 hT7
            go_wp2_with fail
            go_region_held3 (fun X : World => X.cell? ⟨b, s[i].toNat, none⟩ = some (.slice (some ⟨rb2, 0, none⟩) 2 rc2)) (first | assumption) (fail)
            all_goals go_wp2
            all_goals (
              refine ⟨⟨i + 1, by omega, by go_num, ?_, ?_, hBe7⟩, by simp [intOf]; omega⟩
              · rw [HW1.out, List.length_append]; simp only [List.length_cons, List.length_nil]; go_num
              · rw [HW1.out, hX]; exact hB7)
          | false =>
            rw [he, if_neg (by simp)] at HW1 hl2
            have hcell : w.cell? ⟨b, s[i].toNat, none⟩ = some (.slice none 0 0) := by rw [hRB.cell (by omega)]; exact congrArg some ((hG s[i]).2 (fun h => by rw [esc_s3.2 h] at he; cases he))
            have r1 : wr.cell? ⟨b, s[i].toNat, none⟩ = some (.slice none 0 0) := (hBe.cell (p := ⟨b, s[i].toNat, none⟩) hbl).trans hcell
            clear he hcell
            obtain ⟨P, hP⟩ : ∃ P, Dp.written ((bs s).take i) = P := ⟨_, rfl⟩
            rw [hP] at hBk HW1 hl1 hl2 ⊢
            simp only [List.length_append, List.length_cons, List.length_nil] at hl2
            have hPN : P.length < N := by omega
            obtain ⟨r, hr⟩ : ∃ r, N - P.length = r + 1 := ⟨N - P.length - 1, by omega⟩
            have hX : N - (P ++ [s[i]]).length = r := by rw [List.length_append]; simp only [List.length_cons, List.length_nil]; omega
            rw [hr] at hBk
            have hst := hBk.set P.length s[i]
            rw [Dp.lay1] at hst
            have q0 := hBk.cell P.length (by rw [List.length_append, List.length_replicate]; omega)
            have q1 := hBk.free P.length
            have p0 : (0 : Int) ≤ (P.length : Int) := by omega
            have p1 : (P.length : Int) < (N : Int) := by omega
            have hB2 : Below w.heap.size w (wr.setCell ⟨w.heap.size, P.length, none⟩ (.int .u8 (s[i].toNat : Int))) := (Turn.put1 wr w.heap.size P.length _).bel hBe (by simp)
            clear hP hBk hBe hl1 hl2
            go_wp2
            refine ⟨⟨i + 1, by omega, by go_num, ?_, ?_, hB2⟩, by simp [intOf]; omega⟩
            · rw [HW1.out, List.length_append]; go_num
            · rw [HW1.out, hX]; exact hst
        · obtain rfl : i = s.size := by omega
          have j1 : ¬ (s.size : Int) < (s.size : Int) := by omega
          have hX : Dp.written ((bs s).take s.size) ++ List.replicate (N - (Dp.written ((bs s).take s.size)).length) 0 = Dp.written (bs s) := by rw [← hl, List.take_length, hN, Nat.sub_self]; simp
          rw [hX] at hBk
          have hBy := hBk.byts 0 N N (by omega) (Nat.le_refl _)
          rw [List.drop_zero, List.take_of_length_le (by omega)] at hBy
          have hcv := conv_byts hBy
          clear hBy hX
          go_wp2
          go_ret
          exact ⟨rfl, hBe⟩

end Go.Proofs.Ytppcfidaalejfaa
