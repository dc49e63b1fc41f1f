/-
  laySum, readSum: a number as four bytes, the lowest first.
-/
import Derived.Test.YtmogihffkglieaaBytes
import Derived.Test.YtmogihffkglieaaMore
namespace Go.Proofs.Ytmogihffkglieaa
open Go.RowKit

def lay (p : List UInt8) (s k : Nat) : List UInt8 := p ++ ((Sm.le4 s).take k ++ List.replicate (4 - k) 0)

theorem lay_step (p : List UInt8) (s k : Nat) (hk : k < 4) : (lay p s k).set (p.length + k) (UInt8.ofNat (s / 256 ^ k % 256)) = lay p s (k + 1) := by
  unfold lay
  rw [List.set_append_right _ _ (by omega), Nat.add_sub_cancel_left]
  congr 1
  match k, hk with
  | 0, _ => simp [Sm.le4, List.replicate]
  | 1, _ => simp [Sm.le4, List.replicate]
  | 2, _ => simp [Sm.le4, List.replicate]
  | 3, _ => simp [Sm.le4]

theorem laySum_any (g : Nat) (p : List UInt8) (hp : Hid (p.length ≤ 1099511627776)) (s : Nat) (w : World) (hg : Blk w g (p ++ [0, 0, 0, 0])) :
    Calls Try.prog 21 #[.slice (some ⟨g, p.length, none⟩) 4 4, .int .u32 (s : Int)] w fun e w' => e = .returned (.tuple #[]) ∧ Blk w' g (p ++ Sm.le4 s) ∧ Below g w w' := by
  have H0 : Hid (Blk w g (lay p s 0)) := hg
  clear hg
  go_enter Try.func21, Try.ntmps21
  go_wp2_with fail
  go_loopw [1, 7] (fun r i wr => ∃ k t : Nat, k ≤ 4 ∧ i = .int .i64 (k : Int) ∧ r = .int .u32 (t : Int) ∧ t = s / 256 ^ k ∧ Blk wr g (lay p s k) ∧ Below g w wr) (fun _ i _ => 4 - (intOf i).toNat)
  case atStart => exact ⟨0, s, by omega, rfl, rfl, by simp, H0.out, Below.refl _ _⟩
  case round =>
    obtain ⟨k, t, hk, rfl, rfl, ht, hblk, hbel⟩ := hrel
    have Ht : Hid (t = s / 256 ^ k) := ht
    have HL : Hid (Blk wr g (lay p s k)) := hblk
    have HB : Hid (Below g w wr) := hbel
    by_cases hlt : k < 4
    · have hfr := hblk.free (p.length + k)
      have hcl := hblk.cell (p.length + k) (by simp [lay, Sm.le4]; omega)
      have hst := hblk.set (p.length + k) (UInt8.ofNat (s / 256 ^ k % 256))
      rw [lay_step p s k hlt, Sm.ofNat_mod, ← ht] at hst
      have hmod : ((t : Int) % 256) = ((t % 256 : Nat) : Int) := by omega
      have HS : Hid (Blk (wr.setCell ⟨g, p.length + k, none⟩ (.int .u8 ((t % 256 : Nat) : Int))) g (lay p s (k + 1))) := hst
      have HD : Hid (t / 256 = s / 256 ^ (k + 1)) := by show _ = _; rw [ht, Nat.div_div_eq_div_mul, Nat.pow_succ]
      have Hmod : Hid ((t : Int) % 256 = ((t % 256 : Nat) : Int)) := hmod
      have hp' := hp.out
      clear ht hblk hbel hst hmod
      go_wp2
      rw [Hmod.out]
      exact ⟨⟨k + 1, t / 256, by omega, by go_num, by go_num, HD.out, HS.out, HB.out.setCell (Nat.le_refl _) _⟩, by simp [intOf]; omega⟩
    · obtain rfl : k = 4 := by omega
      go_wp2
      refine bodyPost_end (v := .tuple #[]) (by simp [results, Try.results21, go_sem]) rfl ⟨rfl, ?_, HB.out⟩
      have := HL.out
      simpa [lay, Sm.le4] using this

theorem or_at (i a y : Nat) (ha : a < 2 ^ i) (h1 : a < 4294967296) (hy : 2 ^ i * y < 4294967296) : bits .or .u32 (a : Int) ((2 ^ i * y : Nat) : Int) = ((a + 2 ^ i * y : Nat) : Int) := by
  rw [u32_or_nat a (2 ^ i * y) h1 hy, Nat.or_comm, nat_join i _ a (by rw [Nat.mul_mod_right]) ha, Nat.add_comm]

theorem readSum_any (v : Value) (x0 x1 x2 x3 : UInt8) (w : World) (B : Nat) (hv : Byts w B v [x0, x1, x2, x3]) :
    Calls Try.prog 19 #[v] w fun e w' => e = .returned (.int .u32 (Sm.num [x0, x1, x2, x3] : Int)) ∧ w' = w := by
  obtain ⟨ad, c, rfl, hlc, -, hcell⟩ := hv
  obtain ⟨b, o, rfl, -, hc⟩ := hcell (by simp)
  have h0 := hc 0 (by simp)
  have h1 := hc 1 (by simp)
  have h2 := hc 2 (by simp)
  have h3 := hc 3 (by simp)
  simp only [List.getD_cons_zero, List.getD_cons_succ, List.length_cons, List.length_nil, Nat.zero_add, Nat.reduceAdd, Nat.add_zero] at *
  have b0 := UInt8.toNat_lt x0
  have b1 := UInt8.toNat_lt x1
  have b2 := UInt8.toNat_lt x2
  have b3 := UInt8.toNat_lt x3
  have HN : Hid (Sm.num [x0, x1, x2, x3] = x0.toNat + 256 * (x1.toNat + 256 * (x2.toNat + 256 * x3.toNat))) := by show _ = _; simp [Sm.num]
  generalize Sm.num [x0, x1, x2, x3] = N at *
  generalize x0.toNat = y0 at *
  generalize x1.toNat = y1 at *
  generalize x2.toNat = y2 at *
  generalize x3.toNat = y3 at *
  clear hcell hc
  go_enter Try.func19, Try.ntmps19
  go_wp2_with fail
  go_loop [2, 7] (fun r i => (i = .int .i64 0 ∧ r = .int .u32 0) ∨ (i = .int .i64 1 ∧ r = .int .u32 (y0 : Int)) ∨ (i = .int .i64 2 ∧ r = .int .u32 ((y0 + 256 * y1 : Nat) : Int)) ∨ (i = .int .i64 3 ∧ r = .int .u32 ((y0 + 256 * (y1 + 256 * y2) : Nat) : Int)) ∨ (i = .int .i64 4 ∧ r = .int .u32 ((y0 + 256 * (y1 + 256 * (y2 + 256 * y3)) : Nat) : Int))) (fun _ i => 4 - (intOf i).toNat)
  case atStart => exact .inl ⟨rfl, rfl⟩
  case round =>
    rcases hrel with ⟨rfl, rfl⟩ | ⟨rfl, rfl⟩ | ⟨rfl, rfl⟩ | ⟨rfl, rfl⟩ | ⟨rfl, rfl⟩
    · have ho : bits .or .u32 0 (y0 : Int) = (y0 : Int) := by
        have := u32_or_nat 0 y0 (by decide) (by omega)
        simpa using this
      go_wp2
      exact ⟨.inr (.inl ⟨rfl, rfl⟩), by simp [intOf]⟩
    · have ho : bits .or .u32 (y0 : Int) ((y1 : Int) * 256) = ((y0 + 256 * y1 : Nat) : Int) := by
        have := or_at 8 y0 y1 (by omega) (by omega) (by omega)
        rw [← this]
        congr 1
        omega
      go_wp2
      exact ⟨.inr (.inr (.inl ⟨rfl, rfl⟩)), by simp [intOf]⟩
    · have ho : bits .or .u32 ((y0 + 256 * y1 : Nat) : Int) ((y2 : Int) * 65536) = ((y0 + 256 * (y1 + 256 * y2) : Nat) : Int) := by
        have := or_at 16 (y0 + 256 * y1) y2 (by omega) (by omega) (by omega)
        have e : ((2 ^ 16 * y2 : Nat) : Int) = (y2 : Int) * 65536 := by omega
        rw [e] at this
        rw [this]
        congr 1
        omega
      generalize y0 + 256 * y1 = z at *
      go_wp2
      exact ⟨.inr (.inr (.inr (.inl ⟨rfl, rfl⟩))), by simp [intOf]⟩
    · have ho : bits .or .u32 ((y0 + 256 * (y1 + 256 * y2) : Nat) : Int) ((y3 : Int) * 16777216) = ((y0 + 256 * (y1 + 256 * (y2 + 256 * y3)) : Nat) : Int) := by
        have := or_at 24 (y0 + 256 * (y1 + 256 * y2)) y3 (by omega) (by omega) (by omega)
        have e : ((2 ^ 24 * y3 : Nat) : Int) = (y3 : Int) * 16777216 := by omega
        rw [e] at this
        rw [this]
        congr 1
        omega
      generalize y0 + 256 * (y1 + 256 * y2) = z at *
      generalize y0 + 256 * (y1 + 256 * (y2 + 256 * y3)) = z' at *
      go_wp2
      exact ⟨.inr (.inr (.inr (.inr ⟨rfl, rfl⟩))), by simp [intOf]⟩
    · generalize y0 + 256 * (y1 + 256 * (y2 + 256 * y3)) = z' at *
      go_wp2
      rw [HN.out]
      go_ret
      exact ⟨rfl, rfl⟩
end Go.Proofs.Ytmogihffkglieaa
