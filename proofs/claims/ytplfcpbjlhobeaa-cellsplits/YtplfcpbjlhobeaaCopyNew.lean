/-
  'copy' ONTO A NEW BLOCK OF BYTES.
-/
import Derived.Test.YtplfcpbjlhobeaaBytes
namespace Go.Proofs.Ytplfcpbjlhobeaa
open Go.RowKit

theorem size5' : (Try.prog.info? 5).map (·.size) = some 1 := by
  obtain ⟨i0, hi, hz0, hz1, hz2⟩ := info_parts info5
  rw [hi]; simp [hz1]

theorem splice_zeros (l : List UInt8) (k : Nat) : splice (bV (List.replicate (l.length + k) 0)) 0 (bV l) = bV (l ++ List.replicate k 0) := by
  unfold splice
  rw [List.take_zero, List.nil_append, Nat.zero_add, bV_length, bV_append]
  congr 1
  simp [bV]

/-- 'copy' onto a new block, from its head on -/
theorem copy_new (w w0 : World) (g k n m c : Nat) (ad : Option Addr) (l l' : List UInt8) (B : Nat) (hl : Byts w B (.slice ad m c) l') (hpre : l = l'.take l.length) (hmin : Nat.min l'.length n = l.length)
    (hg : Blk w g (List.replicate (l.length + k) 0)) (hb : Below g w0 w) :
    ∃ w', (Builtin.copy_ #[32, 32] 3 #[.slice (some ⟨g, 0, none⟩) n n, .slice ad m c]).run Try.prog w = .ok (goInt l.length) w' ∧ Blk w' g (l ++ List.replicate k 0) ∧ Below g w0 w' := by
  obtain ⟨ad', c', hv, hle, hn0, hcell⟩ := hl
  simp only [Value.slice.injEq] at hv
  obtain ⟨rfl, rfl, rfl⟩ := hv
  by_cases h0 : l = []
  · subst h0
    refine ⟨w, run_copy_none (P := Try.prog) w 32 32 3 5 (some ⟨g, 0, none⟩) ad n n l'.length c Try.underlying32 size5' hmin, ?_, hb⟩
    simpa using hg
  · have hle2 : l.length ≤ l'.length := by rw [← hmin]; exact Nat.min_le_left _ _
    have hl0 : 0 < l.length := List.length_pos_iff.2 h0
    obtain ⟨b, o', rfl, _, hc⟩ := hcell (by intro e; subst e; simp at hle2; exact h0 hle2)
    have hsrc := byts_news (w := w) (b := b) (o := o') (l := l) fun j hj => by
      rw [hc j (by omega)]
      have : l.getD j 0 = l'.getD j 0 := by
        rw [hpre]
        simp [List.getD, hj]
      rw [this]
    have hrun := run_copy_row (P := Try.prog) w 32 32 3 5 g 0 n n ⟨b, o', none⟩ l'.length c (bV (List.replicate (l.length + k) 0)).toArray 5 (bV l) Try.underlying32 size5' hg (by rw [bV_length, hmin]) hsrc (by simp [bV_length]) (bV_oneCell l)
    rw [bV_length] at hrun
    refine ⟨_, hrun, ?_, below_setRow hb (Nat.le_refl _) _⟩
    have h2 := setRow_heap w g _ ((List.take 0 (bV (List.replicate (l.length + k) 0)).toArray.toList ++ bV l ++ List.drop (0 + l.length) (bV (List.replicate (l.length + k) 0)).toArray.toList).toArray) 5 (0, 0) hg
    have h3 := splice_zeros l k
    unfold splice at h3
    unfold Blk
    rw [← h3, bV_length]
    simpa using h2

end Go.Proofs.Ytplfcpbjlhobeaa
