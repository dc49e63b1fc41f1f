/-
  slices.Insert AT THE END OF A ROW, at items and at numbers.
-/
import Derived.Test.YtplfcpbjlhobeaaInsK
import Derived.Test.YtplfcpbjlhobeaaDHalf
namespace Go.Proofs.Ytplfcpbjlhobeaa
open Go.RowKit

theorem Cslice_lo (W : World) (ad : Addr) (n c m : Nat) (hm : m ≤ n) (hne : ¬ c = m) :
    (Instr.slice 25 (.slice (some ad) n c) (some (.int .i64 (m : Int))) none none).run Try.prog W = .ok (.slice (some (ad.add (m * 4))) (n - m) (c - m)) W := by
  rw [run_slice_l W 25 (some ad) n c (by rw [elemC]; exact Try.underlying25) .i64 (m : Int) (by omega) (by omega), elemC, sizeC]
  simp [Result.andThen, sliced, hne]
theorem Cslice_hi (W : World) (ad : Option Addr) (n c m : Nat) (hm : m ≤ c) :
    (Instr.slice 25 (.slice ad n c) none (some (.int .i64 (m : Int))) none).run Try.prog W = .ok (.slice ad m c) W := by
  rw [run_slice_h W 25 ad n c (by rw [elemC]; exact Try.underlying25) .i64 (m : Int) (by omega) (by omega), elemC, sizeC]
  simp [Result.andThen, sliced, addr_add_zero]

set_option maxRecDepth 100000 in
set_option maxHeartbeats 4000000 in
/-- at the end -/
theorem Cins_end (l : List Cm.It) (x : Cm.It) (base p : Nat) (v : Value) (w : World) (hown : OwnC w base v l) (hl : l.length ≤ 1000000) (hbase : base ≤ w.heap.size) (hp : Its w w.heap.size (.slice (some ⟨p, 0, none⟩) 1 1) [x]) :
    Calls Try.prog 20 #[v, .int .i64 (l.length : Int), .slice (some ⟨p, 0, none⟩) 1 1] w fun e w' => ∃ v', e = .returned v' ∧ OwnC w' base v' (l ++ [x]) ∧ w.grownBy w' v.ownBlock := by
  obtain ⟨ad, c, rfl, hc, -, -⟩ := hown.its
  have Hl : Hid (l.length + [x].length ≤ 1099511627) := by show _ ≤ _; simp; omega
  have hs : ∀ W : World, ∃ A, (Instr.slice 25 (.slice ad l.length c) (some (.int .i64 (l.length : Int))) none none).run Try.prog W = .ok A W := fun W => by
    rw [run_slice_l W 25 ad l.length c (by rw [elemC]; exact Try.underlying25) .i64 (l.length : Int) (by omega) (by omega), elemC, sizeC]
    exact ⟨_, rfl⟩
  obtain ⟨A, hs⟩ := hs w
  go_enter Try.func20, Try.ntmps20
  go_wp2_with (at_builtin; go_must (refine wpList_append_its rfl _ _ rfl base w.heap.size _ _ l [x] rfl hown rfl hp Hl hbase ?_))
  intro v' w' h1 h2
  go_wp2
  go_ret
  exact ⟨_, rfl, h1, h2⟩

theorem Nslice_lo (W : World) (ad : Addr) (n c m : Nat) (hm : m ≤ n) (hne : ¬ c = m) :
    (Instr.slice 26 (.slice (some ad) n c) (some (.int .i64 (m : Int))) none none).run Try.prog W = .ok (.slice (some (ad.add (m * 1))) (n - m) (c - m)) W := by
  rw [run_slice_l W 26 (some ad) n c (by rw [elemN]; exact Try.underlying26) .i64 (m : Int) (by omega) (by omega), elemN, sizeN]
  simp [Result.andThen, sliced, hne]
theorem Nslice_hi (W : World) (ad : Option Addr) (n c m : Nat) (hm : m ≤ c) :
    (Instr.slice 26 (.slice ad n c) none (some (.int .i64 (m : Int))) none).run Try.prog W = .ok (.slice ad m c) W := by
  rw [run_slice_h W 26 ad n c (by rw [elemN]; exact Try.underlying26) .i64 (m : Int) (by omega) (by omega), elemN, sizeN]
  simp [Result.andThen, sliced, addr_add_zero]

set_option maxRecDepth 100000 in
set_option maxHeartbeats 4000000 in
/-- at the end -/
theorem Nins_end (l : List Int) (x : Int) (base p : Nat) (v : Value) (w : World) (hown : OwnN w base v l) (hl : l.length ≤ 1000000) (hbase : base ≤ w.heap.size) (hp : Ints w w.heap.size (.slice (some ⟨p, 0, none⟩) 1 1) [x]) :
    Calls Try.prog 21 #[v, .int .i64 (l.length : Int), .slice (some ⟨p, 0, none⟩) 1 1] w fun e w' => ∃ v', e = .returned v' ∧ OwnN w' base v' (l ++ [x]) ∧ w.grownBy w' v.ownBlock := by
  obtain ⟨ad, c, rfl, hc, -, -⟩ := hown.ints
  have Hl : Hid (l.length + [x].length ≤ 1099511627) := by show _ ≤ _; simp; omega
  have hs : ∀ W : World, ∃ A, (Instr.slice 26 (.slice ad l.length c) (some (.int .i64 (l.length : Int))) none none).run Try.prog W = .ok A W := fun W => by
    rw [run_slice_l W 26 ad l.length c (by rw [elemN]; exact Try.underlying26) .i64 (l.length : Int) (by omega) (by omega), elemN, sizeN]
    exact ⟨_, rfl⟩
  obtain ⟨A, hs⟩ := hs w
  go_enter Try.func21, Try.ntmps21
  go_wp2_with (at_builtin; go_must (refine wpList_append_ints rfl _ _ rfl base w.heap.size _ _ l [x] rfl hown rfl hp Hl hbase ?_))
  intro v' w' h1 h2
  go_wp2
  go_ret
  exact ⟨_, rfl, h1, h2⟩

end Go.Proofs.Ytplfcpbjlhobeaa
