/-
  The document's device: Flush.
-/
import Derived.Test.YtccfoafcfnhejaaRefWrite
namespace Go.Proofs.Ytccfoafcfnhejaa
open Go.RowKit

set_option maxRecDepth 100000 in
theorem RFlush_no (w : World) (y : RPl) (d : Dk.Dev) (h : RHas w y d) (hop : (d.op : Int) ≤ 1000000000) (he : d.err ≠ 0) :
    Calls Try.prog 43 #[ptr y.p] w fun e w' => e = .returned (.int .i64 d.err) ∧ RHas w' y d.begun ∧ Turn y.bl w w' := by
  have hO := operation_any w y d h hop
  unfold ptr at *
  generalize d.err = er at *
  go_enter Try.func43, Try.ntmps43
  go_wp2_with fail
  refine hO.mono ?_
  rintro r w1 ⟨rfl, hk, ht⟩
  go_wp2
  go_ret
  exact ⟨rfl, hk, ht⟩

def flB (d : Dk.Dev) (k : Nat) : Nat → Option Dk.Blk := fun j => if j < k then some (d.cont j) else some (d.stab j)
def flC (d : Dk.Dev) (k : Nat) : Nat → Option Dk.Blk := fun j => if j < k then none else d.di j
theorem flB_at (d : Dk.Dev) (k : Nat) : (if (flC d k k).isSome then flC d k k else flB d k k) = some (d.cont k) := by
  unfold flC flB
  rw [if_neg (Nat.lt_irrefl k), if_neg (Nat.lt_irrefl k)]
  exact cont_if d k
theorem flB_succ (d : Dk.Dev) (k j : Nat) : updN (flB d k) k (some (d.cont k)) j = flB d (k + 1) j := by
  unfold updN flB
  by_cases e : j = k
  · subst e; rw [if_pos rfl, if_pos (by omega)]
  · rw [if_neg e]
    by_cases l : j < k
    · rw [if_pos l, if_pos (by omega)]
    · rw [if_neg l, if_neg (by omega)]
theorem flC_succ (d : Dk.Dev) (k j : Nat) : updN (flC d k) k none j = flC d (k + 1) j := by
  unfold updN flC
  by_cases e : j = k
  · subst e; rw [if_pos rfl, if_pos (by omega)]
  · rw [if_neg e]
    by_cases l : j < k
    · rw [if_pos l, if_pos (by omega)]
    · rw [if_neg l, if_neg (by omega)]

set_option maxRecDepth 100000 in
set_option maxHeartbeats 1000000 in
theorem RFlush_ok (w : World) (y : RPl) (d : Dk.Dev) (h : RHas w y d) (hop : (d.op : Int) ≤ 1000000000) (he : d.err = 0) :
    Calls Try.prog 43 #[ptr y.p] w fun e w' => e = .returned (.int .i64 0) ∧ RHas w' { y with last := -1 } d.begun.fl ∧ Turn y.bl w w' := by
  have hO := operation_any w y d h hop
  rw [he] at hO
  have hn : d.begun.st.length ≤ 4096 := h.ok.hi
  have hok := Dk.fl_ok (Dk.begun_ok h.ok)
  clear he h
  unfold ptr at *
  generalize d.begun = D at *
  go_enter Try.func43, Try.ntmps43
  go_wp2_with fail
  refine hO.mono ?_
  rintro r w1 ⟨rfl, hk, ht⟩
  have hfa : ∀ k : Int, (D.op : Int) ≤ k → lastF y.fl k = D.fa k := hk.t.fa
  have hcu := hk.t.cu
  have HTI : Hid (RTie { y with last := -1 } D.fl) := ⟨(fun _ _ e => by cases e), hfa, hcu⟩
  have HOK : Hid (Dk.Ok D.fl) := hok
  have hm0 : RMem w1 y D.st.length D.op (flB D 0) (flC D 0) := hk.m.congr (fun _ _ => rfl) (fun _ _ => rfl)
  clear hO hok hk hfa hcu
  go_wp2
  go_loopw [4] (fun t4 wr => ∃ k : Nat, k ≤ D.st.length ∧ t4 = .int .i64 (k : Int) ∧ RMem wr y D.st.length D.op (flB D k) (flC D k) ∧ Turn y.bl w wr) (fun t4 _ => D.st.length - (RowKit.intOf t4).toNat)
  case atStart => exact ⟨0, Nat.zero_le _, rfl, hm0, ht⟩
  case round =>
    clear hm0 ht
    obtain ⟨k, hkn, rfl, hm, ht⟩ := hrel
    obtain ⟨c0, c1, c2, -, -, -, fz⟩ := hm.cells
    by_cases hlt : k < D.st.length
    · have hC := Content_any wr.drew y _ _ _ _ hm.drew k hlt
      rw [flB_at] at hC
      have hk0 : (0 : Int) ≤ (k : Int) := by omega
      have hk1 : (k : Int) < (D.st.length : Int) := by omega
      obtain ⟨uu, hu, -⟩ := hm.hb.cell (i := k) hlt
      have hfz := hm.hb.free k
      unfold ptr at hC
      have HNX : Hid (∀ v, Cel wr.drew v (some (D.cont k)) → RMem (wr.drew.setCell ⟨y.b, k, none⟩ v) y D.st.length D.op (flB D (k + 1)) (flC D k) ∧ RMem ((wr.drew.setCell ⟨y.b, k, none⟩ v).setCell ⟨y.c, k, none⟩ (.slice none 0 0)) y D.st.length D.op (flB D (k + 1)) (flC D (k + 1)) ∧ Turn y.bl w ((wr.drew.setCell ⟨y.b, k, none⟩ v).setCell ⟨y.c, k, none⟩ (.slice none 0 0))) := by
        intro v hv
        have h1 := (hm.drew.setB hlt hv).congr (fun j _ => flB_succ D k j) (fun _ _ => rfl)
        have h2 := (h1.setC hlt (v := .slice none 0 0) (o := none) rfl).congr (fun _ _ => rfl) (fun j _ => flC_succ D k j)
        exact ⟨h1, h2, (ht.drew.join (turn_rset wr.drew y (by simp [RPl.bl]) k _)).join (turn_rset _ y (by simp [RPl.bl]) k _)⟩
      have a0 : wr.drew.cell? ⟨y.p, 0, none⟩ = some (.slice (some ⟨y.b, 0, none⟩) D.st.length y.bc) := c0
      clear hm ht
      go_wp2_with fail
      go_region_held3 (fun w' => w'.cell? ⟨y.p, 0, none⟩ = some (.slice (some ⟨y.b, 0, none⟩) D.st.length y.bc)) (first | exact a0 | exact b0)
        (first
          | (go_at_call 56; refine hC.mono ?_; rintro rr w5 ⟨v, rfl, hv, rfl⟩; obtain ⟨g5, c5, rfl⟩ := hv.some_slice; obtain ⟨hm5, hm6, ht6⟩ := HNX.out _ hv; obtain ⟨b0, b1, -, -, -, -, fz5⟩ := hm5.cells; obtain ⟨u5, hu5, -⟩ := hm5.hc.cell (i := k) hlt; have hfz5 := hm5.hc.free k))
      have b1' : (wr.setCell ⟨y.b, k, none⟩ (.slice (some ⟨g5, 0, none⟩) 256 c5)).cell? ⟨y.p, 1, none⟩ = some (.slice (some ⟨y.c, 0, none⟩) D.st.length y.cc) := b1
      have hu' : (wr.setCell ⟨y.b, k, none⟩ (.slice (some ⟨g5, 0, none⟩) 256 c5)).cell? ⟨y.c, k, none⟩ = some u5 := hu5
      have hfz' : (wr.setCell ⟨y.b, k, none⟩ (.slice (some ⟨g5, 0, none⟩) 256 c5)).frozen? ⟨y.c, k, none⟩ = false := hfz5
      go_wp2
      go_roundw
      case rel => exact ⟨k + 1, by omega, by go_num, hm6, ht6⟩
      case measure => simp [RowKit.intOf]; omega
    · obtain rfl : k = D.st.length := by omega
      have hfin : RMem (wr.setCell ⟨y.p, 2, none⟩ (.int .i64 (-1))) { y with last := -1 } D.fl.st.length D.fl.op (fun i => some (D.fl.stab i)) (fun i => D.fl.di i) := by
        have h1 := hm.setF 2 (.int .i64 (-1)) (op' := D.op) (-1) y.cut (by simp [rf])
        have e : D.fl.st.length = D.st.length := by show ((List.range D.st.length).map D.cont).length = _; rw [List.length_map, List.length_range]
        rw [e]
        refine h1.congr (fun j hj => ?_) (fun j hj => ?_)
        · unfold flB
          rw [if_pos hj, Dk.mapRange_stab (d := D) (d' := D.fl) rfl hj]
        · unfold flC
          rw [if_pos hj]
          rfl
      have hfin2 : RHas (wr.setCell ⟨y.p, 2, none⟩ (.int .i64 (-1))) { y with last := -1 } D.fl := ⟨hfin, HTI.out, HOK.out⟩
      have htf : Turn y.bl w (wr.setCell ⟨y.p, 2, none⟩ (.int .i64 (-1))) := ht.join (turn_rset _ y (by simp [RPl.bl]) 2 _)
      clear hfin hm ht
      go_wp2
      go_ret
      exact ⟨rfl, hfin2, htf⟩
end Go.Proofs.Ytccfoafcfnhejaa
