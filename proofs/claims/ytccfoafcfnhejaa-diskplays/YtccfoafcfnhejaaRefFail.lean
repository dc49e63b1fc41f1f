/-
  The document's device: Fail, Dirty.
-/
import Derived.Test.YtccfoafcfnhejaaRefOp
import Derived.Test.YtccfoafcfnhejaaEqs
import Derived.Deep.AppendLies
import Derived.Deep.RegionLaw
namespace Go.Proofs.Ytccfoafcfnhejaa
open Go.RowKit Go.Sort Go.Shelf

/-- the place of the document's device behind a call -/
structure RNext (w : World) (y y' : RPl) : Prop where
  p : y'.p = y.p
  fl : y'.fl.length ≤ y.fl.length + 1
  bl : ∀ k, k ∈ y'.bl → k ∈ y.bl ∨ w.heap.size ≤ k

theorem RMem.setV {w w4 : World} {y : RPl} {n op : Nat} {bs cs : Nat → Option Dk.Blk} (h : RMem w y n op bs cs) (ht : Turn y.fv.ownBlock.toList w w4) {v : Value} {F : List (Int × Int)} (hv : Flt w4 v F) : RMem (w4.setCell ⟨y.p, 4, none⟩ v) { y with fv := v, fl := F } n op bs cs := by
  obtain ⟨e1, e2, e3⟩ := h.pne
  have hk : Kept5 w w4 := fun b c hb => ht.block b (lt_of_heap hb) (fun hm => by
    obtain ⟨cur, h1⟩ := h.hf.ty (Option.mem_toList.1 hm)
    rw [h1] at hb
    simp at hb)
  have hn : ∀ k, k = y.p ∨ k = y.b ∨ k = y.c → k ∉ y.fv.ownBlock.toList := fun k hk hm => by
    obtain ⟨n1, n2, n3⟩ := e3 k (Option.mem_toList.1 hm)
    rcases hk with e | e | e
    · exact n1 e
    · exact n2 e
    · exact n3 e
  have hp4 : w4.heap[y.p]? = some (.cells (rf y n op) 54 (0, 0)) := (ht.block _ (lt_of_heap h.hp) (hn _ (.inl rfl))).trans h.hp
  have hb4 := h.hb.kept (ht.block _ h.hb.lt (hn _ (.inr (.inl rfl)))) hk
  have hc4 := h.hc.kept (ht.block _ h.hc.lt (hn _ (.inr (.inr rfl)))) hk
  refine ⟨?_, hb4.set_other e1 hp4 (by decide) 4 v, hc4.set_other e2 hp4 (by decide) 4 v, hv.of_block fun k hk => Below.heap_setCell w4 ⟨y.p, 4, none⟩ v k (fun e => ?_), h.ne⟩
  · have := heap_setCell_at hp4 4 v
    simpa [rf] using this
  · obtain ⟨cur, h1⟩ := hv.ty hk
    rw [show k = y.p from e, hp4] at h1
    simp at h1

theorem info106 : (Try.prog.info? 106).map (fun i => (i.zero, i.size, i.bytes)) = some (some (.agg #[.int .i64 0, .int .i64 0]), 2, 16) := by kernel_rfl

theorem fltV_snoc (F : List (Int × Int)) (a e : Int) : fltV (F ++ [(a, e)]) = fltV F ++ [.int .i64 a, .int .i64 e] := by simp [fltV]
theorem RTie.fail {y : RPl} {d : Dk.Dev} (h : RTie y d) (after e : Int) (v : Value) : RTie { y with fv := v, fl := y.fl ++ [((d.op : Int) + after, e)] } (d.fail after e) := by
  refine ⟨h.la, fun k hk => ?_, h.cu⟩
  show lastF (y.fl ++ [((d.op : Int) + after, e)]) k = if k = (d.op : Int) + after then some e else d.fa k
  rw [lastF_snoc, h.fa k hk]
  by_cases e : (d.op : Int) + after = k
  · rw [if_pos e, if_pos e.symm]
  · rw [if_neg e, if_neg (Ne.symm e)]

set_option maxRecDepth 100000 in
theorem RFail_arg (w : World) (y : RPl) (after e : Int) (h0 : after < 0 ∨ 1073741824 < after ∨ (e ≠ 8 ∧ e ≠ 9)) : Calls Try.prog 44 #[ptr y.p, .int .i64 after, .int .i64 e] w fun r w' => r = .returned (.int .i64 2) ∧ w' = w := by
  unfold ptr
  by_cases h1 : after < 0
  · clear h0
    go_enter Try.func44, Try.ntmps44
    go_wp2
    go_ret
    exact ⟨rfl, rfl⟩
  · by_cases h2 : 1073741824 < after
    · clear h0
      go_enter Try.func44, Try.ntmps44
      go_wp2
      go_ret
      exact ⟨rfl, rfl⟩
    · obtain ⟨h3, h4⟩ : e ≠ 8 ∧ e ≠ 9 := by omega
      have h5 : (e != 8) = true := by simpa using h3
      have h6 : (e != 9) = true := by simpa using h4
      clear h0
      go_enter Try.func44, Try.ntmps44
      go_wp2
      go_ret
      exact ⟨rfl, rfl⟩

set_option maxRecDepth 100000 in
set_option maxHeartbeats 1000000 in
theorem RFail_ok (w : World) (y : RPl) (d : Dk.Dev) (h : RHas w y d) (hop : (d.op : Int) ≤ 1000000000) (hfl : y.fl.length ≤ 1000000) (after e : Int) (h0 : 0 ≤ after) (h1 : after ≤ 1073741824) (he : e = 8 ∨ e = 9) :
    Calls Try.prog 44 #[ptr y.p, .int .i64 after, .int .i64 e] w fun r w' => r = .returned (.int .i64 0) ∧ (∃ y', RHas w' y' (d.fail after e) ∧ RNext w y y') ∧ Turn y.bl w w' := by
  obtain ⟨-, -, -, c3, c4, -, fz⟩ := h.m.cells
  obtain ⟨i0, hi, hz0, hz1, hz2⟩ := info_parts info106
  have hwr : IntKind.i64.wrap ((d.op : Int) + after) = (d.op : Int) + after := by rw [IntKind.wrap_i64]; omega
  have hplt : y.p < w.heap.size := lt_of_heap h.m.hp
  have hpf : ∀ k, y.fv.ownBlock = some k → k ≠ y.p := fun k hk => (h.m.pne.2.2 k hk).1
  have HF : Hid (Flt w y.fv y.fl) := h.m.hf
  have HL : Hid (y.fl.length ≤ 1000000) := hfl
  have HFin : Hid (∀ g cap w4, Flt w4 (.slice (some ⟨g, 0, none⟩) (y.fl.length + 1) cap) (y.fl ++ [((d.op : Int) + after, e)]) → (w.alloc (.cells #[.int .i64 ((d.op : Int) + after), .int .i64 e] 106)).drew.grownBy w4 y.fv.ownBlock → (y.fv.ownBlock = some g ∨ g = w.heap.size + 1) → (∃ y', RHas (w4.setCell ⟨y.p, 4, none⟩ (.slice (some ⟨g, 0, none⟩) (y.fl.length + 1) cap)) y' (d.fail after e) ∧ RNext w y y') ∧ Turn y.bl w (w4.setCell ⟨y.p, 4, none⟩ (.slice (some ⟨g, 0, none⟩) (y.fl.length + 1) cap))) := by
    intro g cap w4 hF hg hat
    have ht : Turn y.fv.ownBlock.toList w w4 := (((Turn.refl _ w).alloc _).drew).grow hg (fun x hx _ => Option.mem_toList.2 hx)
    refine ⟨⟨_, ⟨h.m.setV ht hF, h.t.fail after e _, Dk.fail_ok h.ok he⟩, rfl, by simp, fun k hk => ?_⟩, ?_⟩
    · simp only [RPl.bl, List.mem_cons, Value.ownBlock, Option.mem_toList, Option.some.injEq] at hk ⊢
      rcases hk with e1 | e1 | e1 | e1
      · exact .inl (.inl e1)
      · exact .inl (.inr (.inl e1))
      · exact .inl (.inr (.inr (.inl e1)))
      · rcases hat with h2 | h2
        · exact .inl (.inr (.inr (.inr (h2.trans (congrArg some e1)))))
        · exact .inr (by omega)
    · exact (ht.mono (fun x hx _ => by simp only [RPl.bl, List.mem_cons]; exact .inr (.inr (.inr hx)))).set (fun _ => by simp [RPl.bl]) _
  have HP : Hid (∀ w4, (w.alloc (.cells #[.int .i64 ((d.op : Int) + after), .int .i64 e] 106)).drew.grownBy w4 y.fv.ownBlock → w4.cell? ⟨y.p, 4, none⟩ = some y.fv ∧ w4.frozen? ⟨y.p, 4, none⟩ = false) := by
    intro w4 hg
    have hb : w4.heap[y.p]? = some (.cells (rf y d.st.length d.op) 54 (0, 0)) := (hg.block y.p (by show y.p < (w.alloc _).heap.size; simp; omega) (fun e => hpf _ e.symm rfl)).trans ((Below.heap_alloc w _ y.p hplt).trans h.m.hp)
    exact ⟨by rw [cell_of_row w4 y.p 4 _ 54 (0, 0) hb]; rfl, by simp [World.frozen?, hb]⟩
  clear h hpf
  unfold ptr
  rcases he with rfl | rfl
  · go_enter Try.func44, Try.ntmps44
    go_wp2_with fail
    go_region_law (refine step_append_lies _ (by rfl) _ _ _ (by rfl) 0 106 i0 _ 2 16 Try.underlying52 hi hz0 hz1 hz2 rfl (by omega) y.fv y.fl.length (fltV y.fl) (by rfl) ((HF.out.alloc _).drew) ⟨w.heap.size, 0, none⟩ 1 1 [.int .i64 ((d.op : Int) + after), .int .i64 8] (by rfl) (by rfl) (World.news_of_block (cs := #[.int .i64 ((d.op : Int) + after), .int .i64 8]) (t := 106) (fr := (0, 0)) (heap_alloc_new w _)) (by simp [Value.oneCell']) (by omega) (by have := HL.out; unfold maxLen; omega) (by have := HL.out; omega) (by simp) (w.heap.size + 1) (by simp) ?_; intro gg cap w4 hown1 hgrow hat hltg; obtain ⟨e4, f4⟩ := HP.out w4 hgrow)
    all_goals go_wp2
    all_goals go_ret
    all_goals exact ⟨rfl, HFin.out gg cap w4 (by unfold Flt; rw [fltV_snoc, List.length_append]; exact hown1) hgrow hat⟩
  · go_enter Try.func44, Try.ntmps44
    go_wp2_with fail
    go_region_law (refine step_append_lies _ (by rfl) _ _ _ (by rfl) 0 106 i0 _ 2 16 Try.underlying52 hi hz0 hz1 hz2 rfl (by omega) y.fv y.fl.length (fltV y.fl) (by rfl) ((HF.out.alloc _).drew) ⟨w.heap.size, 0, none⟩ 1 1 [.int .i64 ((d.op : Int) + after), .int .i64 9] (by rfl) (by rfl) (World.news_of_block (cs := #[.int .i64 ((d.op : Int) + after), .int .i64 9]) (t := 106) (fr := (0, 0)) (heap_alloc_new w _)) (by simp [Value.oneCell']) (by omega) (by have := HL.out; unfold maxLen; omega) (by have := HL.out; omega) (by simp) (w.heap.size + 1) (by simp) ?_; intro gg cap w4 hown1 hgrow hat hltg; obtain ⟨e4, f4⟩ := HP.out w4 hgrow)
    all_goals go_wp2
    all_goals go_ret
    all_goals exact ⟨rfl, HFin.out gg cap w4 (by unfold Flt; rw [fltV_snoc, List.length_append]; exact hown1) hgrow hat⟩

def gath (cs : Nat → Option Dk.Blk) (k : Nat) : List Int := ((List.range k).filter fun j => (cs j).isSome).map fun (i : Nat) => (i : Int)
theorem gath_len (cs : Nat → Option Dk.Blk) (k : Nat) : (gath cs k).length ≤ k := by
  unfold gath
  rw [List.length_map]
  exact Nat.le_trans (List.length_filter_le _ _) (by simp)
theorem gath_succ (cs : Nat → Option Dk.Blk) (k : Nat) : gath cs (k + 1) = if (cs k).isSome then gath cs k ++ [(k : Int)] else gath cs k := by
  unfold gath
  rw [List.range_succ, List.filter_append, List.map_append]
  by_cases h : (cs k).isSome = true
  · simp [h]
  · simp [h]
theorem gath_dlI (d : Dk.Dev) : gath (fun i => d.di i) d.st.length = dlI d := rfl
theorem info3 : (Try.prog.info? 3).map (fun i => (i.zero, i.size, i.bytes)) = some (some (.int .i64 0), 1, 8) := by kernel_rfl

set_option maxRecDepth 100000 in
set_option maxHeartbeats 1000000 in
theorem RDirty_any (w : World) (y : RPl) (n op : Nat) (bs cs : Nat → Option Dk.Blk) (h : RMem w y n op bs cs) (hn : n ≤ 4096) :
    Calls Try.prog 26 #[ptr y.p] w fun e w' => ∃ v, e = .returned v ∧ OwnI w' w.heap.size v (gath cs n) ∧ Below w.heap.size w w' := by
  obtain ⟨i0, hi, hz0, hz1, hz2⟩ := info_parts info3
  have hown0 : OwnI w w.heap.size (.slice none 0 0) (gath cs 0) := World.ownsRow_nil w w.heap.size 3 1
  unfold ptr
  go_enter Try.func26, Try.ntmps26
  go_wp2
  go_loopw [3, 4] (fun t3 t4 wr => ∃ k : Nat, k ≤ n ∧ t4 = .int .i64 (k : Int) ∧ OwnI wr w.heap.size t3 (gath cs k) ∧ Below w.heap.size w wr) (fun _ t4 _ => n - (RowKit.intOf t4).toNat)
  case atStart => exact ⟨0, Nat.zero_le _, rfl, hown0, Below.refl _ _⟩
  case round =>
    obtain ⟨k, hkn, rfl, hor, hbr⟩ := hrel
    have hm := h.below hbr
    obtain ⟨-, c1, -⟩ := hm.cells
    have hg := gath_len cs k
    have HL : Hid ((gath cs k).length ≤ 4096) := Nat.le_trans hg (by omega)
    by_cases hlt : k < n
    · obtain ⟨vc, hc, hvc⟩ := hm.hc.cell hlt
      have HG : Hid (gath cs (k + 1) = if (cs k).isSome then gath cs k ++ [(k : Int)] else gath cs k) := gath_succ cs k
      have HO : Hid (OwnI wr w.heap.size u3 (gath cs k)) := hor
      have HB : Hid (Below w.heap.size w wr) := hbr
      have HSZ : Hid (w.heap.size ≤ wr.heap.size) := hbr.size
      clear hor hg h hm hbr
      have hk0 : (0 : Int) ≤ (k : Int) := by omega
      have hk1 : (k : Int) < (n : Int) := by omega
      cases hd : cs k with
      | none =>
        rw [hd] at hvc
        obtain rfl : vc = .slice none 0 0 := hvc
        go_wp2
        go_roundw
        case rel => exact ⟨k + 1, by omega, by go_num, by rw [HG.out, hd]; exact HO.out, HB.out⟩
        case measure => simp [RowKit.intOf]; omega
      | some X =>
        rw [hd] at hvc
        obtain ⟨g, c, rfl⟩ := hvc.some_slice
        clear hvc
        go_wp2_with (at_builtin; go_must (refine wpList_append_own _ rfl (.tmp 22) (.tmp 24) 39 rfl w.heap.size 3 i0 (.int .i64 0) 1 8 Try.underlying39 hi hz0 hz1 hz2 rfl (by decide) _ (gath cs k).length ((gath cs k).map encZ) rfl (HO.out.alloc _) ⟨wr.heap.size, 0, none⟩ 1 1 [.int .i64 (k : Int)] rfl rfl (World.news_of_block (cs := #[.int .i64 (k : Int)]) (t := 3) (fr := (0, 0)) (heap_alloc_new wr _)) (by simp [Value.oneCell']) (by have := HL.out; unfold maxLen; omega) (by have := HL.out; omega) (by have := HSZ.out; simp; omega) ?_))
        intro v' w' h2 h3 h4
        have hO' : OwnI w' w.heap.size v' (gath cs (k + 1)) := by
          rw [HG.out, hd]
          show OwnI w' w.heap.size v' (gath cs k ++ [(k : Int)])
          unfold OwnI
          rw [List.map_append, List.length_append]
          exact h2
        have hB' : Below w.heap.size w w' := (HB.out.alloc HSZ.out _).grown h3 (by have := HSZ.out; simp; omega) fun kk hk => (World.ownsRow.lt HO.out kk hk).1
        go_wp2
        go_roundw
        case rel => exact ⟨k + 1, by omega, by go_num, hO', hB'⟩
        case measure => simp [RowKit.intOf]; omega
    · obtain rfl : k = n := by omega
      go_wp2
      go_ret
      exact ⟨_, rfl, hor, hbr⟩
end Go.Proofs.Ytccfoafcfnhejaa
