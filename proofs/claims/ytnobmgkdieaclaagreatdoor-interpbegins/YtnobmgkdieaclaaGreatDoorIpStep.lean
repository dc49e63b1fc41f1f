/-
  WHAT missing, Step, question, Give, Lack, Used DO.
-/
import Derived.Test.YtnobmgkdieaclaaGreatDoorIpRun
import Derived.Deep.LoopGhost
namespace Go.Proofs.YtnobmgkdieaclaaGreatDoor
open Go.RowKit Go.MapKept Go.Maps Go.ChangeMaps

def evV (e : Ip.Ev) : Value := .agg #[.int .i64 (e.kind : Int), .string (str e.path), .int .i64 (e.why : Int), .string (str e.text)]
variable {w w' : World} {O : List Nat} {x : RP} {s : Ip.St}
theorem RunS.tn (h : RunS w O x s) : x.tn = s.targets.length := by
  obtain ⟨ad, c, e, -⟩ := h.tg
  simp only [RP.tv, Value.slice.injEq] at e
  exact e.2.1
theorem Went.refl (h : RunS w O x s) : Went w O x s w := Went.same h (Turn.refl _ _)
theorem Laid.went {s' : Ip.St} (hL : Laid w) (h : RunS w O x s) (k : Went w O x s' w') : Laid w' := by
  obtain ⟨_, _, _, _, t⟩ := k
  exact hL.turn t h.low
/-- what others do to their own blocks, and blocks more that are somebody's own -/
theorem RunS.aside {T O' : List Nat} (h : RunS w O x s) (hT : Turn T w w') (h1 : ∀ b ∈ T, b < w.heap.size → b ∈ O) (h2 : ∀ b ∈ x.own, b ∉ T) (h3 : ∀ b ∈ O', b < w.heap.size → b ∈ O) (h4 : ∀ b ∈ x.own, b ∈ O') (h5 : ∀ b ∈ O', b < w'.heap.size) : RunS w' O' x s := by
  have hk : ∀ b, b < w.heap.size ∧ b ∉ O → w'.heap[b]? = w.heap[b]? := fun b hb => hT.block b hb.1 (fun hx => hb.2 (h1 b hx hb.1))
  have hP : ∀ b, b < w.heap.size ∧ b ∉ O → b < w'.heap.size ∧ b ∉ O' := fun b hb => ⟨Nat.lt_of_lt_of_le hb.1 hT.size, fun hx => hb.2 (h3 b hx hb.1)⟩
  have hb : ∀ b ∈ x.own, w'.heap[b]? = w.heap[b]? := fun b hb => hT.block b (h.lt b hb) (h2 b hb)
  obtain ⟨rs, o1, o2⟩ := h.op
  obtain ⟨n, m1, m2⟩ := h.mt
  obtain ⟨k, m3, m4⟩ := h.mw
  exact ⟨h.row.turn hT (h2 _ x.p_own), h.tg.keep hk hP, ⟨rs, o1.turnP hT (fun g hg => h2 g (RP.ov_own hg)), o2.keep hk hP⟩, ⟨n, MapV.of_block m1 (hb _ x.mt_own), m2⟩, ⟨k, MapV.of_block m3 (hb _ x.mw_own), m4⟩,
    h.nd.turnP hT (fun g hg => h2 g (RP.nv_own hg)), h.nodup, h4, h.low, h5⟩
/-- a content is told: the map's store, then the event of noughts -/
theorem RunS.gave {c : Ip.B} (h : RunS w O x s) (h1 : s.ev.kind = 1) (h2 : s.told s.ev.path = none) (h3 : s.ev.path.length ≤ 1000) (h4 : s.needs.length ≤ 8) :
    ∃ w', (Instr.mapUpdate 60 (.map (some x.mt)) (.string (str s.ev.path)) (.agg #[.string (str c)])).run Tryz.prog w = .ok () w' ∧ RunS (evW w' x.p Ip.Ev.zero) O x { s with told := Ip.upd s.told s.ev.path c, ev := Ip.Ev.zero } ∧ Turn [x.mt] w w' ∧ Rw w' x.p (runCs x s) 62 := by
  obtain ⟨d1, d2, d3, d4, d5, d6⟩ := RP.parts h.nodup
  obtain ⟨n, m1, m2⟩ := h.mt
  rw [if_pos h1] at m2
  obtain ⟨w', r1, r2, r3⟩ := m1.upd (by omega) s.ev.path c h3 h2
  have hT := turn_map r3
  have hr := h.row.turn hT (by simpa using d1)
  refine ⟨w', r1, ?_, hT, hr⟩
  have hE := evW_turn w' x.p Ip.Ev.zero
  have hTT : Turn [x.p, x.mt] w (evW w' x.p Ip.Ev.zero) := (hT.mono (by simp)).trans hE (fun b hb _ => by simp at hb; simp [hb])
  have hk : ∀ b, b < w.heap.size ∧ b ∉ O → (evW w' x.p Ip.Ev.zero).heap[b]? = w.heap[b]? := fun b hb => hTT.block b hb.1 (fun hx => hb.2 (by
    simp at hx
    rcases hx with rfl | rfl
    · exact h.sub _ x.p_own
    · exact h.sub _ x.mt_own))
  have hP : ∀ b, b < w.heap.size ∧ b ∉ O → b < (evW w' x.p Ip.Ev.zero).heap.size ∧ b ∉ O := fun b hb => ⟨Nat.lt_of_lt_of_le hb.1 hTT.size, hb.2⟩
  have hmt : MapH (evW w' x.p Ip.Ev.zero) x.mt (n + 1) (Ip.upd s.told s.ev.path c) := MapV.of_block r2 (hE.block _ (Nat.lt_of_lt_of_le (h.lt _ x.mt_own) hT.size) (by simpa using fun e => d1 e.symm))
  obtain ⟨rs, o1, o2⟩ := h.op
  obtain ⟨k, m3, m4⟩ := h.mw
  refine ⟨?_, h.tg.keep hk hP, ⟨rs, o1.turnP hTT (fun g hg => by simp; exact ⟨(d4 g hg).1, (d4 g hg).2.1⟩), o2.keep hk hP⟩, ⟨n + 1, hmt, by show n + 1 + 0 ≤ _; omega⟩, ⟨k, MapV.of_block m3 (hTT.block _ (h.lt _ x.mw_own) (by simp; exact ⟨fun e => d2 e.symm, fun e => d3 e.symm⟩)), m4⟩,
    h.nd.turnP hTT (fun g hg => by simp; exact ⟨(d5 g hg).1, (d5 g hg).2.1⟩), h.nodup, h.sub, h.low, fun b hb => Nat.lt_of_lt_of_le (h.lim b hb) hTT.size⟩
  exact (((hr.set 9 (.int .i64 ((0 : Nat) : Int)) (by simp [runCs])).set 10 (.string (str [])) (by simp [runCs])).set 11 (.int .i64 ((0 : Nat) : Int)) (by simp [runCs])).set 12 (.string (str [])) (by simp [runCs])

set_option maxRecDepth 100000 in
theorem missing_any (w : World) (O : List Nat) (x : RP) (s : Ip.St) (h : RunS w O x s) (hs : s.targets ≠ []) :
    Calls Tryz.prog 50 #[.pointer (some ⟨x.p, 0, none⟩)] w fun e w' => e = .returned (.bool false) ∧ w' = w := by
  have k0 := h.c0
  rw [h.tn] at k0
  have hl : 0 < s.targets.length := List.length_pos_iff.2 hs
  have q : ((s.targets.length : Int) == 0) = false := by simp; omega
  clear h hs
  generalize s.targets.length = n at *
  go_enter Tryz.func50, Tryz.ntmps50
  go_wp2
  go_ret
  exact ⟨rfl, rfl⟩
set_option maxRecDepth 100000 in
theorem missing_nil (w : World) : Calls Tryz.prog 50 #[.pointer none] w fun e w' => e = .returned (.bool true) ∧ w' = w := by
  go_enter Tryz.func50, Tryz.ntmps50
  go_wp2
  go_ret
  exact ⟨rfl, rfl⟩
/-- a step more -/
theorem Went.snoc {x' : RP} {s' s'' : Ip.St} {w'' : World} (e1 : x'.p = x.p) (o1 : ∀ b ∈ x'.own, b ∈ x.own ∨ w.heap.size ≤ b) (t1 : Turn x.own w w') (_ : RunS w' (x'.own ++ O) x' s') (k : Went w' (x'.own ++ O) x' s'' w'') : Went w O x s'' w'' := by
  obtain ⟨x2, e2, h2, o2, t2⟩ := k
  refine ⟨x2, e2.trans e1, h2.other (fun b hb _ => by
    rcases List.mem_append.1 hb with hb | hb
    · exact List.mem_append_left _ hb
    · exact List.mem_append_right _ (List.mem_append_right _ hb)) (fun b hb => List.mem_append_left _ hb) (fun b hb => h2.lim b (by
    rcases List.mem_append.1 hb with hb | hb
    · exact List.mem_append_left _ hb
    · exact List.mem_append_right _ (List.mem_append_right _ hb))), fun b hb => ?_, t1.trans t2 (fun b hb hlt => ?_)⟩
  · rcases o2 b hb with hb | hb
    · exact o1 b hb
    · exact .inr (Nat.le_trans t1.size hb)
  · rcases o1 b hb with hb | hb
    · exact hb
    · omega
/-- a result that lies in memory, alone -/
theorem results_ev {fn : Func} {p : Tmp} (h : fn.results = #[.cell p 33]) (tmps : Array Value) (W : World) {g : Nat} {cs : Array Value} (hR : Rw W g cs 33) (hz : cs.size = 4) (hp : tmps.getD p undef = .pointer (some ⟨g, 0, none⟩)) :
    (results fn tmps).run Tryz.prog W = .ok (.agg cs) W := by
  have hp' : tmps[p]?.getD undef = .pointer (some ⟨g, 0, none⟩) := by simpa using hp
  simp [results, h, hp', asAddr, run_loadVar_row W g _ 33 cs (0, 0) _ hR Tryz.underlying33 rfl (by rw [hz]; kernel_rfl)]
theorem Ip.Ev.eta0 {e : Ip.Ev} (h : e = Ip.Ev.zero) : e.kind = 0 ∧ str e.path = ⟨#[]⟩ ∧ e.why = 0 ∧ str e.text = ⟨#[]⟩ := by rw [h]; exact ⟨rfl, rfl, rfl, rfl⟩
set_option maxRecDepth 100000 in
set_option maxHeartbeats 1000000 in
theorem Step_any (w : World) (O : List Nat) (x : RP) (s : Ip.St) (h : RunS w O x s) (hi : s.Inv) (hL : Laid w) :
    Calls Tryz.prog 25 #[.pointer (some ⟨x.p, 0, none⟩)] w fun e w' => e = .returned (evV s.step.ev) ∧ Went w O x s.step w' := by
  have r0 := Rw.new w #[.int .i64 0, .string ⟨#[]⟩, .int .i64 0, .string ⟨#[]⟩] 33
  have hB := (Below.refl w.heap.size w).alloc (Nat.le_refl _) (.cells #[.int .i64 0, .string ⟨#[]⟩, .int .i64 0, .string ⟨#[]⟩] 33)
  have hz := size_alloc w (.cells #[.int .i64 0, .string ⟨#[]⟩, .int .i64 0, .string ⟨#[]⟩] 33)
  go_enter Tryz.func25, Tryz.ntmps25
  go_upto_region 1 with fail
  generalize w.alloc (.cells #[.int .i64 0, .string ⟨#[]⟩, .int .i64 0, .string ⟨#[]⟩] 33) = W1 at *
  have hR1 : RunS W1 (w.heap.size :: O) x s := h.aside (Turn.of_below hB) (by simp) (by simp) (fun b hb hl => by
    rcases List.mem_cons.1 hb with rfl | hb
    · omega
    · exact hb) (fun b hb => List.mem_cons_of_mem _ (h.sub b hb)) (fun b hb => by
    rcases List.mem_cons.1 hb with rfl | hb
    · omega
    · have := h.lim b hb; omega)
  have hL1 := hL.below hB hL.size
  have hgx : w.heap.size ∉ x.own := fun hx => by have := h.lt _ hx; omega
  have hm := missing_any W1 (w.heap.size :: O) x s hR1 hi.some
  have hStart : Hid (Went W1 (w.heap.size :: O) x s W1) := Went.refl hR1
  have hI0 : Hid s.Inv := hi
  have hLow : Hid (∀ b ∈ x.own, 7 ≤ b) := h.low
  have hSub : Hid (∀ b ∈ x.own, b < w.heap.size ∧ b ∈ O) := fun b hb => ⟨h.lt b hb, h.sub b hb⟩
  have hLim : Hid (∀ b ∈ O, b < w.heap.size) := h.lim
  have hBh : Hid (Below w.heap.size w W1) := hB
  clear h hi hL hR1 hB
  go_wp2_with (first | (go_at_call 50; refine hm.mono ?_; rintro e w1 ⟨rfl, hw⟩; rw [hw]; clear hw) | fail)
  go_loopg [] (s.far + 1) (fun k wr => ∃ t, Hid (t.Inv ∧ t.step = s.step ∧ (t.ev.kind = 0 → t.far < k)) ∧ Hid (Went W1 (w.heap.size :: O) x t wr))
  case atStart => exact ⟨s, ⟨hI0.out, rfl, fun _ => Nat.lt_succ_self _⟩, hStart.out⟩
  case round =>
    obtain ⟨t, H1, H2⟩ := hrel
    obtain ⟨x', e1, hR, ho, hT⟩ := H2.out
    obtain ⟨hti, hts, htf⟩ := H1.out
    have hLr := hL1.turn hT hLow.out
    have k9 := hR.c9
    have k10 := hR.c10
    have k11 := hR.c11
    have k12 := hR.c12
    rw [e1] at k9 k10 k11 k12
    by_cases h0 : t.ev.kind = 0
    · obtain ⟨z1, z2, z3, z4⟩ := Ip.Ev.eta0 (hti.zero h0)
      rw [z1] at k9
      rw [z2] at k10
      rw [z3] at k11
      rw [z4] at k12
      have hG := goOn_any wr _ x' t hR hti.ok.fine hLr hti.ok.bods
      rw [e1] at hG
      have hgo := Ip.St.goOn_ok hti.ok h0
      have hinv := Ip.St.goOn_inv hti h0
      have hst := Ip.St.step_on hti.ok h0
      have HE : Hid (t.goOn.Inv ∧ t.goOn.step = s.step ∧ (t.goOn.ev.kind = 0 → t.goOn.far < t.far) ∧ t.far < gk) := ⟨hinv, hst.symm.trans hts, hgo.2, htf h0⟩
      clear hti hts htf hLr hgo hinv hst z1 z2 z3 z4 H1 h0
      go_wp2_with (first | (go_at_call 56; refine hG.mono ?_; rintro e w2 ⟨rfl, h1⟩) | fail)
      go_roundg t.far
      case measure => exact HE.out.2.2.2
      case rel =>
        exact ⟨t.goOn, ⟨HE.out.1, HE.out.2.1, HE.out.2.2.1⟩, Went.snoc e1 ho hT hR h1⟩
    · have hk0 : ((t.ev.kind : Int) == 0) = false := by simp; omega
      have est := Ip.St.step_end h0
      have HS : Hid (s.step = t) := hts.symm.trans est
      have rr := r0.turn hT (fun hx => hgx hx)
      have hgr := rr.lt
      have f0 := rr.free 0
      have f1 := rr.free 1
      have f2 := rr.free 2
      have f3 := rr.free 3
      have q0 := rr.cell 0
      have q1 := rr.cell 1
      have q2 := rr.cell 2
      have q3 := rr.cell 3
      clear hti hts htf hLr H1 h0 est
      go_wp2
      have q4 := rr.put4 (.int .i64 (t.ev.kind : Int)) (.string (str t.ev.path)) (.int .i64 (t.ev.why : Int)) (.string (str t.ev.text))
      have hT4 := Turn.put4 wr w.heap.size (.int .i64 (t.ev.kind : Int)) (.string (str t.ev.path)) (.int .i64 (t.ev.why : Int)) (.string (str t.ev.text))
      have hne : ∀ b ∈ x'.own, b ∉ [w.heap.size] := by
        intro b hb hx
        rw [List.mem_singleton] at hx
        subst hx
        rcases ho _ hb with hb | hb
        · exact hgx hb
        · omega
      have hR2 := hR.turn hT4 (fun b hb _ => by
        rw [List.mem_singleton] at hb
        subst hb
        exact List.mem_append_right _ (List.mem_cons_self ..)) hne
      have hR3 := hR2.other (O' := x'.own ++ O) (fun b hb _ => by
        rcases List.mem_append.1 hb with hb | hb
        · exact List.mem_append_left _ hb
        · exact List.mem_append_right _ (List.mem_cons_of_mem _ hb)) (fun b hb => List.mem_append_left _ hb) (fun b hb => hR2.lim b (by
        rcases List.mem_append.1 hb with hb | hb
        · exact List.mem_append_left _ hb
        · exact List.mem_append_right _ (List.mem_cons_of_mem _ hb)))
      refine bodyPost_ret (results_ev Tryz.results25 _ _ q4 rfl rfl) rfl ⟨?_, ?_⟩
      · rw [HS.out]; rfl
      · rw [HS.out]
        refine ⟨x', e1, hR3, fun b hb => (ho b hb).imp id (fun h => by omega), ?_⟩
        have hTa : Turn x.own w wr := ((Turn.of_below hBh.out).mono (S' := x.own) (by simp)).trans hT (fun b hb _ => hb)
        exact hTa.trans hT4 (fun b hb hlt => by rw [List.mem_singleton] at hb; omega)
end Go.Proofs.YtnobmgkdieaclaaGreatDoor

namespace Go.Proofs.YtnobmgkdieaclaaGreatDoor
open Go.RowKit Go.MapKept Go.Maps Go.ChangeMaps

set_option maxRecDepth 100000 in
theorem question_yes (w : World) (O : List Nat) (x : RP) (s : Ip.St) (h : RunS w O x s) (hs : s.targets ≠ []) (h1 : s.ev.kind = 1) :
    Calls Tryz.prog 51 #[.pointer (some ⟨x.p, 0, none⟩)] w fun e w' => e = .returned (.tuple #[.string (str s.ev.path), .int .i64 0]) ∧ w' = w := by
  have hm := missing_any w O x s h hs
  have k9 := h.c9
  have k10 := h.c10
  rw [h1] at k9
  clear h hs h1
  generalize str s.ev.path = P at *
  go_enter Tryz.func51, Tryz.ntmps51
  go_wp2_with (first | (go_at_call 50; refine hm.mono ?_; rintro e w1 ⟨rfl, rfl⟩) | fail)
  go_ret2
  exact ⟨rfl, rfl⟩
set_option maxRecDepth 100000 in
theorem question_no (w : World) (O : List Nat) (x : RP) (s : Ip.St) (h : RunS w O x s) (hs : s.targets ≠ []) (h1 : s.ev.kind ≠ 1) :
    Calls Tryz.prog 51 #[.pointer (some ⟨x.p, 0, none⟩)] w fun e w' => e = .returned (.tuple #[.string ⟨#[]⟩, .int .i64 4]) ∧ w' = w := by
  have hm := missing_any w O x s h hs
  have k9 := h.c9
  have q : ((s.ev.kind : Int) == 1) = false := by simp; omega
  clear h hs h1
  generalize s.ev.kind = K at *
  go_enter Tryz.func51, Tryz.ntmps51
  go_wp2_with (first | (go_at_call 50; refine hm.mono ?_; rintro e w1 ⟨rfl, rfl⟩) | fail)
  go_ret2
  exact ⟨rfl, rfl⟩
set_option maxRecDepth 100000 in
theorem Lack_any (w : World) (O : List Nat) (x : RP) (s : Ip.St) (h : RunS w O x s) (hs : s.targets ≠ []) (h1 : s.ev.kind = 1) :
    Calls Tryz.prog 21 #[.pointer (some ⟨x.p, 0, none⟩)] w fun e w' => e = .returned (.int .i64 0) ∧ RunS w' O x s.lack ∧ Turn [x.p] w w' := by
  have hq := question_yes w O x s h hs h1
  have hf := fail_any 145 s.ev.path w O x s h
  change Calls _ _ #[_, .int .i64 145, _] _ _ at hf
  change Calls _ _ _ _ fun e w' => _ ∧ RunS w' O x (s.fail 145 s.ev.path) ∧ _
  clear h hs h1
  generalize str s.ev.path = P at *
  generalize s.fail 145 s.ev.path = R at *
  go_enter Tryz.func21, Tryz.ntmps21
  go_wp2_with (first | (go_at_call 51; refine hq.mono ?_; rintro e w1 ⟨rfl, rfl⟩) | (go_at_call 52; refine hf.mono ?_; rintro e w2 ⟨rfl, h1, h2⟩) | fail)
  go_ret
  exact ⟨rfl, h1, h2⟩
set_option maxRecDepth 100000 in
theorem Lack_no (w : World) (O : List Nat) (x : RP) (s : Ip.St) (h : RunS w O x s) (hs : s.targets ≠ []) (h1 : s.ev.kind ≠ 1) :
    Calls Tryz.prog 21 #[.pointer (some ⟨x.p, 0, none⟩)] w fun e w' => e = .returned (.int .i64 4) ∧ w' = w := by
  have hq := question_no w O x s h hs h1
  clear h hs h1
  go_enter Tryz.func21, Tryz.ntmps21
  go_wp2_with (first | (go_at_call 51; refine hq.mono ?_; rintro e w1 ⟨rfl, rfl⟩) | fail)
  go_ret
  exact ⟨rfl, rfl⟩
set_option maxRecDepth 100000 in
theorem Give_no (c : ByteArray) (w : World) (O : List Nat) (x : RP) (s : Ip.St) (h : RunS w O x s) (hs : s.targets ≠ []) (h1 : s.ev.kind ≠ 1) :
    Calls Tryz.prog 20 #[.pointer (some ⟨x.p, 0, none⟩), .string c] w fun e w' => e = .returned (.int .i64 4) ∧ w' = w := by
  have hq := question_no w O x s h hs h1
  clear h hs h1
  go_enter Tryz.func20, Tryz.ntmps20
  go_wp2_with (first | (go_at_call 51; refine hq.mono ?_; rintro e w1 ⟨rfl, rfl⟩) | fail)
  go_ret
  exact ⟨rfl, rfl⟩
set_option maxRecDepth 100000 in
set_option maxHeartbeats 1000000 in
theorem Give_any (c : List UInt8) (w : World) (O : List Nat) (x : RP) (s : Ip.St) (h : RunS w O x s) (hi : s.Inv) (h1 : s.ev.kind = 1) (hcl : c.length ≤ 140737488351232) :
    Calls Tryz.prog 20 #[.pointer (some ⟨x.p, 0, none⟩), .string (str c)] w fun e w' => e = .returned (.int .i64 0) ∧ RunS w' O x (s.give c) ∧ Turn [x.p, x.mt] w w' := by
  have hq := question_yes w O x s h hi.some h1
  have hz := str_size c
  have hzb : ((str c).size : Int) ≤ 140737488351232 := by omega
  by_cases hc : c.length ≤ 256
  · have g1 : ¬ (256 : Int) < ((str c).size : Int) := by omega
    have e1 : s.give c = { s with told := Ip.upd s.told s.ev.path c, ev := Ip.Ev.zero } := by unfold Ip.St.give; rw [if_pos hc]
    rw [e1]
    have hpl := (Pm.isP_parts (hi.need h1).2.2.2).1
    obtain ⟨w2, m1, m2, m3, m4⟩ := h.gave (c := c) h1 (hi.need h1).2.1 (by omega) hi.len
    have k6 := h.c6
    have f2 : ∀ j, w2.frozen? ⟨x.p, j, none⟩ = false := fun j => m4.free j
    have k9 : w2.cell? ⟨x.p, 9, none⟩ = some (.int .i64 (s.ev.kind : Int)) := m4.cell 9
    have k10 : w2.cell? ⟨x.p, 10, none⟩ = some (.string (str s.ev.path)) := m4.cell 10
    have k11 : w2.cell? ⟨x.p, 11, none⟩ = some (.int .i64 (s.ev.why : Int)) := m4.cell 11
    have k12 : w2.cell? ⟨x.p, 12, none⟩ = some (.string (str s.ev.text)) := m4.cell 12
    have hTT : Turn [x.p, x.mt] w (evW w2 x.p Ip.Ev.zero) := (m3.mono (by simp)).trans (evW_turn w2 x.p Ip.Ev.zero) (fun b hb _ => by simp at hb; simp [hb])
    have HE : Hid (RunS (evW w2 x.p Ip.Ev.zero) O x { s with told := Ip.upd s.told s.ev.path c, ev := Ip.Ev.zero } ∧ Turn [x.p, x.mt] w (evW w2 x.p Ip.Ev.zero)) := ⟨m2, hTT⟩
    clear m2 m3 m4 hTT h hi h1 hc hpl e1 hz
    generalize ({ s with told := Ip.upd s.told s.ev.path c, ev := Ip.Ev.zero } : Ip.St) = R at *
    generalize str s.ev.path = P at *
    generalize str s.ev.text = T at *
    generalize str c = C at *
    go_enter Tryz.func20, Tryz.ntmps20
    go_wp2_with (first | (go_at_call 51; refine hq.mono ?_; rintro e w1 ⟨rfl, hw⟩; rw [hw]; clear hw) | fail)
    go_ret
    exact ⟨rfl, HE.out⟩
  · have g1 : (256 : Int) < ((str c).size : Int) := by omega
    have e1 : s.give c = s.fail 146 s.ev.path := by unfold Ip.St.give; rw [if_neg hc]
    have hf := fail_any 146 s.ev.path w O x s h
    change Calls _ _ #[_, .int .i64 146, _] _ _ at hf
    rw [e1]
    clear h hi h1 e1 hz hc hcl
    generalize s.fail 146 s.ev.path = R at *
    generalize str s.ev.path = P at *
    generalize str c = C at *
    go_enter Tryz.func20, Tryz.ntmps20
    go_wp2_with (first | (go_at_call 51; refine hq.mono ?_; rintro e w1 ⟨rfl, rfl⟩) | (go_at_call 52; refine hf.mono ?_; rintro e w2 ⟨rfl, h1, h2⟩) | fail)
    go_ret
    exact ⟨rfl, h1, h2.mono (by simp)⟩
set_option maxRecDepth 100000 in
theorem Used_any (w : World) (O : List Nat) (x : RP) (s : Ip.St) (h : RunS w O x s) (hs : s.targets ≠ []) :
    Calls Tryz.prog 19 #[.pointer (some ⟨x.p, 0, none⟩)] w fun e w' => e = .returned (.int .i64 (s.used : Int)) ∧ w' = w := by
  have hm := missing_any w O x s h hs
  have k2 := h.c2
  clear h hs
  go_enter Tryz.func19, Tryz.ntmps19
  go_wp2_with (first | (go_at_call 50; refine hm.mono ?_; rintro e w1 ⟨rfl, rfl⟩) | fail)
  go_ret
  exact ⟨rfl, rfl⟩
set_option maxRecDepth 100000 in
theorem Needs_any (w : World) (O : List Nat) (x : RP) (s : Ip.St) (h : RunS w O x s) (hs : s.targets ≠ []) (hn : s.needs.length ≤ 8) :
    Calls Tryz.prog 17 #[.pointer (some ⟨x.p, 0, none⟩)] w fun e w' => ∃ a n c, e = .returned (.slice a n c) ∧ TxR.Own w' w.heap.size (.slice a n c) s.needs ∧ Below w.heap.size w w' := by
  have hm := missing_any w O x s h hs
  have k8 := h.c8
  have hC := CloneT_any s.needs x.nv w.heap.size w h.nd.sl (Nat.le_refl _) (by omega)
  change Calls _ _ #[.slice x.na x.nn x.nc] _ _ at hC
  clear h hs hn
  generalize s.needs = L at *
  go_enter Tryz.func17, Tryz.ntmps17
  go_wp2_with (first | (go_at_call 50; refine hm.mono ?_; rintro e w1 ⟨rfl, rfl⟩) | (go_at_call 45; refine hC.mono ?_; rintro e w2 ⟨a2, n2, c2, rfl, h1, h2⟩) | fail)
  go_ret
  exact ⟨_, _, _, rfl, h1, h2⟩
end Go.Proofs.YtnobmgkdieaclaaGreatDoor
