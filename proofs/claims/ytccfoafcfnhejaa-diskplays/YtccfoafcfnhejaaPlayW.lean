/-
  DiskPlays: the walk.
-/
import Derived.Test.YtccfoafcfnhejaaPlayK
import Derived.Test.YtccfoafcfnhejaaAnsS
import Derived.Test.YtccfoafcfnhejaaRefCopy
namespace Go.Proofs.Ytccfoafcfnhejaa
open Go.RowKit

theorem cal_cells9 {w : World} {g : Nat} {kind who i after e torn short : Int} {b : UInt8} {vk : Value} (h : w.heap[g]? = some (.cells (calV kind who i after e torn short b vk) 48 (0, 0))) :
    w.cell? ⟨g, 0, none⟩ = some (.int .i64 kind) ∧ w.cell? ⟨g, 1, none⟩ = some (.int .i64 who) ∧ w.cell? ⟨g, 2, none⟩ = some (.int .i64 i) ∧ w.cell? ⟨g, 3, none⟩ = some (.int .i64 after) ∧ w.cell? ⟨g, 4, none⟩ = some (.int .i64 e) ∧ w.cell? ⟨g, 5, none⟩ = some (.int .i64 torn) ∧ w.cell? ⟨g, 6, none⟩ = some (.int .i64 short) ∧ w.cell? ⟨g, 7, none⟩ = some (.int .u8 (b.toNat : Int)) ∧ w.cell? ⟨g, 8, none⟩ = some vk := by
  refine ⟨?_, ?_, ?_, ?_, ?_, ?_, ?_, ?_, ?_⟩ <;> (rw [cell_of_row w g _ _ 48 (0, 0) h]; rfl)
theorem box_step {w w1 w2 : World} {o : Obj} {v : Value} {base m g : Nat} {e : TypeId} {xs : List Value} {cs : Array Value} (hrow : (w1.alloc o).ownsRow base e 1 v m xs) (he : e ≠ 48) (hg : (w1.alloc o).grownBy w2 v.ownBlock) (hb : Below w.heap.size w w1) (hbox : w.heap[g]? = some (.cells cs 48 (0, 0))) : w2.heap[g]? = some (.cells cs 48 (0, 0)) := by
  have h1 : (w1.alloc o).heap[g]? = some (.cells cs 48 (0, 0)) := kept_alloc o ((hb.block g (lt_of_heap hbox)).trans hbox)
  refine (hg.block g (lt_of_heap h1) (fun hm => ?_)).trans h1
  obtain ⟨_, cur, h2⟩ := row_ty hrow hm.symm
  rw [h1] at h2
  simp only [Option.some.injEq, Obj.cells.injEq] at h2
  exact he h2.2.1.symm
theorem Fleet.copyY {w0 wr w1 w2 : World} {n N m : Nat} {X : Nat → Pl} {Y : Nat → RPl} {D : Nat → Dk.Dev} {va vr : Value} {k : Nat} {o1 : Obj} (h : Fleet w0 wr n N m X Y D va vr) (hk : k < m) (hb1 : Below wr.heap.size wr w1) (hg2 : (w1.alloc o1).grownBy w2 va.ownBlock) :
    RHas w2 (Y k) (D k) ∧ w2.ownsRow w0.heap.size 44 1 vr m ((List.range m).map fun i => ptr (Y i).p) ∧ w0.heap.size ≤ w2.heap.size := by
  have hb1' : Below wr.heap.size wr (w1.alloc o1) := hb1.alloc hb1.size _
  have ht2 := Turn.of_grown hg2
  have hfar2 : ∀ q, q ∈ va.ownBlock.toList → q < (w1.alloc o1).heap.size → w0.heap.size ≤ q ∧ Far (w1.alloc o1) q := fun q hq _ => by
    obtain ⟨h1, cur, h2⟩ := row_ty h.ra (Option.mem_toList.1 hq)
    exact ⟨h1, cur, 23, (hb1'.block q (lt_of_heap h2)).trans h2, by decide⟩
  have c2 : Crew w0 w2 n N m X Y D := (h.crew.below hb1').turn ht2 hfar2
  refine ⟨c2.hy k hk, row_keep h.rr fun q hq => ?_, c2.be.size⟩
  obtain ⟨_, cur, h2⟩ := row_ty h.rr hq
  have hlt := lt_of_heap h2
  rw [ht2.block q (Nat.lt_of_lt_of_le hlt hb1'.size) (fun hm => ?_), hb1'.block q hlt]
  obtain ⟨_, cur', h2'⟩ := row_ty h.ra (Option.mem_toList.1 hm)
  rw [h2] at h2'
  simp at h2'
theorem bols_lt {w : World} {B : Nat} {v : Value} {l : List Bool} (h : Bols w B v l) (hne : l ≠ []) {q : Nat} (hq : v.ownBlock = some q) : q < B := by
  obtain ⟨ad, c, rfl, _, h⟩ := h
  obtain ⟨b, o, rfl, hlt, _⟩ := h hne
  have : b = q := by simpa [Value.ownBlock] using hq
  omega
theorem Bols.mono {w : World} {B B' : Nat} {v : Value} {l : List Bool} (h : Bols w B v l) (hB : B ≤ B') : Bols w B' v l := by
  obtain ⟨ad, c, rfl, hle, h⟩ := h
  refine ⟨ad, c, rfl, hle, fun hne => ?_⟩
  obtain ⟨b, o, rfl, hlt, hc⟩ := h hne
  exact ⟨b, o, rfl, by omega, hc⟩
theorem dlI_len (d : Dk.Dev) (h : d.st.length ≤ 4096) : (dlI d).length ≤ 1099511627776 := by
  unfold dlI Dk.Dev.dl
  rw [List.length_map]
  have := List.length_filter_le (fun (j : Nat) => (d.di j).isSome) (List.range d.st.length)
  rw [List.length_range] at this
  omega
theorem wpAnyH_weaken {P : Program} {md : Region.Mode} {ops : Array Oper} {Q : Exit → Act → World → Prop} {S T : World → Prop} (h : ∀ w, T w → S w) : ∀ (fuel : Nat) (listed : Array Bool) (a : Act) (w : World), wpAnyH P md ops Q T fuel listed a w → wpAnyH P md ops Q S fuel listed a w
  | 0, _, _, _, k => k
  | fuel + 1, _, _, _, k => ⟨k.1, fun i hi => wpOp_mono (fun a' w' h' => ⟨h _ h'.1, wpAnyH_weaken h fuel _ a' w' h'.2⟩) (k.2 i hi)⟩
theorem info23 : (Try.prog.info? 23).map (fun i => (i.zero, i.size, i.bytes)) = some (some (.pointer none), 1, 8) := by kernel_rfl
theorem info44 : (Try.prog.info? 44).map (fun i => (i.zero, i.size, i.bytes)) = some (some (.pointer none), 1, 8) := by kernel_rfl

set_option maxRecDepth 100000 in
set_option maxHeartbeats 8000000 in
theorem plays_in (n : Nat) (vc : Value) (cl : List CalR) (w : World) (hv : CalS w w.heap.size vc cl) (h0 : 80 ≤ n) (h1 : n ≤ 120) (hl : cl.length ≤ 300) :
    Calls Try.prog 4 #[.int .i64 (n : Int), vc] w fun e w' => e = .returned (.bool true) ∧ Below w.heap.size w w' := by
  obtain ⟨ad, c, rfl, hkeep, hcl⟩ := hv
  have HC : Hid (cl ≠ [] → ∃ b o, ad = some ⟨b, o, Option.none⟩ ∧ b < w.heap.size ∧ ∀ j, j < cl.length → ∀ t v, (cl.getD j CalR.none).cells[t]? = some v → w.cell? ⟨b, o + j * 9 + t, Option.none⟩ = some v) := hcl
  have HK : Hid (∀ j, j < cl.length → Bols w w.heap.size (cl.getD j CalR.none).vk (cl.getD j CalR.none).kl ∧ (cl.getD j CalR.none).kl.length ≤ 140737488355328) := hkeep
  have hW := works_any w
  have hn1 : (80 : Int) ≤ (n : Int) := by omega
  have hn2 : (n : Int) ≤ 120 := by omega
  have hl3 : (cl.length : Int) ≤ 300 := by omega
  clear hkeep hcl
  go_enter Try.func4, Try.ntmps4
  go_wp2_with fail
  refine hW.mono ?_
  rintro r w1 ⟨rfl, hb1⟩
  have hN := New_ok n w1 h0 (by omega)
  clear hW
  go_wp2_with fail
  refine hN.mono ?_
  rintro r w2 ⟨x0, rfl, hxn, hx0, hb2⟩
  have hB2 : Below w.heap.size w w2 := hb1.trans (hb2.mono hb1.size)
  have hR := RNew_any n (w2.alloc (.cells #[.pointer (some ⟨x0.p, 0, none⟩)] 23)) h0 (by omega)
  unfold ptr
  clear hN
  go_wp2_with fail
  refine hR.mono ?_
  rintro r w3 ⟨y0, rfl, hy0, hyn, hyf, hb3⟩
  have hF0 := Fleet.start (w0 := w) (n := n) (N := 0) hx0 (fun q hq => Nat.le_trans hb1.size (hxn q hq)) hB2 (o1 := .cells #[.pointer (some ⟨x0.p, 0, none⟩)] 23) rfl hy0 hyn hb3 (o2 := .cells #[.pointer (some ⟨y0.p, 0, none⟩)] 44) rfl (by rw [hyf]; exact Nat.le_refl _) (by show (List.replicate n Dk.zeroB).length = n; rw [List.length_replicate])
  unfold ptr
  clear hR hx0 hy0 hB2 hb1 hb2 hb3 hxn hyn
  go_wp2
  go_loopw [7, 8, 62] (fun t7 t8 t62 wr => ∃ (k m : Nat) (X : Nat → Pl) (Y : Nat → RPl) (D : Nat → Dk.Dev), k ≤ cl.length ∧ t62 = .int .i64 (k : Int) ∧ Fleet w wr n (2 * k) m X Y D t7 t8) (fun _ _ t62 _ => cl.length - (RowKit.intOf t62).toNat)
  case atStart => exact ⟨0, 1, _, _, _, Nat.zero_le _, rfl, hF0⟩
  case round =>
    clear hF0
    obtain ⟨k, m, X, Y, D, hkl, rfl, hF⟩ := hrel
    by_cases hlt : k < cl.length
    · obtain ⟨b, o, rfl, hb, hcells⟩ := HC.out (by intro e; rw [e] at hlt; simp at hlt)
      have hcl := hcells k hlt
      obtain ⟨hvk, hvl⟩ := HK.out k hlt
      generalize cl.getD k CalR.none = cc at hcl hvk hvl
      obtain ⟨kind, who, ci, after, e, torn, short, bb, vk, kl⟩ := cc
      simp only [CalR.cells] at hcl hvk hvl
      have q0 : wr.cell? ⟨b, o + k * 9, none⟩ = some (.int .i64 kind) := (hF.be.cell (p := ⟨b, o + k * 9, none⟩) hb).trans (hcl 0 _ rfl)
      have q1 : wr.cell? ⟨b, o + k * 9 + 1, none⟩ = some (.int .i64 who) := (hF.be.cell (p := ⟨b, o + k * 9 + 1, none⟩) hb).trans (hcl 1 _ rfl)
      have q2 : wr.cell? ⟨b, o + k * 9 + 2, none⟩ = some (.int .i64 ci) := (hF.be.cell (p := ⟨b, o + k * 9 + 2, none⟩) hb).trans (hcl 2 _ rfl)
      have q3 : wr.cell? ⟨b, o + k * 9 + 3, none⟩ = some (.int .i64 after) := (hF.be.cell (p := ⟨b, o + k * 9 + 3, none⟩) hb).trans (hcl 3 _ rfl)
      have q4 : wr.cell? ⟨b, o + k * 9 + 4, none⟩ = some (.int .i64 e) := (hF.be.cell (p := ⟨b, o + k * 9 + 4, none⟩) hb).trans (hcl 4 _ rfl)
      have q5 : wr.cell? ⟨b, o + k * 9 + 5, none⟩ = some (.int .i64 torn) := (hF.be.cell (p := ⟨b, o + k * 9 + 5, none⟩) hb).trans (hcl 5 _ rfl)
      have q6 : wr.cell? ⟨b, o + k * 9 + 6, none⟩ = some (.int .i64 short) := (hF.be.cell (p := ⟨b, o + k * 9 + 6, none⟩) hb).trans (hcl 6 _ rfl)
      have q7 : wr.cell? ⟨b, o + k * 9 + 7, none⟩ = some (.int .u8 (bb.toNat : Int)) := (hF.be.cell (p := ⟨b, o + k * 9 + 7, none⟩) hb).trans (hcl 7 _ rfl)
      have q8 : wr.cell? ⟨b, o + k * 9 + 8, none⟩ = some vk := (hF.be.cell (p := ⟨b, o + k * 9 + 8, none⟩) hb).trans (hcl 8 _ rfl)
      obtain ⟨ga, ca, rfl, hpa⟩ := row_at hF.ra hF.m0
      obtain ⟨gr, cr, rfl, hpr⟩ := row_at hF.rr hF.m0
      have hm0 : (0 : Int) < (m : Int) := by have := hF.m0; omega
      have hk0 : (0 : Int) ≤ (k : Int) := by omega
      have hk1 : (k : Int) < (cl.length : Int) := by omega
      clear hcl hcells
      obtain ⟨adk, ck, rfl, -⟩ := id hvk
      have hFW := hF.below ((Below.refl _ wr).alloc (Nat.le_refl _) (.cells #[.int .i64 kind, .int .i64 who, .int .i64 ci, .int .i64 after, .int .i64 e, .int .i64 torn, .int .i64 short, .int .u8 (bb.toNat : Int), .slice adk kl.length ck] 48))
      have hbox : (wr.alloc (.cells #[.int .i64 kind, .int .i64 who, .int .i64 ci, .int .i64 after, .int .i64 e, .int .i64 torn, .int .i64 short, .int .u8 (bb.toNat : Int), .slice adk kl.length ck] 48)).heap[wr.heap.size]? = some (.cells (calV kind who ci after e torn short bb (.slice adk kl.length ck)) 48 (0, 0)) := heap_alloc_new wr _
      have hgB : w.heap.size ≤ wr.heap.size := hF.be.size
      clear hpa hpr hF
      go_upto_region 14 with fail
      clear q0 q1 q2 q3 q4 q5 q6 q7 q8
      generalize wr.alloc (.cells #[.int .i64 kind, .int .i64 who, .int .i64 ci, .int .i64 after, .int .i64 e, .int .i64 torn, .int .i64 short, .int .u8 (bb.toNat : Int), .slice adk kl.length ck] 48) = W at *
      generalize wr.heap.size = gx at *
      obtain ⟨k0', k1', k2', k3', k4', k5', k6', k7', k8'⟩ := cal_cells9 hbox
      obtain ⟨ga', ca', he1, hpa⟩ := row_at hFW.ra hFW.m0
      obtain ⟨rfl, rfl⟩ : ga = ga' ∧ ca = ca' := by simpa using he1
      obtain ⟨gr', cr', he2, hpr⟩ := row_at hFW.rr hFW.m0
      obtain ⟨rfl, rfl⟩ : gr = gr' ∧ cr = cr' := by simpa using he2
      clear he1 he2
      have hmz : (m : Int) ≠ 0 := by omega
      have hrlt : who.tmod (m : Int) < (m : Int) := Int.tmod_lt_of_pos who hm0
      go_upto_region 15 with fail
      generalize who.tmod (m : Int) = r at *
      by_cases hr0 : r < 0
      · have hFn := hFW.mono (N' := 2 * (k + 1)) (by omega)
        clear hFW hpa hpr
        go_wp2
        go_roundw
        case rel => exact ⟨k + 1, m, X, Y, D, by omega, by go_num, hFn⟩
        case measure => simp [RowKit.intOf]; omega
      · obtain ⟨kk, rfl⟩ : ∃ kk : Nat, r = (kk : Int) := ⟨r.toNat, by omega⟩
        have hkk : kk < m := by omega
        have hpa' := hpa kk hkk
        have hpr' := hpr kk hkk
        have hkk0 : (0 : Int) ≤ (kk : Int) := by omega
        have HFW : Hid (Fleet w W n (2 * k) m X Y D (.slice (some ⟨ga, 0, none⟩) m ca) (.slice (some ⟨gr, 0, none⟩) m cr)) := hFW
        have hm5 : (m : Int) ≤ 5 := by have := hFW.m5; omega
        clear hpa hpr hFW
        unfold ptr at hpa' hpr'
        go_upto_region 16 with fail
        go_cut [12, 13] (fun t12 t13 w' => t12 = .pointer (some ⟨(X kk).p, 0, none⟩) ∧ t13 = .pointer (some ⟨(Y kk).p, 0, none⟩) ∧ Fleet w w' n (2 * k) m X Y D (.slice (some ⟨ga, 0, none⟩) m ca) (.slice (some ⟨gr, 0, none⟩) m cr) ∧ w'.heap[gx]? = some (.cells (calV kind who ci after e torn short bb (.slice adk kl.length ck)) 48 (0, 0)))
        case first =>
          go_quiet (fail)
          go_wp2
          go_meet
          exact ⟨rfl, rfl, HFW.out.below ⟨rfl, rfl, rfl, Nat.le_refl _, fun _ _ => rfl⟩, hbox⟩
        case rest =>
          obtain ⟨rfl, rfl, hF1, hbox1⟩ := hcut
          obtain ⟨z0, -⟩ := cal_cells9 hbox1
          clear k0' k1' k2' k3' k4' k5' k6' k7' k8' hpa' hpr' hbox
          have HF1 : Hid (Fleet w wc n (2 * k) m X Y D (.slice (some ⟨ga, 0, none⟩) m ca) (.slice (some ⟨gr, 0, none⟩) m cr)) := hF1
          clear hF1
          generalize wc = W1 at *
          obtain ⟨cp, hcp⟩ : ∃ cp : Bool, cp = decide (kind = 7 ∧ (m : Int) < 5) := ⟨_, rfl⟩
          have HCP : Hid (cp = decide (kind = 7 ∧ (m : Int) < 5)) := hcp
          clear hcp
          go_upto_region 17 with fail
          go_cut [88] (fun t88 w' => t88 = .bool cp ∧ w' = W1)
          case first =>
            by_cases hk7 : kind = 7
            · by_cases hm4 : (m : Int) < 5
              · obtain rfl : cp = true := by rw [HCP.out]; exact decide_eq_true ⟨hk7, hm4⟩
                clear HCP
                go_wp2
                go_meet
                exact ⟨rfl, rfl⟩
              · obtain rfl : cp = false := by rw [HCP.out]; exact decide_eq_false (fun h => hm4 h.2)
                clear HCP
                go_wp2
                go_meet
                exact ⟨rfl, rfl⟩
            · obtain rfl : cp = false := by rw [HCP.out]; exact decide_eq_false (fun h => hk7 h.1)
              clear HCP
              go_wp2
              go_meet
              exact ⟨rfl, rfl⟩
          case rest =>
          obtain ⟨rfl, hww⟩ := hcut
          rw [hww]
          clear hww wc
          go_upto_if 88 with fail
          go_cut [7, 8, 12] (fun t7 t8 t12 w' => ∃ (m' : Nat) (X' : Nat → Pl) (Y' : Nat → RPl) (D' : Nat → Dk.Dev) (jx : Nat), Fleet w w' n (2 * k) m' X' Y' D' t7 t8 ∧ jx < m' ∧ kk < m' ∧ t12 = .pointer (some ⟨(X' jx).p, 0, none⟩) ∧ (Y' kk).p = (Y kk).p ∧ D' jx = D' kk ∧ (jx = kk ∨ kind = 7) ∧ w'.heap[gx]? = some (.cells (calV kind who ci after e torn short bb (.slice adk kl.length ck)) 48 (0, 0)))
          case first =>
            cases cp with
            | true =>
              have hk7m := of_decide_eq_true HCP.out.symm
              obtain ⟨hk7, hm4⟩ := hk7m
              subst hk7
              have hA := Copy_any W1 (X kk) (2 * k) (D kk) (HF1.out.hx kk hkk)
              obtain ⟨i23, hi23, hz0, hz1, hz2⟩ := info_parts info23
              obtain ⟨i44, hi44, hy0, hy1, hy2⟩ := info_parts info44
              unfold ptr at hA
              go_wp2_with fail
              refine hA.mono ?_
              rintro r w2 ⟨x', rfl, hxn, hx', hb2⟩
              have hra : (w2.alloc (.cells #[.pointer (some ⟨x'.p, 0, none⟩)] 23)).ownsRow w.heap.size 23 1 (.slice (some ⟨ga, 0, none⟩) m ca) m ((List.range m).map fun i => ptr (X i).p) := (HF1.out.below (hb2.alloc hb2.size _)).ra
              have hnews : ∀ j u, [ptr x'.p][j]? = some u → (w2.alloc (.cells #[.pointer (some ⟨x'.p, 0, none⟩)] 23)).cell? ((⟨w2.heap.size, 0, none⟩ : Addr).add j) = some u := World.news_of_block (heap_alloc_new w2 _)
              have hws : w.heap.size ≤ w2.heap.size := Nat.le_trans HF1.out.be.size hb2.size
              clear hA
              go_wp2_with (at_builtin; go_must (refine wpList_append_own _ rfl (.tmp 89) (.tmp 92) 43 rfl w.heap.size 23 i23 (.pointer none) 1 8 Try.underlying43 hi23 hz0 hz1 hz2 rfl (by decide) _ m _ rfl hra ⟨w2.heap.size, 0, none⟩ 1 1 [ptr x'.p] rfl rfl hnews (by intro u hu; simp only [List.mem_singleton] at hu; rw [hu]; rfl) (by unfold maxLen; omega) (by omega) (by simp; omega) ?_))
              intro va' w3 hr3 hg3 _
              obtain ⟨hy3, hrr3, hs3⟩ := HF1.out.copyY hkk hb2 hg3
              have hbox3 := box_step hra (by decide) hg3 hb2 hbox1
              have hB := RCopy_any w3 (Y kk) (D kk) hy3 (by have := HF1.out.fl kk hkk; omega)
              unfold ptr at hB
              clear hra hnews
              go_wp2_with fail
              refine hB.mono ?_
              rintro r w4 ⟨y', rfl, hyn, hy', hyf, hb4⟩
              have hrr : (w4.alloc (.cells #[.pointer (some ⟨y'.p, 0, none⟩)] 44)).ownsRow w.heap.size 44 1 (.slice (some ⟨gr, 0, none⟩) m cr) m ((List.range m).map fun i => ptr (Y i).p) := row_keep hrr3 fun q hq => (hb4.alloc hb4.size (.cells #[.pointer (some ⟨y'.p, 0, none⟩)] 44)).block q (World.ownsRow.lt hrr3 q hq).2
              have hnews : ∀ j u, [ptr y'.p][j]? = some u → (w4.alloc (.cells #[.pointer (some ⟨y'.p, 0, none⟩)] 44)).cell? ((⟨w4.heap.size, 0, none⟩ : Addr).add j) = some u := World.news_of_block (heap_alloc_new w4 _)
              have hws4 : w.heap.size ≤ w4.heap.size := Nat.le_trans hs3 hb4.size
              clear hB
              go_wp2_with (at_builtin; go_must (refine wpList_append_own _ rfl (.tmp 94) (.tmp 97) 46 rfl w.heap.size 44 i44 (.pointer none) 1 8 Try.underlying46 hi44 hy0 hy1 hy2 rfl (by decide) _ m _ rfl hrr ⟨w4.heap.size, 0, none⟩ 1 1 [ptr y'.p] rfl rfl hnews (by intro u hu; simp only [List.mem_singleton] at hu; rw [hu]; rfl) (by unfold maxLen; omega) (by omega) (by simp; omega) ?_))
              intro vr' w5 hr5 hg5 _
              have hbox5 := box_step hrr (by decide) hg5 hb4 hbox3
              have hF5 := HF1.out.copy (by omega) hkk hxn hx' hb2 hr3 hg3 hyn hy' hyf hb4 hr5 hg5
              obtain ⟨ga5, ca5, hva, hpa5⟩ := row_at hF5.ra hF5.m0
              subst hva
              have hlast := hpa5 m (by omega)
              have hmm : IntKind.i64.wrap (((m + 1 : Nat) : Int) - 1) = (m : Int) := by rw [IntKind.wrap_i64]; omega
              have hmi0 : (0 : Int) ≤ (m : Int) := by omega
              have hmi1 : (m : Int) < ((m + 1 : Nat) : Int) := by omega
              rw [grow_new] at hlast
              unfold ptr at hlast
              clear hrr hnews hr3 hr5 hg3 hg5 hpa5 hx' hy' hy3 hrr3
              go_wp2
              go_meet
              exact ⟨m + 1, _, _, _, m, hF5, by omega, by omega, by rw [grow_new], by rw [grow_old Y y' hkk], by rw [grow_new, grow_old D (D kk) hkk], by simp, hbox5⟩
            | false =>
              go_wp2
              go_meet
              exact ⟨m, X, Y, D, kk, HF1.out, hkk, hkk, rfl, rfl, rfl, .inl rfl, hbox1⟩
          case rest =>
            obtain ⟨m', X', Y', D', jx, hF2, hjx, hkk', rfl, hyp, hDD, hor, hbox2⟩ := hcut
            have hN : 2 * k ≤ 100000 := by omega
            have hAns : ∀ W, (W = wc ∨ W = wc.drew) → Calls Try.prog 24 #[ptr (X' jx).p, ptr (Y' kk).p, .agg (calV kind who ci after e torn short bb (.slice adk kl.length ck))] W fun r w' => r = .returned (.bool true) ∧ ∃ Y2 D2, Fleet w w' n (2 * k + 2) m' X' Y2 D2 u7 u8 ∧ (Y2 kk).p = (Y' kk).p ∧ D2 jx = D2 kk ∧ w'.heap[gx]? = some (.cells (calV kind who ci after e torn short bb (.slice adk kl.length ck)) 48 (0, 0)) := by
              intro W hW
              have hF3 : Fleet w W n (2 * k) m' X' Y' D' u7 u8 := by
                rcases hW with rfl | rfl
                · exact hF2
                · exact hF2.below ⟨rfl, rfl, rfl, Nat.le_refl _, fun _ _ => rfl⟩
              have hbox3 : W.heap[gx]? = some (.cells (calV kind who ci after e torn short bb (.slice adk kl.length ck)) 48 (0, 0)) := by
                rcases hW with rfl | rfl
                · exact hbox2
                · exact hbox2
              have hbol : Bols W W.heap.size (.slice adk kl.length ck) kl := (hvk.turn (Nat.le_refl _) (Turn.of_below hF3.be) (by simp)).mono hF3.be.size
              rcases hor with rfl | rfl
              · refine (answers_any W (X' jx) (Y' jx) (2 * k) (D' jx) (hF3.hx jx hjx) (hF3.hy jx hjx) hN (hF3.fl jx hjx) kind who ci after e torn short bb _ kl hbol hvl ?_ ?_).mono ?_
                · intro hne q hq hm
                  have h1 := hF3.nx jx hjx q hm
                  have h2 := bols_lt hvk hne hq
                  omega
                · intro hne q hq hm
                  have h1 := hF3.ny jx hjx q hm
                  have h2 := bols_lt hvk hne hq
                  omega
                · rintro r w' ⟨rfl, hans⟩
                  rw [hF3.ln jx hjx] at hans
                  obtain ⟨y2, d2, hF4, hy2⟩ := hF3.ans hjx hans
                  refine ⟨rfl, _, _, hF4, by simp only [if_true]; exact hy2, rfl, ?_⟩
                  obtain ⟨y9, d9, -, -, -, -, ht9⟩ := hans
                  refine (ht9.block gx (lt_of_heap hbox3) (fun hm => ?_)).trans hbox3
                  rcases List.mem_append.1 hm with hm | hm
                  · exact (hF3.hx jx hjx).not_inT hbox3 (by decide) (by decide) hm
                  · exact (hF3.hy jx hjx).m.not_in hbox3 (by decide) hm
              · have hk7 := ans_seven W (X' jx) (Y' kk) (2 * k) (D' kk) (by rw [← hDD]; exact hF3.hx jx hjx) (hF3.hy kk hkk') hN who ci after e torn short bb (.slice adk kl.length ck)
                refine hk7.mono ?_
                rintro r w' ⟨rfl, hb'⟩
                exact ⟨rfl, Y', D', (hF3.below hb').mono (by omega), rfl, hDD, (hb'.block gx (lt_of_heap hbox3)).trans hbox3⟩
            have HBX : Hid (∀ W : World, W.heap[gx]? = some (.cells (calV kind who ci after e torn short bb (.slice adk kl.length ck)) 48 (0, 0)) → W.cell? ⟨gx, 0, none⟩ = some (.int .i64 kind) ∧ W.cell? ⟨gx, 1, none⟩ = some (.int .i64 who) ∧ W.cell? ⟨gx, 2, none⟩ = some (.int .i64 ci) ∧ W.cell? ⟨gx, 3, none⟩ = some (.int .i64 after) ∧ W.cell? ⟨gx, 4, none⟩ = some (.int .i64 e) ∧ W.cell? ⟨gx, 5, none⟩ = some (.int .i64 torn) ∧ W.cell? ⟨gx, 6, none⟩ = some (.int .i64 short) ∧ W.cell? ⟨gx, 7, none⟩ = some (.int .u8 (bb.toNat : Int)) ∧ W.cell? ⟨gx, 8, none⟩ = some (.slice adk kl.length ck)) := fun W h => cal_cells9 h
            rw [hyp] at hAns
            unfold ptr calV at hAns
            have HF2 : Hid (Fleet w wc n (2 * k) m' X' Y' D' u7 u8) := hF2
            have HYP : Hid ((Y' kk).p = (Y kk).p) := hyp
            clear hF2 hor hyp hDD z0
            go_wp2_with fail
            refine wp_region_held_drew (S := fun (W : World) => W.cell? ⟨gx, 0, none⟩ = some (.int .i64 kind) ∧ W.cell? ⟨gx, 1, none⟩ = some (.int .i64 who) ∧ W.cell? ⟨gx, 2, none⟩ = some (.int .i64 ci) ∧ W.cell? ⟨gx, 3, none⟩ = some (.int .i64 after) ∧ W.cell? ⟨gx, 4, none⟩ = some (.int .i64 e) ∧ W.cell? ⟨gx, 5, none⟩ = some (.int .i64 torn) ∧ W.cell? ⟨gx, 6, none⟩ = some (.int .i64 short) ∧ W.cell? ⟨gx, 7, none⟩ = some (.int .u8 (bb.toNat : Int)) ∧ W.cell? ⟨gx, 8, none⟩ = some (.slice adk kl.length ck)) (by kernel_rfl) (HBX.out _ hbox2) (fun hHeld => ?_)
            refine wpAnyH_take (i := 0) (v := ?_) rfl (by kernel_rfl) (by kernel_rfl) (by kernel_rfl) (fun _ _ _ h => h) (Or.inl ⟨by rfl, ?_⟩) (hHeld) ?_
            rotate_left
            · (intro w hSw; (try dsimp only at hSw); ((go_simp) <;> (with_reducible rfl)))
            try simp only [Act.put, List.setIfInBounds_toArray]
            refine wpAnyH_take (i := 1) (v := ?_) rfl (by kernel_rfl) (by kernel_rfl) (by kernel_rfl) (fun _ _ _ h => h) (Or.inl ⟨by rfl, ?_⟩) (hHeld) ?_
            rotate_left
            · (intro w hSw; (try dsimp only at hSw); ((go_simp) <;> (with_reducible rfl)))
            try simp only [Act.put]
            refine wpAnyH_take (i := 2) (v := ?_) rfl (by kernel_rfl) (by kernel_rfl) (by kernel_rfl) (fun _ _ _ h => h) (Or.inl ⟨by rfl, ?_⟩) (hHeld) ?_
            rotate_left
            · (intro w hSw; (try dsimp only at hSw); ((go_simp) <;> (with_reducible rfl)))
            try simp only [Act.put]
            refine wpAnyH_ready (rs := [3]) (by kernel_rfl) (by simp) ?_
            refine AllReadyH.cons rfl (fun K hK => ?_) AllReadyH.nil
            go_simp
            refine (hAns _ (by first | exact .inl rfl | exact .inr rfl)).mono ?_
            rintro r w3 ⟨rfl, Y2, D2, hF3, hyq3, hD3, hbox3⟩
            try go_wp2_with fail
            refine hK.out _ _ (HBX.out _ hbox3) (fun hHeld => ?_)
            clear hK K
            try simp only [Act.put, List.setIfInBounds_toArray, List.set_cons_zero, List.set_cons_succ]
            have hx3 := hF3.hx jx hjx
            have hy3 := hF3.hy kk hkk'
            rw [hD3] at hx3
            have hln3 := hF3.ln kk hkk'
            obtain ⟨-, -, -, hc3, -, -, -⟩ := hy3.m.cells
            rw [hyq3] at hc3
            have hOps := Ops_any w3 (X' jx) _ _ hx3
            have hSize := Size_any w3 (X' jx) _ _ hx3
            rw [hln3] at hSize
            have hDirt := Dirty_any w3 (X' jx) _ _ hx3 (by omega)
            unfold ptr at hOps hSize hDirt
            have HF3 : Hid (Fleet w w3 n (2 * k + 2) m' X' Y2 D2 u7 u8) := hF3
            have HLN : Hid ((D2 kk).st.length = n) := hln3
            clear hx3 hy3 hF3 hln3 hAns
            generalize hopv : ((D2 kk).op : Int) = opv at *
            clear hopv
            refine wpAnyH_weaken (T := fun (W : World) => (W.cell? ⟨gx, 0, none⟩ = some (.int .i64 kind) ∧ W.cell? ⟨gx, 1, none⟩ = some (.int .i64 who) ∧ W.cell? ⟨gx, 2, none⟩ = some (.int .i64 ci) ∧ W.cell? ⟨gx, 3, none⟩ = some (.int .i64 after) ∧ W.cell? ⟨gx, 4, none⟩ = some (.int .i64 e) ∧ W.cell? ⟨gx, 5, none⟩ = some (.int .i64 torn) ∧ W.cell? ⟨gx, 6, none⟩ = some (.int .i64 short) ∧ W.cell? ⟨gx, 7, none⟩ = some (.int .u8 (bb.toNat : Int)) ∧ W.cell? ⟨gx, 8, none⟩ = some (.slice adk kl.length ck)) ∧ W.cell? ⟨(Y kk).p, 3, none⟩ = some (.int .i64 opv)) (fun _ h => h.1) _ _ _ _ ?_
            have hT3 : (w3.cell? ⟨gx, 0, none⟩ = some (.int .i64 kind) ∧ w3.cell? ⟨gx, 1, none⟩ = some (.int .i64 who) ∧ w3.cell? ⟨gx, 2, none⟩ = some (.int .i64 ci) ∧ w3.cell? ⟨gx, 3, none⟩ = some (.int .i64 after) ∧ w3.cell? ⟨gx, 4, none⟩ = some (.int .i64 e) ∧ w3.cell? ⟨gx, 5, none⟩ = some (.int .i64 torn) ∧ w3.cell? ⟨gx, 6, none⟩ = some (.int .i64 short) ∧ w3.cell? ⟨gx, 7, none⟩ = some (.int .u8 (bb.toNat : Int)) ∧ w3.cell? ⟨gx, 8, none⟩ = some (.slice adk kl.length ck)) ∧ w3.cell? ⟨(Y kk).p, 3, none⟩ = some (.int .i64 opv) := ⟨hHeld, hc3⟩
            clear hHeld
            refine wpAnyH_take (i := 4) (v := ?_) rfl (by kernel_rfl) (by kernel_rfl) (by kernel_rfl) (fun _ _ _ h => h) (Or.inl ⟨by rfl, ?_⟩) (hT3) ?_
            rotate_left
            · (intro w hSw; (try dsimp only at hSw); ((go_simp) <;> (with_reducible rfl)))
            try simp only [Act.put, List.setIfInBounds_toArray]
            refine wpAnyH_take (i := 5) (v := ?_) rfl (by kernel_rfl) (by kernel_rfl) (by kernel_rfl) (fun _ _ _ h => h) (Or.inl ⟨by rfl, ?_⟩) (hT3) ?_
            rotate_left
            · (intro w hSw; (try dsimp only at hSw); ((go_simp) <;> (with_reducible rfl)))
            try simp only [Act.put]
            refine wpAnyH_take (i := 6) (v := ?_) rfl (by kernel_rfl) (by kernel_rfl) (by kernel_rfl) (fun _ _ _ h => h) (Or.inl ⟨by rfl, ?_⟩) (hT3) ?_
            rotate_left
            · (intro w hSw; (try dsimp only at hSw); ((go_simp) <;> (with_reducible rfl)))
            try simp only [Act.put]
            refine wpAnyH_take (i := 8) (v := ?_) rfl (by kernel_rfl) (by kernel_rfl) (by kernel_rfl) (fun _ _ _ h => h) (Or.inl ⟨by rfl, ?_⟩) (hT3) ?_
            rotate_left
            · (intro w hSw; (try dsimp only at hSw); ((go_simp) <;> (with_reducible rfl)))
            try simp only [Act.put]
            refine wpAnyH_take (i := 9) (v := ?_) rfl (by kernel_rfl) (by kernel_rfl) (by kernel_rfl) (fun _ _ _ h => h) (Or.inl ⟨by rfl, ?_⟩) (hT3) ?_
            rotate_left
            · (intro w hSw; (try dsimp only at hSw); ((go_simp) <;> (with_reducible rfl)))
            try simp only [Act.put]
            refine wpAnyH_take (i := 10) (v := ?_) rfl (by kernel_rfl) (by kernel_rfl) (by kernel_rfl) (fun _ _ _ h => h) (Or.inl ⟨by rfl, ?_⟩) (hT3) ?_
            rotate_left
            · (intro w hSw; (try dsimp only at hSw); ((go_simp) <;> (with_reducible rfl)))
            try simp only [Act.put]
            refine wpAnyH_take (i := 11) (v := ?_) rfl (by kernel_rfl) (by kernel_rfl) (by kernel_rfl) (fun _ _ _ h => h) (Or.inl ⟨by rfl, ?_⟩) (hT3) ?_
            rotate_left
            · (intro w hSw; (try dsimp only at hSw); ((go_simp) <;> (with_reducible rfl)))
            try simp only [Act.put]
            refine wpAnyH_ready (rs := [7]) (by kernel_rfl) (by simp) ?_
            refine AllReadyH.cons rfl (fun K hK => ?_) AllReadyH.nil
            go_simp
            refine hOps.mono ?_
            rintro r w9 ⟨rfl, hw9⟩
            rw [hw9]
            try go_wp2_with fail
            refine hK.out _ _ (hT3) (fun hHeld => ?_)
            clear hK K
            try simp only [Act.put, List.setIfInBounds_toArray, List.set_cons_zero, List.set_cons_succ]
            refine wpAnyH_take (i := 12) (v := ?_) rfl (by kernel_rfl) (by kernel_rfl) (by kernel_rfl) (fun _ _ _ h => h) (Or.inl ⟨by rfl, ?_⟩) (hT3) ?_
            rotate_left
            · (intro w hSw; (try dsimp only at hSw); ((go_simp) <;> (with_reducible rfl)))
            try simp only [Act.put, List.setIfInBounds_toArray]
            refine wpAnyH_take (i := 13) (v := ?_) rfl (by kernel_rfl) (by kernel_rfl) (by kernel_rfl) (fun _ _ _ h => h) (Or.inl ⟨by rfl, ?_⟩) (hT3) ?_
            rotate_left
            · (intro w hSw; (try dsimp only at hSw); ((go_simp) <;> (with_reducible rfl)))
            try simp only [Act.put]
            refine wpAnyH_take (i := 14) (v := ?_) rfl (by kernel_rfl) (by kernel_rfl) (by kernel_rfl) (fun _ _ _ h => h) (Or.inl ⟨by rfl, ?_⟩) (hT3) ?_
            rotate_left
            · (intro w hSw; (try dsimp only at hSw); ((go_simp) <;> (with_reducible rfl)))
            try simp only [Act.put]
            refine wpAnyH_take (i := 15) (v := ?_) rfl (by kernel_rfl) (by kernel_rfl) (by kernel_rfl) (fun _ _ _ h => h) (Or.inl ⟨by rfl, ?_⟩) (hT3) ?_
            rotate_left
            · (intro w hSw; (try dsimp only at hSw); ((go_simp) <;> (with_reducible rfl)))
            try simp only [Act.put]
            refine wpAnyH_take (i := 17) (v := ?_) rfl (by kernel_rfl) (by kernel_rfl) (by kernel_rfl) (fun _ _ _ h => h) (Or.inl ⟨by rfl, ?_⟩) (hT3) ?_
            rotate_left
            · (intro w hSw; (try dsimp only at hSw); ((go_simp) <;> (with_reducible rfl)))
            try simp only [Act.put]
            refine wpAnyH_ready (rs := [16]) (by kernel_rfl) (by simp) ?_
            refine AllReadyH.cons rfl (fun K hK => ?_) AllReadyH.nil
            go_simp
            refine hSize.mono ?_
            rintro r w9 ⟨rfl, hw9⟩
            rw [hw9]
            try go_wp2_with fail
            refine hK.out _ _ (hT3) (fun hHeld => ?_)
            clear hK K
            try simp only [Act.put, List.setIfInBounds_toArray, List.set_cons_zero, List.set_cons_succ]
            refine wpAnyH_take (i := 18) (v := ?_) rfl (by kernel_rfl) (by kernel_rfl) (by kernel_rfl) (fun _ _ _ h => h) (Or.inl ⟨by rfl, ?_⟩) (hT3) ?_
            rotate_left
            · (intro w hSw; (try dsimp only at hSw); ((go_simp) <;> (with_reducible rfl)))
            try simp only [Act.put, List.setIfInBounds_toArray]
            refine wpAnyH_take (i := 19) (v := ?_) rfl (by kernel_rfl) (by kernel_rfl) (by kernel_rfl) (fun _ _ _ h => h) (Or.inl ⟨by rfl, ?_⟩) (hT3) ?_
            rotate_left
            · (intro w hSw; (try dsimp only at hSw); ((go_simp) <;> (with_reducible rfl)))
            try simp only [Act.put]
            refine wpAnyH_take (i := 20) (v := ?_) rfl (by kernel_rfl) (by kernel_rfl) (by kernel_rfl) (fun _ _ _ h => h) (Or.inl ⟨by rfl, ?_⟩) (hT3) ?_
            rotate_left
            · (intro w hSw; (try dsimp only at hSw); ((go_simp) <;> (with_reducible rfl)))
            try simp only [Act.put]
            refine wpAnyH_take (i := 21) (v := ?_) rfl (by kernel_rfl) (by kernel_rfl) (by kernel_rfl) (fun _ _ _ h => h) (Or.inl ⟨by rfl, ?_⟩) (hT3) ?_
            rotate_left
            · (intro w hSw; (try dsimp only at hSw); ((go_simp) <;> (with_reducible rfl)))
            try simp only [Act.put]
            refine wpAnyH_take (i := 23) (v := ?_) rfl (by kernel_rfl) (by kernel_rfl) (by kernel_rfl) (fun _ _ _ h => h) (Or.inl ⟨by rfl, ?_⟩) (hT3) ?_
            rotate_left
            · (intro w hSw; (try dsimp only at hSw); ((go_simp) <;> (with_reducible rfl)))
            try simp only [Act.put]
            refine wpAnyH_ready (rs := [22]) (by kernel_rfl) (by simp) ?_
            refine AllReadyH.cons rfl (fun K hK => ?_) AllReadyH.nil
            go_simp
            refine hDirt.mono ?_
            rintro r w4 ⟨v4, rfl, hI4, hb4⟩
            have hbox4 : w4.heap[gx]? = some (.cells (calV kind who ci after e torn short bb (.slice adk kl.length ck)) 48 (0, 0)) := (hb4.block gx (lt_of_heap hbox3)).trans hbox3
            have hF4 := HF3.out.below hb4
            have hplt3 : (Y kk).p < w3.heap.size := by rw [← hyq3]; exact lt_of_heap (HF3.out.hy kk hkk').m.hp
            have hT4 : (∀ W : World, W = w4 → (W.cell? ⟨gx, 0, none⟩ = some (.int .i64 kind) ∧ W.cell? ⟨gx, 1, none⟩ = some (.int .i64 who) ∧ W.cell? ⟨gx, 2, none⟩ = some (.int .i64 ci) ∧ W.cell? ⟨gx, 3, none⟩ = some (.int .i64 after) ∧ W.cell? ⟨gx, 4, none⟩ = some (.int .i64 e) ∧ W.cell? ⟨gx, 5, none⟩ = some (.int .i64 torn) ∧ W.cell? ⟨gx, 6, none⟩ = some (.int .i64 short) ∧ W.cell? ⟨gx, 7, none⟩ = some (.int .u8 (bb.toNat : Int)) ∧ W.cell? ⟨gx, 8, none⟩ = some (.slice adk kl.length ck)) ∧ W.cell? ⟨(Y kk).p, 3, none⟩ = some (.int .i64 opv)) := fun W e => by rw [e]; exact ⟨HBX.out _ hbox4, (hb4.cell (p := ⟨(Y kk).p, 3, none⟩) hplt3).trans hc3⟩
            have hRD := RDirty_any w4 (Y2 kk) _ _ _ _ (hF4.hy kk hkk').m (by rw [HLN.out]; omega)
            rw [gath_dlI, hyq3] at hRD
            unfold ptr at hRD
            try go_wp2_with fail
            refine hK.out _ _ (hT4 _ rfl) (fun hHeld => ?_)
            clear hK K
            try simp only [Act.put, List.setIfInBounds_toArray, List.set_cons_zero, List.set_cons_succ]
            refine wpAnyH_ready (rs := [24]) (by kernel_rfl) (by simp) ?_
            refine AllReadyH.cons rfl (fun K hK => ?_) AllReadyH.nil
            go_simp
            refine hRD.mono ?_
            rintro r w5 ⟨v5, rfl, hI5, hb5⟩
            have hbox5 : w5.heap[gx]? = some (.cells (calV kind who ci after e torn short bb (.slice adk kl.length ck)) 48 (0, 0)) := (hb5.block gx (lt_of_heap hbox4)).trans hbox4
            have hF5 := hF4.below hb5
            have hT5 : (∀ W : World, W = w5 → (W.cell? ⟨gx, 0, none⟩ = some (.int .i64 kind) ∧ W.cell? ⟨gx, 1, none⟩ = some (.int .i64 who) ∧ W.cell? ⟨gx, 2, none⟩ = some (.int .i64 ci) ∧ W.cell? ⟨gx, 3, none⟩ = some (.int .i64 after) ∧ W.cell? ⟨gx, 4, none⟩ = some (.int .i64 e) ∧ W.cell? ⟨gx, 5, none⟩ = some (.int .i64 torn) ∧ W.cell? ⟨gx, 6, none⟩ = some (.int .i64 short) ∧ W.cell? ⟨gx, 7, none⟩ = some (.int .u8 (bb.toNat : Int)) ∧ W.cell? ⟨gx, 8, none⟩ = some (.slice adk kl.length ck)) ∧ W.cell? ⟨(Y kk).p, 3, none⟩ = some (.int .i64 opv)) := fun W e => by rw [e]; exact ⟨HBX.out _ hbox5, (hb5.cell (p := ⟨(Y kk).p, 3, none⟩) (Nat.lt_of_lt_of_le hplt3 hb4.size)).trans (hT4 _ rfl).2⟩
            have hEq := EqualI_any v4 v5 _ _ _ _ w5 (hI4.ints.below hb5 (Nat.le_refl _)) hI5.ints (dlI_len (D2 kk) (by rw [HLN.out]; omega))
            rw [decide_eq_true rfl] at hEq
            try go_wp2_with fail
            refine hK.out _ _ (hT5 _ rfl) (fun hHeld => ?_)
            clear hK K
            try simp only [Act.put, List.setIfInBounds_toArray, List.set_cons_zero, List.set_cons_succ]
            refine wpAnyH_ready (rs := [25]) (by kernel_rfl) (by simp) ?_
            refine AllReadyH.cons rfl (fun K hK => ?_) AllReadyH.nil
            go_simp
            refine hEq.mono ?_
            rintro r w6 ⟨rfl, q6, hw6⟩
            rw [hw6]
            try go_wp2_with fail
            refine hK.out _ _ (hT5 w5 rfl) (fun hHeld => ?_)
            clear hK K
            try simp only [Act.put, List.setIfInBounds_toArray, List.set_cons_zero, List.set_cons_succ]
            refine wpAnyH_take (i := 26) (v := ?_) rfl (by kernel_rfl) (by kernel_rfl) (by kernel_rfl) (fun _ _ _ h => h) (Or.inl ⟨by rfl, ?_⟩) (hT5 w5 rfl) ?_
            rotate_left
            · (intro w hSw; (try dsimp only at hSw); ((go_simp) <;> (with_reducible rfl)))
            try simp only [Act.put, List.setIfInBounds_toArray]
            refine wpAnyH_take (i := 27) (v := ?_) rfl (by kernel_rfl) (by kernel_rfl) (by kernel_rfl) (fun _ _ _ h => h) (Or.inl ⟨by rfl, ?_⟩) (hT5 w5 rfl) ?_
            rotate_left
            · (intro w hSw; (try dsimp only at hSw); ((go_simp) <;> (with_reducible rfl)))
            try simp only [Act.put]
            refine wpAnyH_done (by kernel_rfl) ?_ _
            have hFn : Fleet w (w5.drewN q6) n (2 * (k + 1)) m' X' Y2 D2 u7 u8 := (Fleet.below (w' := w5.drewN q6) hF5 ⟨rfl, rfl, rfl, Nat.le_refl _, fun _ _ => rfl⟩).mono (N' := 2 * (k + 1)) (by omega)
            clear hF5 hF4 hI4 hI5 hT5 hT4 hEq hRD
            go_wp2
            go_roundw
            case rel => exact ⟨k + 1, m', X', Y2, D2, by omega, by go_num, hFn⟩
            case measure => simp [RowKit.intOf]; omega
    · obtain rfl : k = cl.length := by omega
      obtain ⟨ga, ca, rfl, -⟩ := row_at hF.ra hF.m0
      obtain ⟨gr, cr, rfl, -⟩ := row_at hF.rr hF.m0
      obtain ⟨NN, hNN⟩ : ∃ NN, 2 * cl.length = NN := ⟨_, rfl⟩
      rw [hNN] at hF
      have HF : Hid (Fleet w wr n NN m X Y D (.slice (some ⟨ga, 0, none⟩) m ca) (.slice (some ⟨gr, 0, none⟩) m cr)) := hF
      clear hF hNN
      go_wp2
      go_loopw [138] (fun t138 wq => ∃ i : Nat, i ≤ m ∧ t138 = .int .i64 (i : Int) ∧ Fleet w wq n NN m X Y D (.slice (some ⟨ga, 0, none⟩) m ca) (.slice (some ⟨gr, 0, none⟩) m cr)) (fun t138 _ => m - (RowKit.intOf t138).toNat)
      case atStart => exact ⟨0, Nat.zero_le _, rfl, HF.out⟩
      case round =>
        clear HF
        obtain ⟨i, him, rfl, hF⟩ := hrel
        by_cases hil : i < m
        · obtain ⟨ga', ca', he1, hpa⟩ := row_at hF.ra hF.m0
          obtain ⟨rfl, rfl⟩ : ga = ga' ∧ ca = ca' := by simpa using he1
          have hpi := hpa i hil
          have hi0 : (0 : Int) ≤ (i : Int) := by omega
          have hi1 : (i : Int) < (m : Int) := by omega
          have HF : Hid (Fleet w wr n NN m X Y D (.slice (some ⟨ga, 0, none⟩) m ca) (.slice (some ⟨gr, 0, none⟩) m cr)) := hF
          unfold ptr at hpi
          clear hpa he1 hF
          go_wp2
          go_loopw [144] (fun t144 wq => ∃ j : Nat, j ≤ n ∧ t144 = .int .i64 (j : Int) ∧ Fleet w wq n NN m X Y D (.slice (some ⟨ga, 0, none⟩) m ca) (.slice (some ⟨gr, 0, none⟩) m cr)) (fun t144 _ => n - (RowKit.intOf t144).toNat)
          case atStart => exact ⟨0, Nat.zero_le _, rfl, HF.out⟩
          case round =>
            clear HF hpi
            obtain ⟨j, hjn, rfl, hF⟩ := hrel
            by_cases hjl : j < n
            · have hjd : j < (D i).st.length := by rw [hF.ln i hil]; exact hjl
              have hS := Stable_ok wr (X i) NN (D i) (hF.hx i hil) j hjd
              have HL : Hid (List.length ((D i).stab j) = 256) := (hF.hx i hil).ok.len j hjd
              have hj0 : (0 : Int) ≤ (j : Int) := by omega
              have hj1 : (j : Int) < (n : Int) := by omega
              unfold ptr at hS
              go_wp2_with fail
              refine hS.mono ?_
              rintro r w2 ⟨v, rfl, hv, hb2⟩
              obtain ⟨g, c, rfl, hgb, hRg⟩ : ∃ g c, v = .slice (some ⟨g, 0, none⟩) 256 c ∧ wr.heap.size ≤ g ∧ RB w2 g c ((D i).stab j) := by
                rcases hv.2 with ⟨_, h00⟩ | ⟨g, cap, cur, rfl, hb, hg, q1, q2, q3, q4⟩
                · rw [HL.out] at h00; omega
                · rw [HL.out] at q1 q4
                  exact ⟨g, cap, by rw [HL.out], hb, cur, hg, q4, HL.out, q1⟩
              have hF2 := hF.below hb2
              have hy2 := hF2.hy i hil
              obtain ⟨gr', cr', he2, hpr⟩ := row_at hF2.rr hF2.m0
              obtain ⟨rfl, rfl⟩ : gr = gr' ∧ cr = cr' := by simpa using he2
              have hpi := hpr i hil
              obtain ⟨hc0, -⟩ := hy2.m.cells
              rw [hF2.ln i hil] at hc0
              obtain ⟨vb, hvb, hcb⟩ := hy2.m.hb.cell (i := j) hjd
              have hE := Equal_any (.slice (some ⟨g, 0, none⟩) 256 c) vb _ _ _ _ w2 hRg.byts hcb.byts
              rw [decide_eq_true rfl] at hE
              obtain ⟨gb, cb, rfl⟩ := hcb.some_slice
              have HF2 : Hid (Fleet w w2 n NN m X Y D (.slice (some ⟨ga, 0, none⟩) m ca) (.slice (some ⟨gr, 0, none⟩) m cr)) := hF2
              unfold ptr at hpi
              clear hS hv hRg hF hF2 hy2 hpr he2 hcb hb2
              go_wp2_with fail
              refine hE.mono ?_
              rintro r w9 ⟨rfl, hw9⟩
              rw [hw9]
              clear hw9 hE
              go_wp2
              go_roundw
              case rel => exact ⟨j + 1, by omega, by go_num, HF2.out⟩
              case measure => simp [RowKit.intOf]; omega
            · obtain rfl : j = n := by omega
              have HF2 : Hid (Fleet w wr j NN m X Y D (.slice (some ⟨ga, 0, none⟩) m ca) (.slice (some ⟨gr, 0, none⟩) m cr)) := hF
              have hm5 : (m : Int) ≤ 5 := by have := hF.m5; omega
              clear hF
              go_wp2
              go_roundw
              case rel => exact ⟨i + 1, by omega, by go_num, HF2.out⟩
              case measure => simp [RowKit.intOf]; omega
        · obtain rfl : i = m := by omega
          have hbe := hF.be
          clear hF
          go_wp2
          go_ret
          exact ⟨rfl, hbe⟩
end Go.Proofs.Ytccfoafcfnhejaa
