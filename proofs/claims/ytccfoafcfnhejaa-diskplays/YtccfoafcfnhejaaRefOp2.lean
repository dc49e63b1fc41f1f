/-
  The document's device: contracts that tell besides that no block of bytes of elsewhere is taken up; what is cleared elsewhere does no harm.
-/
import Derived.Test.YtccfoafcfnhejaaRefCopyK
namespace Go.Proofs.Ytccfoafcfnhejaa
open Go.RowKit

/-- no row of the document's device names the block q -/
def NoQ (w : World) (y : RPl) (n q : Nat) : Prop := ∀ i v, i < n → (w.cell? ⟨y.b, i, none⟩ = some v ∨ w.cell? ⟨y.c, i, none⟩ = some v) → v.ownBlock ≠ some q

theorem NoQ.same {w w' : World} {y : RPl} {n q : Nat} (h : NoQ w y n q) (hb : w'.heap[y.b]? = w.heap[y.b]?) (hc : w'.heap[y.c]? = w.heap[y.c]?) : NoQ w' y n q := fun i v hi hv =>
  h i v hi (by
    rw [World.cell?_of_block (a := ⟨y.b, i, none⟩) hb, World.cell?_of_block (a := ⟨y.c, i, none⟩) hc] at hv
    exact hv)
theorem NoQ.turnP {w w' : World} {y : RPl} {n m op q : Nat} {bs cs : Nat → Option Dk.Blk} (h : NoQ w y n q) (hm : RMem w y m op bs cs) (ht : Turn [y.p] w w') : NoQ w' y n q := by
  obtain ⟨e1, e2, -⟩ := hm.pne
  exact h.same (ht.block _ hm.hb.lt (by simp [e1])) (ht.block _ hm.hc.lt (by simp [e2]))
theorem Cel.apart {w : World} {v : Value} {o : Option Dk.Blk} (h : Cel w v o) {q : Nat} (hq : w.heap.size ≤ q) : v.ownBlock ≠ some q := by
  cases o with
  | none =>
    rw [show v = .slice none 0 0 from h]
    intro e; cases e
  | some X =>
    obtain ⟨g, c, rfl, hB⟩ := h
    intro e
    have hlt := hB.lt
    have : g = q := by simpa [Value.ownBlock] using e
    omega
theorem RwO.cellIs {w : World} {R n cap : Nat} {f : Nat → Option Dk.Blk} (h : RwO w R n cap f) {i : Nat} (hi : i < n) {v : Value} (hv : w.cell? ⟨R, i, none⟩ = some v) : Cel w v (f i) := by
  obtain ⟨u, hu, hc⟩ := h.cell hi
  rw [hu] at hv
  cases hv
  exact hc
theorem NoQ.start {w w' : World} {y : RPl} {n op q : Nat} {bs cs : Nat → Option Dk.Blk} (hm : RMem w y n op bs cs) (hb : w'.heap[y.b]? = w.heap[y.b]?) (hc : w'.heap[y.c]? = w.heap[y.c]?) (hq : w.heap.size ≤ q) : NoQ w' y n q := by
  refine NoQ.same (w := w) (fun i v hi hv => ?_) hb hc
  rcases hv with hv | hv
  · exact (hm.hb.cellIs hi hv).apart hq
  · exact (hm.hc.cellIs hi hv).apart hq
theorem Cel.other {w W : World} {v : Value} {o : Option Dk.Blk} {q : Nat} (h : Cel w v o) (hn : v.ownBlock ≠ some q) (hW : ∀ k, k < w.heap.size → k ≠ q → W.heap[k]? = w.heap[k]?) : Cel W v o := by
  cases o with
  | none => exact h
  | some X =>
    obtain ⟨g, c, rfl, hB⟩ := h
    have hlt := hB.lt
    obtain ⟨cur, h1, h2⟩ := hB
    exact ⟨g, c, rfl, cur, (hW g hlt (fun e => hn (by rw [e]; rfl))).trans h1, h2⟩
theorem RwO.other {w W : World} {R n cap q : Nat} {f : Nat → Option Dk.Blk} (h : RwO w R n cap f) (hR : R ≠ q) (hn : ∀ i v, i < n → w.cell? ⟨R, i, none⟩ = some v → v.ownBlock ≠ some q) (hW : ∀ k, k < w.heap.size → k ≠ q → W.heap[k]? = w.heap[k]?) : RwO W R n cap f := by
  have hlt := h.lt
  obtain ⟨cur, h1, h2, h3, h4, h5⟩ := h
  refine ⟨cur, (hW R hlt hR).trans h1, h2, h3, h4, fun i hi => ?_⟩
  obtain ⟨v, hv, hc⟩ := h5 i hi
  exact ⟨v, hv, hc.other (hn i v hi (by rw [cell_of_row w R i cur 27 (0, 0) h1]; exact hv)) hW⟩
/-- a block that no row names is turned -/
theorem RHas.other {w W : World} {y : RPl} {d : Dk.Dev} {q : Nat} (h : RHas w y d) (hn : NoQ w y d.st.length q) (hq : q ∉ y.bl) (hW : ∀ k, k < w.heap.size → k ≠ q → W.heap[k]? = w.heap[k]?) : RHas W y d := by
  have hne : ∀ k, k ∈ y.bl → k ≠ q := fun k hk e => hq (e ▸ hk)
  have hl := h.m.lt
  refine ⟨⟨(hW _ (hl _ (by simp [RPl.bl])) (hne _ (by simp [RPl.bl]))).trans h.m.hp, h.m.hb.other (hne _ (by simp [RPl.bl])) (fun i v hi hv => hn i v hi (.inl hv)) hW, h.m.hc.other (hne _ (by simp [RPl.bl])) (fun i v hi hv => hn i v hi (.inr hv)) hW, h.m.hf.of_block fun k e => hW k (hl k (by simp [RPl.bl, e])) (hne k (by simp [RPl.bl, e])), h.m.ne⟩, h.t, h.ok⟩

set_option maxRecDepth 100000 in
set_option maxHeartbeats 1000000 in
theorem operation_p (w : World) (y : RPl) (d : Dk.Dev) (h : RHas w y d) (hop : (d.op : Int) ≤ 1000000000) :
    Calls Try.prog 55 #[ptr y.p] w fun e w' => e = .returned (.int .i64 d.err) ∧ RHas w' y d.begun ∧ Turn [y.p] w w' := by
  obtain ⟨-, -, -, c3, c4, c5, fz⟩ := h.m.cells
  have hk : RHas (w.setCell ⟨y.p, 3, none⟩ (.int .i64 ((d.op : Int) + 1))) y d.begun := ⟨h.m.setF 3 _ (op' := d.op + 1) y.last y.cut (by simp [rf]), h.t.begun, Dk.begun_ok h.ok⟩
  have ht : Turn [y.p] w (w.setCell ⟨y.p, 3, none⟩ (.int .i64 ((d.op : Int) + 1))) := (Turn.refl _ w).set (fun _ => by simp) _
  obtain ⟨-, -, -, d3, d4, d5, -⟩ := hk.m.cells
  obtain ⟨ad, cf, hfv, hfl, hfc⟩ := hk.m.hf.shape
  rw [hfv] at c4 d4
  have HK : Hid (RHas (w.setCell ⟨y.p, 3, none⟩ (.int .i64 ((d.op : Int) + 1))) y d.begun) := hk
  have HT : Hid (Turn [y.p] w (w.setCell ⟨y.p, 3, none⟩ (.int .i64 ((d.op : Int) + 1)))) := ht
  have HE1 : Hid (0 ≤ y.cut → y.cut ≤ (d.op : Int) → d.err = 30) := fun a b => err_cut h.t a b
  have HE2 : Hid (y.cut < 0 ∨ (d.op : Int) < y.cut → d.err = (lastF y.fl d.op).getD 0) := fun a => err_not h.t hop a
  have HC : Hid (y.fl ≠ [] → ∃ g, ad = some ⟨g, 0, none⟩ ∧ ∀ j, j < y.fl.length → (w.setCell ⟨y.p, 3, none⟩ (.int .i64 ((d.op : Int) + 1))).cell? ⟨g, j * 2, none⟩ = some (.int .i64 (y.fl.getD j (0, 0)).1) ∧ (w.setCell ⟨y.p, 3, none⟩ (.int .i64 ((d.op : Int) + 1))).cell? ⟨g, j * 2 + 1, none⟩ = some (.int .i64 (y.fl.getD j (0, 0)).2)) := hfc
  clear hk ht h hfc hfv
  unfold ptr
  unfold maxLen at hfl
  by_cases hc0 : 0 ≤ y.cut ∧ y.cut ≤ (d.op : Int)
  · obtain ⟨h0, h1⟩ := hc0
    rw [HE1.out h0 h1]
    clear hfl
    go_enter Try.func55, Try.ntmps55
    go_wp2
    go_ret
    exact ⟨rfl, HK.out, HT.out⟩
  · have hn : y.cut < 0 ∨ (d.op : Int) < y.cut := by omega
    rw [HE2.out hn]
    clear hc0
    rcases hn with hn | hn
    · go_enter Try.func55, Try.ntmps55
      go_wp2
      go_loopw [4, 5] (fun t4 t5 wr => ∃ j : Nat, j ≤ y.fl.length ∧ t4 = .int .i64 ((lastF (y.fl.take j) d.op).getD 0) ∧ t5 = .int .i64 (j : Int) ∧ wr = w.setCell ⟨y.p, 3, none⟩ (.int .i64 ((d.op : Int) + 1))) (fun _ t5 _ => y.fl.length - (RowKit.intOf t5).toNat)
      case atStart => exact ⟨0, Nat.zero_le _, rfl, rfl, rfl⟩
      case round =>
        obtain ⟨j, hjl, rfl, rfl, rfl⟩ := hrel
        generalize w.setCell ⟨y.p, 3, none⟩ (.int .i64 ((d.op : Int) + 1)) = w1 at *
        by_cases hlt : j < y.fl.length
        · obtain ⟨g, rfl, hcells⟩ := HC.out (by intro e; rw [e] at hlt; simp at hlt)
          obtain ⟨q0, q1⟩ := hcells j hlt
          have hstep := lastF_take y.fl (d.op : Int) hlt
          generalize y.fl.getD j (0, 0) = pt at q0 q1 hstep
          obtain ⟨I, X⟩ := pt
          simp only at q0 q1 hstep
          have HS : Hid (lastF (y.fl.take (j + 1)) d.op = if I = (d.op : Int) then some X else lastF (y.fl.take j) d.op) := hstep
          clear hcells hstep
          by_cases hI : I = (d.op : Int)
          · go_wp2
            go_roundw
            case rel => exact ⟨j + 1, by omega, by rw [HS.out, if_pos hI]; rfl, by go_num, trivial⟩
            case measure => simp [RowKit.intOf]; omega
          · go_wp2
            go_roundw
            case rel => exact ⟨j + 1, by omega, by rw [HS.out, if_neg hI], by go_num, trivial⟩
            case measure => simp [RowKit.intOf]; omega
        · obtain rfl : j = y.fl.length := by omega
          rw [List.take_length]
          go_wp2
          go_ret
          exact ⟨rfl, HK.out, HT.out⟩
    · have hn2 : 0 ≤ y.cut := by omega
      go_enter Try.func55, Try.ntmps55
      go_wp2
      go_loopw [4, 5] (fun t4 t5 wr => ∃ j : Nat, j ≤ y.fl.length ∧ t4 = .int .i64 ((lastF (y.fl.take j) d.op).getD 0) ∧ t5 = .int .i64 (j : Int) ∧ wr = w.setCell ⟨y.p, 3, none⟩ (.int .i64 ((d.op : Int) + 1))) (fun _ t5 _ => y.fl.length - (RowKit.intOf t5).toNat)
      case atStart => exact ⟨0, Nat.zero_le _, rfl, rfl, rfl⟩
      case round =>
        obtain ⟨j, hjl, rfl, rfl, rfl⟩ := hrel
        generalize w.setCell ⟨y.p, 3, none⟩ (.int .i64 ((d.op : Int) + 1)) = w1 at *
        by_cases hlt : j < y.fl.length
        · obtain ⟨g, rfl, hcells⟩ := HC.out (by intro e; rw [e] at hlt; simp at hlt)
          obtain ⟨q0, q1⟩ := hcells j hlt
          have hstep := lastF_take y.fl (d.op : Int) hlt
          generalize y.fl.getD j (0, 0) = pt at q0 q1 hstep
          obtain ⟨I, X⟩ := pt
          simp only at q0 q1 hstep
          have HS : Hid (lastF (y.fl.take (j + 1)) d.op = if I = (d.op : Int) then some X else lastF (y.fl.take j) d.op) := hstep
          clear hcells hstep
          by_cases hI : I = (d.op : Int)
          · go_wp2
            go_roundw
            case rel => exact ⟨j + 1, by omega, by rw [HS.out, if_pos hI]; rfl, by go_num, trivial⟩
            case measure => simp [RowKit.intOf]; omega
          · go_wp2
            go_roundw
            case rel => exact ⟨j + 1, by omega, by rw [HS.out, if_neg hI], by go_num, trivial⟩
            case measure => simp [RowKit.intOf]; omega
        · obtain rfl : j = y.fl.length := by omega
          rw [List.take_length]
          go_wp2
          go_ret
          exact ⟨rfl, HK.out, HT.out⟩

set_option maxRecDepth 100000 in
theorem RRead_no2 (w : World) (y : RPl) (d : Dk.Dev) (h : RHas w y d) (hop : (d.op : Int) ≤ 1000000000) (i : Nat) (he : d.err ≠ 0) :
    Calls Try.prog 41 #[ptr y.p, .int .i64 (i : Int)] w fun e w' => e = .returned (.tuple #[.slice none 0 0, .int .i64 d.err]) ∧ RHas w' y d.begun ∧ Turn [y.p] w w' := by
  have hO := operation_p w y d h hop
  unfold ptr at *
  generalize d.err = er at *
  go_enter Try.func41, Try.ntmps41
  go_wp2_with fail
  refine hO.mono ?_
  rintro r w1 ⟨rfl, hk, ht⟩
  go_wp2
  go_ret2
  exact ⟨rfl, hk, ht⟩
set_option maxRecDepth 100000 in
theorem RRead_ok2 (w : World) (y : RPl) (d : Dk.Dev) (h : RHas w y d) (hop : (d.op : Int) ≤ 1000000000) (i : Nat) (hi : i < d.st.length) (he : d.err = 0) :
    Calls Try.prog 41 #[ptr y.p, .int .i64 (i : Int)] w fun e w' => ∃ v, e = .returned (.tuple #[v, .int .i64 0]) ∧ Cel w' v (some (d.cont i)) ∧ RHas w' y d.begun ∧ Turn [y.p] w w' := by
  have hO := operation_p w y d h hop
  rw [he] at hO
  clear he
  unfold ptr at *
  go_enter Try.func41, Try.ntmps41
  go_wp2_with fail
  refine hO.mono ?_
  rintro r w1 ⟨rfl, hk, ht⟩
  have hC := Content_any w1 y _ _ _ _ hk.m i hi
  have e1 : (if (d.begun.di i).isSome then d.begun.di i else some (d.begun.stab i)) = some (d.cont i) := cont_if d i
  rw [e1] at hC
  unfold ptr at hC
  go_wp2_with fail
  refine hC.mono ?_
  rintro r w2 ⟨v, rfl, hv, rfl⟩
  go_wp2
  go_ret2
  exact ⟨v, rfl, hv, hk, ht⟩

set_option maxRecDepth 100000 in
theorem RWrite_no2 (w : World) (y : RPl) (d : Dk.Dev) (h : RHas w y d) (hop : (d.op : Int) ≤ 1000000000) (i : Nat) (v : Value) (he : d.err ≠ 0) :
    Calls Try.prog 42 #[ptr y.p, .int .i64 (i : Int), v] w fun e w' => e = .returned (.int .i64 d.err) ∧ RHas w' y d.begun ∧ Turn [y.p] w w' := by
  have hO := operation_p w y d h hop
  unfold ptr at *
  generalize d.err = er at *
  go_enter Try.func42, Try.ntmps42
  go_wp2_with fail
  refine hO.mono ?_
  rintro r w1 ⟨rfl, hk, ht⟩
  go_wp2
  go_ret
  exact ⟨rfl, hk, ht⟩

set_option maxRecDepth 100000 in
set_option maxHeartbeats 1000000 in
theorem RWrite_ok2 (w : World) (y : RPl) (d : Dk.Dev) (h : RHas w y d) (hop : (d.op : Int) ≤ 1000000000) (i : Nat) (hi : i < d.st.length) (v : Value) (b : Dk.Blk) (B : Nat) (hB : B ≤ w.heap.size) (hv : Byts w B v b) (hby : ∀ k, v.ownBlock = some k → k ∉ y.bl) (hb : b.length = 256) (he : d.err = 0) :
    Calls Try.prog 42 #[ptr y.p, .int .i64 (i : Int), v] w fun e w' => e = .returned (.int .i64 0) ∧ RHas w' { y with last := (i : Int) } (d.begun.wr i b) ∧ Turn y.bl w w' ∧ ∀ q, q < w.heap.size → NoQ w y d.st.length q → NoQ w' y d.st.length q := by
  have hO := operation_p w y d h hop
  rw [he] at hO
  clear he
  obtain ⟨i0, hi0, hz0, hz1, hz2⟩ := info_parts info5
  obtain ⟨ad, c, rfl, hle, hn, hcells⟩ := hv
  obtain ⟨bb, oo, rfl, hbB, hcells⟩ := hcells (by intro e; rw [e] at hb; simp at hb)
  have hbn : bb ∉ y.bl := hby bb rfl
  have HCL : Hid (∀ j, j < b.length → w.cell? ⟨bb, oo + j, none⟩ = some (.int .u8 ((b.getD j 0).toNat : Int))) := hcells
  have HBL : Hid (b.length = 256) := hb
  have HBB : Hid (bb < w.heap.size ∧ bb ∉ y.bl) := ⟨by omega, hbn⟩
  rw [hb]
  clear hcells hn hby hbn hb hle
  unfold ptr at *
  go_enter Try.func42, Try.ntmps42
  go_wp2_with fail
  refine hO.mono ?_
  rintro r w1 ⟨rfl, hk, ht⟩
  have htY : Turn y.bl w w1 := ht.mono (fun q hq _ => by simp only [List.mem_singleton] at hq; rw [hq]; simp [RPl.bl])
  obtain ⟨-, c1, -, -, -, -, fz⟩ := hk.m.cells
  have hplt : y.p < w1.heap.size := lt_of_heap hk.m.hp
  have hi0' : (0 : Int) ≤ (i : Int) := by omega
  have hi1' : (i : Int) < (d.begun.st.length : Int) := by show (i : Int) < (d.st.length : Int); omega
  have hnews : ∀ j u, (bV b)[j]? = some u → (w1.alloc (.cells #[] 5)).drew.cell? ((⟨bb, oo, none⟩ : Addr).add j) = some u := by
    refine byts_news (fun j hj => ?_)
    show (w1.alloc (.cells #[] 5)).cell? _ = _
    rw [World.cell?_of_block (a := ⟨bb, oo + j, none⟩) (Below.heap_alloc w1 _ bb (Nat.lt_of_lt_of_le HBB.out.1 ht.size)), World.cell?_of_block (a := ⟨bb, oo + j, none⟩) (htY.block bb HBB.out.1 HBB.out.2)]
    exact HCL.out j hj
  have hown : (w1.alloc (.cells #[] 5)).drew.ownsRow w1.heap.size 5 1 (.slice (some ⟨w1.heap.size, 0, none⟩) 0 0) 0 [] := World.ownsRow_lit (size := 1) w1 #[] 0 (Nat.le_refl _) (by decide) rfl
  have HFin : Hid (∀ g cap w4, w4.ownsRow w1.heap.size 5 1 (.slice (some ⟨g, 0, none⟩) 256 cap) 256 (bV b) → (w1.alloc (.cells #[] 5)).drew.grownBy w4 (some w1.heap.size) → RMem w4 y d.begun.st.length d.begun.op (fun i => some (d.begun.stab i)) (fun i => d.begun.di i) ∧ RMem (w4.setCell ⟨y.c, i, none⟩ (.slice (some ⟨g, 0, none⟩) 256 cap)) y d.begun.st.length d.begun.op (fun i => some (d.begun.stab i)) (updN (fun i => d.begun.di i) i (some b)) ∧ RHas ((w4.setCell ⟨y.c, i, none⟩ (.slice (some ⟨g, 0, none⟩) 256 cap)).setCell ⟨y.p, 2, none⟩ (.int .i64 (i : Int))) { y with last := (i : Int) } (d.begun.wr i b) ∧ Turn y.bl w ((w4.setCell ⟨y.c, i, none⟩ (.slice (some ⟨g, 0, none⟩) 256 cap)).setCell ⟨y.p, 2, none⟩ (.int .i64 (i : Int))) ∧ ∀ q, q < w.heap.size → NoQ w y d.st.length q → NoQ ((w4.setCell ⟨y.c, i, none⟩ (.slice (some ⟨g, 0, none⟩) 256 cap)).setCell ⟨y.p, 2, none⟩ (.int .i64 (i : Int))) y d.st.length q) := by
    intro g cap w4 ho hg
    have hbel : Below w1.heap.size w1 w4 := (((Below.refl _ w1).alloc (Nat.le_refl _) _).drew).grown hg (by simp) (fun k hk => by cases hk; exact Nat.le_refl _)
    have hm4 := hk.m.below hbel
    have hcel : Cel w4 (.slice (some ⟨g, 0, none⟩) 256 cap) (some b) := Cel.own (base := w1.heap.size) (by unfold Own; rw [HBL.out]; exact ho) HBL.out
    have hm5 := hm4.setC (i := i) hi hcel
    have hm6 := hm5.setF 2 (.int .i64 (i : Int)) (op' := d.begun.op) (i : Int) y.cut (by simp [rf])
    refine ⟨hm4, hm5, ⟨hm6.congr (fun _ _ => rfl) (fun j _ => ?_), ⟨fun _ _ _ => rfl, hk.t.fa, hk.t.cu⟩, Dk.wr_ok hk.ok hi HBL.out⟩, ?_, ?_⟩
    · show (if j = i then some b else d.begun.di j) = if (j : Int) = (i : Int) then some b else d.begun.di j
      by_cases e : j = i
      · rw [if_pos e, if_pos (by omega)]
      · rw [if_neg e, if_neg (by omega)]
    · exact ((htY.belowTrans hbel).join (turn_rset w4 y (by simp [RPl.bl]) i _)).join (turn_rset _ y (by simp [RPl.bl]) 2 _)
    · intro q hq hn j v hj hv
      have hgB : w1.heap.size ≤ g := (World.ownsRow.lt ho g rfl).1
      obtain ⟨e1, e2, -⟩ := hm4.pne
      have hn4 : NoQ w4 y d.st.length q := (hn.turnP h.m ht).same (hbel.block _ hk.m.hb.lt) (hbel.block _ hk.m.hc.lt)
      obtain ⟨cb, hcb, -⟩ := hm4.hb
      obtain ⟨cc, hcc, -, -, hcs, -⟩ := hm4.hc
      have hbb : ((w4.setCell ⟨y.c, i, none⟩ (.slice (some ⟨g, 0, none⟩) 256 cap)).setCell ⟨y.p, 2, none⟩ (.int .i64 (i : Int))).heap[y.b]? = w4.heap[y.b]? := (Below.heap_setCell _ ⟨y.p, 2, none⟩ _ y.b e1).trans (Below.heap_setCell _ ⟨y.c, i, none⟩ _ y.b hm4.ne)
      have hcc2 : ((w4.setCell ⟨y.c, i, none⟩ (.slice (some ⟨g, 0, none⟩) 256 cap)).setCell ⟨y.p, 2, none⟩ (.int .i64 (i : Int))).heap[y.c]? = some (.cells (cc.setIfInBounds i (.slice (some ⟨g, 0, none⟩) 256 cap)) 27 (0, 0)) := (Below.heap_setCell _ ⟨y.p, 2, none⟩ _ y.c e2).trans (heap_setCell_at hcc i _)
      rcases hv with hv | hv
      · rw [World.cell?_of_block (a := ⟨y.b, j, none⟩) hbb] at hv
        exact hn4 j v hj (.inl hv)
      · rw [cell_of_row _ y.c j _ 27 (0, 0) hcc2] at hv
        by_cases e : j = i
        · subst e
          have hjc : j < cc.size := by
            rcases Nat.lt_or_ge j cc.size with hlt | hge
            · exact hlt
            · rw [Array.getElem?_eq_none (by rw [Array.size_setIfInBounds]; exact hge)] at hv; cases hv
          rw [Array.getElem?_setIfInBounds_self_of_lt hjc] at hv
          cases hv
          intro e
          have : g = q := by simpa [Value.ownBlock] using e
          have := ht.size
          omega
        · rw [Array.getElem?_setIfInBounds_ne (fun h => e h.symm)] at hv
          exact hn4 j v hj (.inr (by rw [cell_of_row w4 y.c j cc 27 (0, 0) hcc]; exact hv))
  clear hk ht htY hO h
  go_wp2_with fail
  go_region_law (refine step_append_lies _ (by rfl) _ _ _ (by rfl) w1.heap.size 5 i0 _ 1 1 Try.underlying27 hi0 hz0 hz1 hz2 rfl (by omega) _ 0 [] (by rfl) hown ⟨bb, oo, none⟩ 256 c (bV b) (by rfl) (by rw [bV_length, HBL.out]) hnews (bV_oneCell b) (by omega) (by unfold maxLen; omega) (by omega) (by simp) (w1.heap.size + 1) (by simp) ?_; intro gg cap w4 hown1 hgrow hat hltg; obtain ⟨hm4, hm5, hfin⟩ := HFin.out gg cap w4 hown1 hgrow; obtain ⟨uu, hu, -⟩ := hm4.hc.cell (i := i) hi; have hfz := hm4.hc.free i; obtain ⟨-, c14, -⟩ := hm4.cells; obtain ⟨-, -, c2, -, -, -, fz5⟩ := hm5.cells)
  all_goals go_wp2
  all_goals go_ret
  all_goals exact ⟨rfl, hfin.1, hfin.2.1, hfin.2.2⟩
end Go.Proofs.Ytccfoafcfnhejaa
