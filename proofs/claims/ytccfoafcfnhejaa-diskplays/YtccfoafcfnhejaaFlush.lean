/-
  Flush.
-/
import Derived.Test.YtccfoafcfnhejaaNews
namespace Go.Proofs.Ytccfoafcfnhejaa
open Go.RowKit Go.Maps Go.ChangeMaps

/-- what is stable while blocks are carried over: those that are left are as they were -/
def part (d : Dk.Dev) (left : Lit → Bool) : List Dk.Blk := (List.range d.st.length).map fun (i : Nat) => if left (.int .i64 (i : Int)) then d.stab i else d.cont i

theorem part_len (d : Dk.Dev) (left : Lit → Bool) : (part d left).length = d.st.length := by simp [part]
theorem part_get (d : Dk.Dev) (left : Lit → Bool) {i : Nat} (hi : i < d.st.length) : (part d left).getD i [] = if left (.int .i64 (i : Int)) then d.stab i else d.cont i := by
  simp [part, List.getD, hi]
theorem list_ext_getD {l m : List Dk.Blk} (hl : l.length = m.length) (h : ∀ i, i < l.length → l.getD i [] = m.getD i []) : l = m := by
  apply List.ext_getElem hl
  intro i h1 h2
  have := h i h1
  simpa [List.getD, List.getElem?_eq_getElem h1, List.getElem?_eq_getElem h2] using this
theorem part_start (d : Dk.Dev) (left : Lit → Bool) (h : ∀ i : Int, left (.int .i64 i) = (d.di i).isSome) : part d left = d.st := by
  refine list_ext_getD (part_len d left) fun i hi => ?_
  rw [part_len] at hi
  rw [part_get d left hi, h]
  show _ = d.stab i
  unfold Dk.Dev.cont
  cases d.di i <;> rfl
theorem part_end (d : Dk.Dev) (left : Lit → Bool) (h : ∀ k, left k = false) : part d left = d.fl.st := by
  unfold part Dk.Dev.fl
  simp [h]
theorem part_step (d : Dk.Dev) (left : Lit → Bool) {i : Nat} (hi : i < d.st.length) : (part d left).set i (d.cont i) = part d (fun z => left z && !z.sameKey (.int .i64 (i : Int))) := by
  refine list_ext_getD (by simp [part]) fun j hj => ?_
  rw [List.length_set, part_len] at hj
  rw [stab_getD_set _ _ _ _ (by rw [part_len]; exact hi), part_get _ _ hj, part_get _ _ hj]
  by_cases e : j = i
  · subst e; simp [Lit.sameKey]
  · rw [if_neg e]
    have : ¬ ((j : Int) = (i : Int)) := by omega
    simp [Lit.sameKey, this]

theorem wpList_next_blk {w : World} {ops : Array Oper} {rest : List Oper} {o : Oper} {a : Act} {Q : Exit → Act → World → Prop} (hg : o.guard = none) (it : Operand) (hop : o.op = Op.next it false) (b r n : Nat) (D : DataW Value) (left : Lit → Bool) (cnt : Nat)
    (hit : a.eval it = .pointer (some ⟨r, 0, none⟩)) (h : w.ranges Try.prog 3 tokR b r n D left cnt) (hval : ∀ x v, (∀ z, D.atKey (.int .i64 x) z = .held v) → ∃ l : Dk.Blk, v = .agg (bV l).toArray)
    (hDone : cnt = 0 → (∀ kl, left kl = false) → wpList Try.prog ops Q rest (a.put o.dst (.tuple #[.bool false])) w)
    (hMore : ∀ (x : Int) (l : Dk.Blk) (w' : World) (cnt' : Nat), left (.int .i64 x) = true → (∀ z, D.atKey (.int .i64 x) z = .held (.agg (bV l).toArray)) → w'.ranges Try.prog 3 tokR b r n D (fun z => left z && !z.sameKey (.int .i64 x)) cnt' → cnt' < cnt →
      w.grownBy w' (some r) → w'.heap.size = w.heap.size → (Instr.entry (.pointer (some ⟨r, 0, none⟩))).run Try.prog w' = .ok (.tuple #[.int .i64 x, .agg (bV l).toArray]) w' → wpList Try.prog ops Q rest (a.put o.dst (.tuple #[.bool true, .int .i64 x, .agg (bV l).toArray])) w') :
    wpList Try.prog ops Q (o :: rest) a w := by
  refine wpList_plain hg fun K' hK' => ?_
  unfold Oper.wp
  rcases h.next keyed3 o.type with ⟨h0, hl, hrun⟩ | ⟨key, v, kl, y, w', cnt', hkey, hlk, hv, hat, hrun, hrg, hlt, hgr, hsz, hen⟩
  · simp [execOp, hop, hit, hrun, Result.andThen]
    exact hK' _ _ (hDone h0 hl)
  · obtain ⟨x, rfl, rfl, _⟩ := Maps.keyOf_i64 Try.underlying3 hkey
    simp only [tokR, Option.some.injEq] at hv
    subst hv
    obtain ⟨l, rfl⟩ := hval x v hat
    simp [execOp, hop, hit, hrun, Result.andThen]
    exact hK' _ _ (hMore x l w' cnt' hlk hat hrg hlt hgr hsz hen)

set_option maxRecDepth 100000 in
set_option maxHeartbeats 1000000 in
theorem Flush_err (w : World) (x : Pl) (N : Nat) (d : Dk.Dev) (h : Has w x N d) (hN : N ≤ 1000000000) (he : d.err ≠ 0) :
    Calls Try.prog 16 #[ptr x.p] w fun e w' => e = .returned (.int .i64 d.err) ∧ Has w' x (N + 1) d.begun ∧ Turn x.bl w w' := by
  have hbg := begin_any w x N d h hN
  unfold ptr at *
  generalize d.err = er at *
  go_enter Try.func16, Try.ntmps16
  go_wp2_with fail
  refine hbg.mono ?_
  rintro e w2 ⟨rfl, hk, ht⟩
  go_wp2
  go_ret
  exact ⟨rfl, hk, ht⟩

/-- between two rounds of Flush -/
structure FlAt (w : World) (x : Pl) (N r : Nat) (d : Dk.Dev) (D : DataW Value) (left : Lit → Bool) (cnt : Nat) (wr : World) : Prop where
  rg : wr.ranges Try.prog 3 tokR x.md r N D left cnt
  hp : wr.heap[x.p]? = some (.cells (fields x d) 72 (0, 0))
  hg : Stab wr x.g x.cap (part d left)
  hf : MapOf wr x.mf N (fun i => (d.fa i).map (Value.int .i64))
  tn : Turn x.bl w wr

theorem FlAt.cells {w : World} {x : Pl} {N r : Nat} {d : Dk.Dev} {D : DataW Value} {left : Lit → Bool} {cnt : Nat} {wr : World} (h : FlAt w x N r d D left cnt wr) :
    wr.cell? ⟨x.p, 0, none⟩ = some (.slice (some ⟨x.g, 0, none⟩) d.st.length x.cap) ∧ wr.cell? ⟨x.p, 1, none⟩ = some (.map (some x.md)) := by
  refine ⟨?_, ?_⟩ <;> (rw [cell_of_row wr x.p _ _ 72 (0, 0) h.hp]; rfl)
/-- what turns the iterator, or makes something new, keeps it -/
theorem FlAt.move {w : World} {x : Pl} {N r : Nat} {d : Dk.Dev} {D : DataW Value} {left left' : Lit → Bool} {cnt cnt' : Nat} {wr wr' : World} (h : FlAt w x N r d D left cnt wr) {row : Option Nat} (hg : wr.grownBy wr' row) (hrow : ∀ k, row = some k → k ∉ x.bl ∧ w.heap.size ≤ k)
    (hrg : wr'.ranges Try.prog 3 tokR x.md r N D left' cnt') (hS : Stab wr' x.g x.cap (part d left')) : FlAt w x N r d D left' cnt' wr' := by
  have hb : ∀ k, k < wr.heap.size → k ∈ x.bl → wr'.heap[k]? = wr.heap[k]? := fun k hk hm => hg.block k hk (fun e => (hrow k e.symm).1 hm)
  exact ⟨hrg, (hb _ (lt_of_heap h.hp) (by simp [Pl.bl])).trans h.hp, hS, h.hf.of_block (hb _ h.hf.lt (by simp [Pl.bl])), h.tn.grow hg fun k hk hl => by have := (hrow k hk).2; omega⟩

theorem bV_inj {a b : List UInt8} (h : bV a = bV b) : a = b := by
  unfold bV at h
  refine List.map_inj_right (fun x y hxy => ?_) |>.1 h
  simp only [Value.int.injEq, true_and] at hxy
  exact UInt8.toNat_inj.1 (by omega)

theorem flush_mid {w w2 : World} {x : Pl} {N r : Nat} {c : Dk.Dev} {D : DataW Value} {left : Lit → Bool} {cnt : Nat} {wr : World} (hk : Has w2 x N c) (hA : FlAt w x N r c D left cnt wr) (hm : MapOf wr x.md N (fun i => (c.di i).map aggB)) (hl : ∀ k, left k = false) :
    Has wr x N { c with st := c.fl.st } := by
  have hlen : c.fl.st.length = c.st.length := by simp [Dk.Dev.fl]
  have ho := hk.ok
  have hf := Dk.fl_ok ho
  refine ⟨?_, ?_, hm, hA.hf, ⟨by show 80 ≤ c.fl.st.length; rw [hlen]; exact ho.lo, by show c.fl.st.length ≤ _; rw [hlen]; exact ho.hi, hf.len, fun i b hb => by show _ ∧ _ ∧ i < (c.fl.st.length : Int); rw [hlen]; exact ho.dom i b hb, ho.fal, ho.cu0, ho.cu1, ho.la0, ho.la1⟩, hk.ne, hk.hop, hk.hcap⟩
  · rw [hA.hp]
    simp [fields, hlen]
  · have := hA.hg
    rw [part_end c left hl] at this
    exact this

set_option maxRecDepth 100000 in
set_option maxHeartbeats 2000000 in
theorem Flush_ok (w : World) (x : Pl) (N : Nat) (d : Dk.Dev) (h : Has w x N d) (hN : N ≤ 1000000000) (he : d.err = 0) :
    Calls Try.prog 16 #[ptr x.p] w fun e w' => e = .returned (.int .i64 0) ∧ Has w' x (N + 1) d.begun.fl ∧ Turn x.bl w w' := by
  have hbg := begin_any w x N d h hN
  rw [he] at hbg
  clear he
  generalize d.begun = c at hbg ⊢
  unfold ptr at *
  go_enter Try.func16, Try.ntmps16
  go_wp2_with fail
  refine hbg.mono ?_
  rintro e w2 ⟨rfl, hk, ht⟩
  clear hbg
  have hok := hk.ok
  have hhi := hok.hi
  obtain ⟨c0, c1, -⟩ := hk.cells
  obtain ⟨D, hown, hh, hat⟩ := hk.hd
  have hval : ∀ x v, (∀ z, D.atKey (.int .i64 x) z = .held v) → ∃ l : Dk.Blk, v = .agg (bV l).toArray := by
    intro y v hv
    have h1 := has_true_of_atKey hv
    rw [hh y] at h1
    obtain ⟨u, hu⟩ := Option.isSome_iff_exists.1 h1
    have h2 := hat y u hu (.held v)
    rw [hv] at h2
    cases h2
    simp only [Option.map_eq_some_iff] at hu
    obtain ⟨b, _, rfl⟩ := hu
    exact ⟨b, rfl⟩
  have hz := zero78
  have hlt := hk.lt
  have HD : Hid ((∀ y, Maps.has D (.int .i64 y) = (c.di y).isSome) ∧ (∀ y b, c.di y = some b → ∀ z, D.atKey (.int .i64 y) z = .held (.agg (bV b).toArray))) := ⟨fun y => by rw [hh y]; simp, fun y b hb z => hat y _ (by show (c.di y).map aggB = _; rw [hb]; rfl) z⟩
  clear hh hat
  go_wp2_with (first
    | (at_range; refine wpList_range_own _ rfl _ 69 rfl 3 78 keyed3 Try.underlying69 tokR x.md (N + 1) D rfl hown ?_; intro w0 hrg0 hg0 hs0)
    | go_in)
  go_frame
  go_loopw [4] (fun _ wr => ∃ left cnt, FlAt w x (N + 1) w2.heap.size c D left cnt wr) (fun _ wr => wr.rangeLeft x.md w2.heap.size)
  case atStart =>
    have hb0 : ∀ k, k ∈ x.bl → w0.heap[k]? = w2.heap[k]? := fun k hk => hg0.block k (hlt k hk) (by simp)
    refine ⟨_, _, hrg0, (hb0 _ (by simp [Pl.bl])).trans hk.hp, ?_, hk.hf.of_block (hb0 _ (by simp [Pl.bl])), ht.grow hg0 (fun k e => by cases e)⟩
    rw [part_start c _ HD.out.1]
    exact hk.hg.of_block (hb0 _ (by simp [Pl.bl]))
  case round =>
    obtain ⟨left, cnt, hA⟩ := hrel
    obtain ⟨r0, r1⟩ := hA.cells
    go_wp2_with (first
      | (at_next; refine wpList_next_blk rfl _ rfl x.md w2.heap.size (N + 1) D left cnt rfl hA.rg hval ?_ ?_)
      | go_in)
    · intro _ hl0
      have hmr : MapOf wr x.md (N + 1) (fun i => (c.di i).map aggB) := ⟨D, hA.rg.owns, fun y => by rw [HD.out.1 y]; simp, fun y v hv z => by
        simp only [Option.map_eq_some_iff] at hv
        obtain ⟨b, hb, rfl⟩ := hv
        exact HD.out.2 y b hb z⟩
      have hkr : Has wr x (N + 1) { c with st := c.fl.st } := flush_mid hk hA hmr hl0
      obtain ⟨w5, hcl, hm5, htn5⟩ := hmr.clear Try.underlying69 0
      have hk5 : Has w5 x (N + 1) c.fl := hkr.setD htn5 (hm5.mono (by omega)) rfl rfl rfl (Dk.fl_ok hok) (Nat.le_refl _) (by have := hk.hop; exact this)
      have ht5 : Turn x.bl w w5 := hA.tn.join (turn_md htn5)
      have HK : Hid (Has w5 x (N + 1) c.fl) := hk5
      clear hk5 htn5 hm5 hkr hmr
      go_wp2
      go_ret
      exact ⟨rfl, HK.out, ht5⟩
    · intro y l w3 cnt3 hly hatl hrg3 hlt3 hg3 hs3 hen
      obtain ⟨b, hb, hlb⟩ : ∃ b, c.di y = some b ∧ l = b := by
        have h1 := has_true_of_atKey hatl
        rw [HD.out.1 y] at h1
        obtain ⟨b, hb⟩ := Option.isSome_iff_exists.1 h1
        have h2 := HD.out.2 y b hb (.nil)
        rw [hatl] at h2
        simp only [DataW.held.injEq, Value.agg.injEq] at h2
        exact ⟨b, hb, bV_inj (by simpa using h2)⟩
      subst hlb
      obtain ⟨hll, hy0, hy1⟩ := hok.dom y l hb
      obtain ⟨i, rfl⟩ : ∃ i : Nat, y = (i : Int) := ⟨y.toNat, by omega⟩
      have hi : i < c.st.length := by omega
      have hco : c.cont i = l := by unfold Dk.Dev.cont; rw [hb]; rfl
      have hrn : w2.heap.size ∉ x.bl := fun hm => by have := hlt _ hm; omega
      have hS3 : Stab w3 x.g x.cap (part c left) := hA.hg.of_block (hg3.block _ hA.hg.lt (by intro e; simp only [Option.some.injEq] at e; exact hrn (by rw [← e]; simp [Pl.bl])))
      have hp3 : w3.heap[x.p]? = some (.cells (fields x c) 72 (0, 0)) := (hg3.block _ (lt_of_heap hA.hp) (by intro e; simp only [Option.some.injEq] at e; exact hrn (by rw [← e]; simp [Pl.bl]))).trans hA.hp
      have hgr : w3.grownBy (w3.alloc (.cells (bV l).toArray 78)) none := World.grownBy_alloc w3 _ none
      have hS4 : Stab (w3.alloc (.cells (bV l).toArray 78)) x.g x.cap (part c left) := hS3.of_block (hgr.block _ hS3.lt (by simp))
      have p4 : (w3.alloc (.cells (bV l).toArray 78)).cell? ⟨x.p, 0, none⟩ = some (.slice (some ⟨x.g, 0, none⟩) c.st.length x.cap) := by
        rw [cell_of_row _ x.p _ _ 72 (0, 0) ((hgr.block _ (lt_of_heap hp3) (by simp)).trans hp3)]; rfl
      have hth := hS4.there (i := i) (n := 256) (by rw [part_len]; exact hi) (Nat.le_refl _)
      have hrl : (w3.alloc (.cells (bV l).toArray 78)).rangeAt w3.heap.size 0 (bV l) := by
        intro j u hu
        rw [cell_of_row _ w3.heap.size (0 + j) _ 78 (0, 0) (heap_alloc_new w3 _), Nat.zero_add]
        simpa using hu
      have hpg : x.p ≠ x.g := hk.apart.1
      have hg3' : x.g < w3.heap.size := hS3.lt
      have hS5 : Stab ((w3.alloc (.cells (bV l).toArray 78)).drew.setCells x.g (i * 256) (bV l)) x.g x.cap (part c (fun z => left z && !z.sameKey (.int .i64 (i : Int)))) := by
        have h5 : Stab ((w3.alloc (.cells (bV l).toArray 78)).drew) x.g x.cap (part c left) := hS4.of_block rfl
        have h6 := h5.set (i := i) (by rw [part_len]; exact hi) l (by omega)
        rw [hll, List.drop_eq_nil_of_le (by rw [h5.len (by rw [part_len]; exact hi)]; exact Nat.le_refl _), List.append_nil, ← hco, part_step c left hi] at h6
        rw [hco] at h6
        exact h6
      have hg5 : w3.grownBy ((w3.alloc (.cells (bV l).toArray 78)).drew.setCells x.g (i * 256) (bV l)) (some x.g) :=
        ⟨(grown_setCells x.g _ _ _).os, (grown_setCells x.g _ _ _).tape, (grown_setCells x.g _ _ _).output, Nat.le_trans hgr.size (grown_setCells x.g (i * 256) (bV l) (w3.alloc (.cells (bV l).toArray 78)).drew).size, fun k hk1 hk2 => ((grown_setCells x.g (i * 256) (bV l) (w3.alloc (.cells (bV l).toArray 78)).drew).block k (Nat.lt_of_lt_of_le hk1 hgr.size) hk2).trans (hgr.block k hk1 (by simp))⟩
      have p5 : ((w3.alloc (.cells (bV l).toArray 78)).drew.setCells x.g (i * 256) (bV l)).cell? ⟨x.p, 0, none⟩ = some (.slice (some ⟨x.g, 0, none⟩) c.st.length x.cap) := by
        rw [World.cell?_setCells_out x.g _ _ _ ⟨x.p, 0, none⟩ (fun e => absurd e hpg)]
        exact p4
      have rl5 : ((w3.alloc (.cells (bV l).toArray 78)).drew.setCells x.g (i * 256) (bV l)).rangeAt w3.heap.size 0 (bV l) :=
        World.rangeAt_setCells_apart (by simpa using hrl) _ _ _ (.inl (by omega))
      have H5 : Hid (FlAt w x (N + 1) w2.heap.size c D (fun z => left z && !z.sameKey (.int .i64 (i : Int))) cnt3 ((w3.alloc (.cells (bV l).toArray 78)).drew.setCells x.g (i * 256) (bV l))) := by
        have hm : x.md ≠ x.g := Ne.symm hk.apart.2.2.2.1
        have hm2 : x.mf ≠ x.g := Ne.symm hk.apart.2.2.2.2
        have h3 : ∀ k, k < wr.heap.size → k ∈ x.bl → w3.heap[k]? = wr.heap[k]? := fun k hk1 hk2 => hg3.block k hk1 (by intro e; simp only [Option.some.injEq] at e; exact hrn (by rw [← e]; exact hk2))
        have h5 : ∀ k, k < w3.heap.size → k ≠ x.g → ((w3.alloc (.cells (bV l).toArray 78)).drew.setCells x.g (i * 256) (bV l)).heap[k]? = w3.heap[k]? := fun k hk1 hk2 => hg5.block k hk1 (by simpa using hk2)
        refine ⟨hrg3.kept hg5 (by simpa using hm) ?_, (h5 _ (lt_of_heap hp3) hpg).trans hp3, hS5, ?_, ?_⟩
        · have := hrg3.lt
          intro e
          simp only [Option.some.injEq] at e
          exact hrn (by rw [e]; simp [Pl.bl])
        · exact (hA.hf.of_block (h3 _ hA.hf.lt (by simp [Pl.bl]))).of_block (h5 _ (by have := hA.hf.lt; have := hg3.size; omega) hm2)
        · exact (hA.tn.grow hg3 (fun k e hl => by simp only [Option.some.injEq] at e; have := ht.size; omega)).grow hg5 (fun k e _ => by simp only [Option.some.injEq] at e; rw [← e]; simp [Pl.bl])
      clear hS5 hg5
      have hu78 := Try.underlying78
      have hl78 : (bV l).length = 256 := by rw [bV_length]; exact hll
      have hi78 : (Try.prog.info? 78).map (·.size) = some (bV l).length := by rw [hl78]; exact info78
      have ho78 := bV_oneCell l
      have hi0 : (0 : Int) ≤ (i : Int) := by omega
      have hi1 : (i : Int) < (c.st.length : Int) := by omega
      have HS3 : Hid (w3.heap.size = wr.heap.size) := hs3
      clear hatl hly hs3
      go_wp2_with (refine wpList_store_blk w3 rfl (.tmp 5) (.tmp 22) rfl l Dk.zeroB hll Dk.zeroB_len rfl rfl ?_)
      go_region_held3 (fun w' => w'.cell? ⟨x.p, 0, none⟩ = some (.slice (some ⟨x.g, 0, none⟩) c.st.length x.cap) ∧ w'.rangeAt w3.heap.size 0 (bV l) ∧ w'.there x.g (i * 256) 256) (go_keep_ranges) (fail)
      go_wp2
      go_roundw
      case rel => exact ⟨_, _, H5.out⟩
      case measure => rw [H5.out.rg.left_eq, hA.rg.left_eq]; exact hlt3
end Go.Proofs.Ytccfoafcfnhejaa
