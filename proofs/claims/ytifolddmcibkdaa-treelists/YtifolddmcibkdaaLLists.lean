/-
  THE WALK OF TreeLists.
-/
import Derived.Test.YtifolddmcibkdaaLKept
import Derived.Test.YtifolddmcibkdaaLWorks
import Derived.RangeFuncWrites
import Derived.RangeFuncLeaves
import Derived.Deep.QuietTactic
import Derived.BigQuiet
import Derived.Deep.RegionHeld3
namespace Go.Proofs.Ytifolddmcibkdaa
open Go.RowKit Go.Shelf
attribute [local go_sem] Oper.semAt_some

/-- the way out: the blocks of the loops' deferred calls are taken in, one behind the other -/
theorem leave_lists (w : World) (rb : Nat) (tmps : Array Value) (htm : tmps[6]? = some (.pointer (some ⟨rb, 0, none⟩))) : ∀ (Ds : List Nat) (W : World), Boxed W rb 4 (.bool true) → Below w.heap.size w W →
    (∀ D ∈ Ds, w.heap.size ≤ D ∧ W.heap[D]? = some (.deferred (some []))) → Ds.Nodup →
    LeavesInM Fence.wide 9 Try.prog Try.f8 tmps (fun e w' => e = .returned (.bool true) ∧ Below w.heap.size w w') (Ds.map fun D => { target := .collected D, args := #[] }) .returning W
  | [], W, hb, hB, _, _ => by
    refine ⟨.bool true, ?_, rfl, hB⟩
    have hc := hb.cell
    simp [results, Try.f8, go_sem, htm, hc]
  | D :: Ds, W, hb, hB, hD, hnd => by
    obtain ⟨h1, h2⟩ := hD D (by simp)
    refine ⟨by simp, .inl ⟨_, _, rfl, run_takeDeferred h2, ?_⟩⟩
    have hg := grownBy_putObj' W D (.deferred none)
    have hne : some rb ≠ some D := by
      intro e
      cases e
      rw [show W.heap[rb]? = _ from hb] at h2
      cases h2
    refine leave_lists w rb tmps htm Ds _ (hb.kept hg hne) (hB.trans (belowK_b (w := w) (Nat.le_refl _) W D _ _ h1 h2 rfl rfl)) (fun D' hD' => ?_) (List.nodup_cons.1 hnd).2
    obtain ⟨h3, h4⟩ := hD D' (List.mem_cons_of_mem _ hD')
    exact ⟨h3, (hg.block D' (Array.getElem?_eq_some_iff.1 h4).1 (fun e => by cases e; exact (List.nodup_cons.1 hnd).1 hD')).trans h4⟩

/-- the boxes of the call -/
def boxA (w : World) (tb : Nat) : List Nat := [w.heap.size, w.heap.size + 1, w.heap.size + 1 + 1, tb]
structure Bx (w W : World) (pre : ByteArray) (left : Int) (tb g : Nat) : Prop where
  p : Boxed W w.heap.size 9 (.string pre)
  l : Boxed W (w.heap.size + 1) 3 (.int .i64 left)
  r : Boxed W (w.heap.size + 1 + 1) 4 (.bool false)
  t : Boxed W tb 25 (.pointer (some ⟨g, 0, none⟩))
theorem Bx.keep {w W W' : World} {pre : ByteArray} {left : Int} {tb g : Nat} (h : Bx w W pre left tb g) (hk : KeepD (boxA w tb) W W') : Bx w W' pre left tb g :=
  ⟨(hk _ (by simp [boxA])).trans h.p, (hk _ (by simp [boxA])).trans h.l, (hk _ (by simp [boxA])).trans h.r, (hk _ (by simp [boxA])).trans h.t⟩
theorem KeepD.sub {D D' : List Nat} {W W' : World} (h : KeepD D W W') (hs : ∀ b ∈ D', b ∈ D) : KeepD D' W W' := fun b hb => h b (hs b hb)

/-- a range over a function whose body may only be left by its own break: one end -/
theorem range_brk {F : Fence} {n : Nat} {P : Program} {α : Type} {g : Operand} {ps : Array Tmp} {assign body : Code} {Q2 : Exit → Act → World → Prop} {id : Nat} {a : Act} {w : World}
    (hro : F.round = none) (h1 : 1 ≤ n) {gf : Nat} {lb : Array Value} (hg : a.eval g = .func (.func gf) #[] lb) (hFg : F.fn gf) (eg : ∀ args w, (callFunc gf args).run P w = .ok (.enter gf args) w)
    {encs : α → Array Value} {Kp : World → World → Prop} {S Sp : List α → Prop} {N : Nat} {w0 : World} (hseq : SeqStopsK F (n - 1) P gf lb encs Kp S Sp N w0)
    (hKt : ∀ {A B C : World}, Kp A B → Kp B C → Kp A C) (hKb : ∀ (W : World) (l : Nat) (o o' : Obj), w.heap.size ≤ l → W.heap[l]? = some o → o.isCells = false → o.isWalk = false → Kp W (W.putObj l o')) (hb0 : Below w0.heap.size w0 w) (hps : ∀ x, (encs x).size = ps.size)
    (I : List α → World → Prop) (hI : OwnFrom w.heap.size I) (h0 : I [] w) (a₁ : α → Act)
    (hassign : ∀ (l : Nat) (x : α) (W : World) (K : Act → World → Prop), K (a₁ x) W →
      assign.wpIn (F.inRound l) (n - 1 - 1) P (Exit.then K (fun _ _ _ => False)) { tmps := (ps.zip (encs x)).foldl (fun t (p, v) => t.setIfInBounds p v) a.tmps, defers := [] } W)
    (hbody : ∀ (l : Nat) (pre : List α) (x : α) (W : World), I pre W → pre.length < N → body.wpIn (F.inRound l) (n - 1 - 1) P (ownPostK Kp I (fun c prx W => c = .exit id ∧ I prx W) (pre ++ [x]) W) (a₁ x) W)
    (hend : ∀ (D : Nat) (xs : List α) (W : World), w.heap.size ≤ D → S xs ∨ Sp xs → I xs W → W.heap[D]? = some (.deferred (some [])) → Q2 .normal { a with defers := { target := .collected D, args := #[] } :: a.defers } W) :
    (Code.rangeFunc g ps assign body).wpIn F n P (Exit.inBlock id Q2) a w := by
  refine wpIn_rangeFunc_ownF hro h1 hg hFg eg hseq (fun h k => hKt h k) hKb hb0 hps I (fun c prx W => c = .exit id ∧ I prx W) hI (fun c s A B row h hgr hr => ⟨h.1, hI s A B row h.2 hgr hr⟩) h0 a₁ hassign hbody ?_ ?_
  · intro D xs W hD hS hi hk
    exact hend D xs W hD (.inl hS) hi hk
  · rintro D c prx W hD hS ⟨rfl, hi⟩ hk
    have := hend D prx W hD (.inr hS) hi hk
    exact wpIn_exit (by simpa [Exit.inBlock] using this)

/-- the same, where no panic comes -/
def NoPanic (Q : Exit → Act → World → Prop) (e : Exit) (a : Act) (w : World) : Prop :=
  match e with
  | .panic _ => False
  | _ => Q e a w
theorem wp_nopanic {P : Program} {c : Code} {Q : Exit → Act → World → Prop} {a : Act} {w : World} (h : c.wp P (NoPanic Q) a w) : c.wp P Q a w :=
  wp_mono h fun e a w h => by cases e <;> first | exact h | exact h.elim
theorem RemS {w : World} {g b : Nat} {t : Tm.T} (p : ByteArray) (h : HasT w g t [g, b]) (hk : Tm.Ok t) :
    Calls Try.prog 19 #[.pointer (some ⟨g, 0, none⟩), .string p] w fun e w' => (∃ c : Int, e = .returned (.int .i64 c)) ∧ HasT w' g (Tm.remove t p).2 [g, b] ∧ Turn [g, b] w w' :=
  (TRemove_2 g t [g, b] p w h hk).mono fun _ _ ⟨h1, ⟨_, _, _, h2⟩, h3⟩ => ⟨⟨_, h1⟩, h3 b rfl, h2⟩
theorem WriS {w : World} {g b : Nat} {t : Tm.T} (p s : ByteArray) (h : HasT w g t [g, b]) (hk : Tm.Ok t) :
    Calls Try.prog 18 #[.pointer (some ⟨g, 0, none⟩), .string p, .string s] w fun e w' => (∃ c : Int, e = .returned (.int .i64 c)) ∧ HasT w' g (Tm.write t p s).2 [g, b] ∧ Turn [g, b] w w' :=
  (TWrite_2 g t [g, b] p s w h hk).mono fun _ _ ⟨h1, ⟨_, _, _, h2⟩, h3⟩ => ⟨⟨_, h1⟩, h3 b rfl, h2⟩
/-- a box that the loop's body writes, and nothing else -/
theorem own_box {α : Type} (W1 : World) (nb : Nat) (t : TypeId) (f : List α → Value) (G : List α → Prop) (hnb : nb < W1.heap.size) : OwnFrom W1.heap.size (fun (pre : List α) W => Boxed W nb t (f pre) ∧ Turn [nb] W1 W ∧ G pre) :=
  fun s A B row ⟨h1, h2, h3⟩ hg hr => ⟨h1.kept hg (fun e => by have := (hr nb e.symm).1; omega), h2.grow hg (fun x e hx => by have := (hr x e).1; omega), h3⟩
theorem own_lists (W1 : World) (ob g b : Nat) (ho : ob < W1.heap.size) (hg : g < W1.heap.size) (hb : b < W1.heap.size) : OwnFrom W1.heap.size (fun (prx : List ByteArray) W => (∃ v, Boxed W ob 35 v ∧ StR.Own W W1.heap.size v prx) ∧ Turn [ob, g, b] W1 W ∧ ∃ t', HasT W g t' [g, b] ∧ Tm.Ok t' ∧ t'.chs.length ≤ 1000 + 2 * prx.length) := by
  intro s A B row ⟨⟨v, h1, h2⟩, h3, t', h4, h5, h6⟩ hgr hr
  refine ⟨⟨v, h1.kept hgr (fun e => by have := (hr ob e.symm).1; omega), World.ownsRow.kept h2 hgr ?_⟩, h3.grow hgr (fun x e hx => by have := (hr x e).1; omega), t', h4.keep fun k hk => ?_, h5, h6⟩
  · rcases h2.2 with ⟨rfl, -⟩ | ⟨g', cap, cur, rfl, -, hgb, -⟩
    · exact .inl rfl
    · right
      intro e
      obtain ⟨-, o, ho', hc⟩ := hr g' e.symm
      rw [hgb] at ho'
      cases ho'
      cases hc
  · have hkl : k < W1.heap.size := by simp at hk; rcases hk with rfl | rfl <;> assumption
    exact hgr.block k (Nat.lt_of_lt_of_le hkl h3.size) (fun e => by have := (hr k e.symm).1; omega)
theorem Boxed.other' {W : World} {b b' : Nat} {t : TypeId} {v : Value} (h : Boxed W b t v) (hne : b ≠ b') (u : Value) : Boxed (W.setCell ⟨b', 0, none⟩ u) b t v :=
  (Below.heap_setCell W ⟨b', 0, none⟩ u b hne).trans h

set_option maxRecDepth 100000 in
set_option maxHeartbeats 8000000 in
theorem lists_walk (v : Value) (l : List Tm.Op) (B : Nat) (pre : ByteArray) (left : Int) (w : World) (hv : OpR.Sl w B v l) (hB : B ≤ w.heap.size) (hz : Tm.Sized l) (hpz : pre.size ≤ 9223372036854775807) :
    Calls Try.prog 8 #[v, .string pre, .int .i64 left] w fun e w' => e = .returned (.bool true) ∧ Below w.heap.size w w' := by
  obtain ⟨ad, c, rfl, hle⟩ := hv.shape
  refine (callsIn_wide (n := 9)).1 ?_
  refine callsIn_of_wp_marks Try.func8 rfl trivial ?_ rfl
  simp only [Try.ntmps8, List.size_toArray, List.length_cons, List.length_nil, Nat.reduceAdd, Nat.reduceSub, Array.replicate_succ, Array.replicate_zero, List.push_toArray, List.append_toArray, List.nil_append, List.cons_append]
  refine wpIn_wide.2 ?_
  obtain ⟨Wz, hWz⟩ : ∃ Wz, ((w.alloc (.cells #[.string pre] 9)).alloc (.cells #[.int .i64 left] 3)).alloc (.cells #[.bool false] 4) = Wz := ⟨_, rfl⟩
  have hzz : Wz.heap.size = w.heap.size + 3 := by rw [← hWz]; simp
  have hB0 : Below w.heap.size w Wz := by rw [← hWz]; exact (((Below.refl _ _).alloc (Nat.le_refl _) _).alloc (by simp) _).alloc (by simp; omega) _
  have b0 : Boxed Wz w.heap.size 9 (.string pre) := by rw [← hWz]; exact ((Boxed.new w 9 (.string pre)).alloc _).alloc _
  have b1 : Boxed Wz (w.heap.size + 1) 3 (.int .i64 left) := by
    have := (Boxed.new (w.alloc (.cells #[.string pre] 9)) 3 (.int .i64 left)).alloc (.cells #[.bool false] 4)
    rw [World.size_alloc] at this; rw [← hWz]; exact this
  have b2 : Boxed Wz (w.heap.size + 1 + 1) 4 (.bool false) := by
    have := Boxed.new ((w.alloc (.cells #[.string pre] 9)).alloc (.cells #[.int .i64 left] 3)) 4 (.bool false)
    rw [World.size_alloc, World.size_alloc] at this; rw [← hWz]; exact this
  go_wp2_with fail
  clear hWz
  refine (works_true _).mono ?_
  rintro e w1 ⟨rfl, hB1⟩
  have hz1 := hB1.size
  have hBw : Below w.heap.size w w1 := hB0.trans (hB1.mono (by omega))
  go_wp2_with fail
  refine (long_any w1 B _ l (hv.below hBw hB) hz).mono ?_
  rintro e w2 ⟨_, rfl, ⟨lb, rfl, hlb⟩, hB2⟩
  have hC2 := hBw.trans (hB2.mono hBw.size)
  have hB12 : Below Wz.heap.size Wz w2 := hB1.trans (hB2.mono hB1.size)
  have hKz : ∀ b, b < w.heap.size + 3 → w2.heap[b]? = Wz.heap[b]? := fun b hb => hB12.block b (by omega)
  have p2 : Boxed w2 w.heap.size 9 (.string pre) := (hKz _ (by omega)).trans b0
  have l2 : Boxed w2 (w.heap.size + 1) 3 (.int .i64 left) := (hKz _ (by omega)).trans b1
  have r2 : Boxed w2 (w.heap.size + 1 + 1) 4 (.bool false) := (hKz _ (by omega)).trans b2
  have hz2 : w.heap.size + 3 ≤ w2.heap.size := by have := hB12.size; omega
  clear hB1 hB2 hB12 b0 b1 b2 hB0 hz1 hBw hKz hzz
  have cR := r2.cell
  have fR := r2.frozen
  cases lb with
  | true =>
    go_wp2
    exact leave_lists w (w.heap.size + 1 + 1) _ rfl [] _ (r2.set _) (hC2.setCell (p := ⟨w.heap.size + 1 + 1, 0, none⟩) (by simp; omega) _) (by simp) (by simp)
  | false =>
  obtain ⟨hc, -⟩ := hlb rfl
  clear hlb
  by_cases hl2 : (400 : Int) < (l.length : Int)
  · go_wp2
    exact leave_lists w (w.heap.size + 1 + 1) _ rfl [] _ (r2.set _) (hC2.setCell (p := ⟨w.heap.size + 1 + 1, 0, none⟩) (by simp; omega) _) (by simp) (by simp)
  go_wp2_with fail
  refine (New_any _).mono ?_
  rintro e w3 ⟨g, S, rfl, hT, hS, hB3⟩
  have hz3 := hB3.size
  have hx0 : Bx w (w3.alloc (.cells #[.pointer (some ⟨g, 0, none⟩)] 25)) pre left w3.heap.size g := by
    have kk : ∀ b, b < w.heap.size + 3 → (w3.alloc (.cells #[.pointer (some ⟨g, 0, none⟩)] 25)).heap[b]? = w2.heap[b]? := fun b hb => (Below.heap_alloc w3 _ b (by omega)).trans (hB3.block b (by omega))
    exact ⟨(kk _ (by omega)).trans p2, (kk _ (by omega)).trans l2, (kk _ (by omega)).trans r2, Boxed.new w3 _ _⟩
  have hO0 : One w (w3.alloc (.cells #[.pointer (some ⟨g, 0, none⟩)] 25)) g Tm.T.zero (boxA w w3.heap.size) := by
    refine ⟨S, hT.below ((Below.refl _ _).alloc (Nat.le_refl _) _), fun b hb => ?_, fun b hb => ?_, (hC2.trans (hB3.mono hC2.size)).alloc (by omega) _⟩
    · have h1 := hS b hb
      have h2 := hT.lt b hb
      refine ⟨by omega, ?_⟩
      simp only [boxA, List.mem_cons, List.not_mem_nil, or_false]
      omega
    · simp only [boxA, List.mem_cons, List.not_mem_nil, or_false] at hb
      rw [World.size_alloc]
      omega
  have htb : w.heap.size + 1 + 1 < w3.heap.size := by omega
  obtain ⟨tb, htb0⟩ : ∃ tb, w3.heap.size = tb := ⟨_, rfl⟩
  obtain ⟨W4, hW4⟩ : ∃ W4, w3.alloc (.cells #[.pointer (some ⟨g, 0, none⟩)] 25) = W4 := ⟨_, rfl⟩
  rw [hW4, htb0] at hx0 hO0
  rw [htb0] at htb
  clear hT hS hB3 hz3 hC2 p2 l2 r2 cR fR hz2
  go_wp2_with fail
  clear hW4 htb0
  go_loopw [9, 31] (fun _ i wr => ∃ k : Nat, k ≤ l.length ∧ i = .int .i64 (k : Int) ∧ Bx w wr pre left tb g ∧ ∃ t, One w wr g t (boxA w tb) ∧ Tm.Ok t ∧ t.chs.length ≤ k) (fun _ i _ => l.length - (intOf i).toNat)
  case atStart => exact ⟨0, Nat.zero_le _, rfl, hx0, _, hO0, Tm.Ok.zero, Nat.zero_le _⟩
  case round =>
    clear hx0 hO0
    obtain ⟨k, hk, rfl, hx, t, hO, hOk, hch⟩ := hrel
    have hBk := hO.base
    by_cases hlt : k < l.length
    · obtain ⟨b, o, c', e, hb, p0, p1, p2, p3⟩ := OpR.at (hv.below hBk hB) k hlt
      simp only [Value.slice.injEq] at e
      obtain ⟨rfl, -, rfl⟩ := e
      have i1 : (k : Int) < (l.length : Int) := by omega
      generalize l.getD k Tm.noOp = op at *
      have hbx := heap_alloc_new wr (.cells #[.int .i64 op.kind, .string op.path, .string op.text, .int .i64 op.n] 41)
      obtain ⟨Wc, hWc⟩ : ∃ Wc, wr.alloc (.cells #[.int .i64 op.kind, .string op.path, .string op.text, .int .i64 op.n] 41) = Wc := ⟨_, rfl⟩
      rw [hWc] at hbx
      obtain ⟨hOc, hKc⟩ : One w Wc g t (boxA w tb) ∧ KeepD (boxA w tb) wr Wc := by rw [← hWc]; exact hO.below ((Below.refl _ _).alloc (Nat.le_refl _) _)
      have hxc := hx.keep hKc
      have k0 := (cell_of_row Wc wr.heap.size 0 _ 41 (0, 0) hbx).trans rfl
      have k1 := (cell_of_row Wc wr.heap.size 1 _ 41 (0, 0) hbx).trans rfl
      have k2 := (cell_of_row Wc wr.heap.size 2 _ 41 (0, 0) hbx).trans rfl
      have cT := hxc.t.cell
      clear hbx hx hO hKc
      by_cases e0 : op.kind = 0
      · have q0 : (op.kind == 0) = true := by simp [e0]
        clear e0
        go_wp2_with fail
        refine (OWrite g t _ op.path op.text _ hOc hOk).mono ?_
        rintro e w5 ⟨rfl, hO5, hK5⟩
        have hx5 := hxc.keep hK5
        have hc5 := Tm.chs_write t op.path op.text
        have hOk5 := hOk.write (by omega) op.path op.text
        go_wp2
        exact ⟨⟨k + 1, by omega, by go_num, hx5, _, hO5, hOk5, by omega⟩, by simp [intOf]; omega⟩
      · have q0 : (op.kind == 0) = false := by simp [e0]
        clear e0
        go_wp2
        exact ⟨⟨k + 1, by omega, by go_num, hxc, _, hOc, hOk, by omega⟩, by simp [intOf]; omega⟩
    · obtain rfl : k = l.length := by omega
      have i1 : ¬ (l.length : Int) < (l.length : Int) := by omega
      have hch4 : t.chs.length ≤ 400 := by omega
      clear hch hv hz hle hc
      have cT := hx.t.cell
      go_wp2_with fail
      refine (OListed g t _ ⟨#[]⟩ _ hO hOk).mono ?_
      rintro e w5 ⟨va, rfl, hva, hO5, hK5⟩
      rw [show Tm.list t ⟨#[]⟩ = t.files.map Tm.Fl.path from Tm.list_all t] at hva
      have hx5 := hx.keep hK5
      have hup : Ks.Rising (t.files.map Tm.Fl.path) := List.pairwise_map.2 hOk.rise
      have hlist : Tm.list t pre = (t.files.map Tm.Fl.path).filter (Tm.begins pre) := rfl
      have hLf : (t.files.map Tm.Fl.path).length = t.files.length := List.length_map ..
      have hfew := hOk.few
      obtain ⟨L0, hL0⟩ : ∃ L0, t.files.map Tm.Fl.path = L0 := ⟨_, rfl⟩
      rw [hL0] at hva hup hlist hLf
      have HLs : Hid (Tm.list t pre = L0.filter (Tm.begins pre)) := hlist
      have HLf : Hid (L0.length = t.files.length) := hLf
      have hl0 : L0.length ≤ 256 := by omega
      have HUp : Hid (Ks.Rising L0) := hup
      clear hL0 hlist hLf hup
      obtain ⟨aa, ca, rfl, hca⟩ := hva.sl.shape
      obtain ⟨W6, hW6⟩ : ∃ W6, w5.alloc (.cells #[.slice aa L0.length ca] 35) = W6 := ⟨_, rfl⟩
      obtain ⟨ab, hab⟩ : ∃ ab, w5.heap.size = ab := ⟨_, rfl⟩
      have bA6 : Boxed W6 ab 35 (.slice aa L0.length ca) := by rw [← hW6, ← hab]; exact Boxed.new _ _ _
      have hB56 : Below w5.heap.size w5 W6 := by rw [← hW6]; exact (Below.refl _ _).alloc (Nat.le_refl _) _
      obtain ⟨hO6, hK6⟩ := hO5.below hB56
      have hx6 := hx5.keep hK6
      obtain ⟨S6, hT5, hS6, -, -⟩ := hO5
      have hS6l : ∀ b ∈ S6, b < ab := fun b hb => by rw [← hab]; exact hT5.lt b hb
      have htba : tb < ab := by rw [← hab]; exact hx5.t.lt
      have hT6 := hT5.below hB56
      have hva6 : StR.Sl W6 W6.heap.size (.slice aa L0.length ca) L0 := (hva.sl.below hB56 (Nat.le_refl _)).mono hB56.size
      have cT6 := hx6.t.cell
      have cP6 := hx6.p.cell
      clear hx5 hT5 hK5 hva hx hO hBk cT hB56 hK6 i1
      go_wp2_with fail
      clear hW6 hab
      refine (TList_any g t S6 pre _ hT6 hOk).mono ?_
      rintro e w7 ⟨gf, lb, D, rfl, hent, hseq, hD, hB7⟩
      have hz7 := hB7.size
      obtain ⟨hO7, hK7⟩ := hO6.below hB7
      have hx7 := Bx.keep ⟨hx6.p, hx6.l, hx6.r, hx6.t⟩ hK7
      have bA7 : Boxed w7 ab 35 (.slice aa L0.length ca) := (hB7.block ab bA6.lt).trans bA6
      have hva7 := (hva6.below hB7 (Nat.le_refl _)).mono hB7.size
      have hT7 := hT6.below hB7
      have hA6l := bA6.lt
      have hrun : ∀ W : World, Sem.run Try.prog (binOp BinOp.eql 62 (Value.func (.func gf) #[] lb) Value.nilFunc) W = .ok (.bool false) W := fun W => by kernel_rfl
      have cA := bA7.cell
      have cT := hx7.t.cell
      have m1 : ((L0.length : Int) != (t.files.length : Int)) = false := by rw [HLf.out]; simp
      clear hva6 hT6 hO6 hB7 hK7 bA6 cT6 cP6 hx6
      go_wp2_with fail
      go_quiet ((go_at_call 20; refine Calls.quiet_of (TLenQ g t S6 _ (hT7.below (below_drewN (Below.refl _ _) _)) hOk)))
      go_wp2
      have hO8 : One w (w7.drewN nq) g t (boxA w tb) := (hO7.below (below_drewN (Below.refl _ _) _)).1
      have hx8 : Bx w (w7.drewN nq) pre left tb g := ⟨hx7.p, hx7.l, hx7.r, hx7.t⟩
      have bA8 : Boxed (w7.drewN nq) ab 35 (.slice aa L0.length ca) := bA7
      have hT8 : HasT (w7.drewN nq) g t S6 := hT7.below (below_drewN (Below.refl _ _) _)
      have haW : ab < W6.heap.size := hA6l
      have HV8 : Hid (StR.Sl (w7.drewN nq) (w7.drewN nq).heap.size (.slice aa L0.length ca) L0) := hva7
      have hD8 : ∀ b ∈ D, b < (w7.drewN nq).heap.size := fun b hb => (hD b hb).2
      have hDl : ∀ b ∈ D, W6.heap.size ≤ b := fun b hb => (hD b hb).1
      have HS8 : Hid (∀ W0 : World, (w7.drewN nq).heap.size ≤ W0.heap.size → KeepD D (w7.drewN nq) W0 → ∀ n, 1 ≤ n → SeqStopsK Fence.wide n Try.prog gf lb (fun x : ByteArray => #[.string x]) (KeepD D) (fun xs => xs = Tm.list t pre) (fun pr => pr <+: Tm.list t pre) (Tm.list t pre).length W0) := hseq
      have hz8 : W6.heap.size ≤ (w7.drewN nq).heap.size := hz7
      clear hO7 hx7 bA7 hva7 hD hseq hz7 hT7 hrun cA cT m1
      generalize w7.drewN nq = W8 at *
      go_loopw [13, 14, 15, 68] (fun v _ _ i wr => ∃ k : Nat, k ≤ L0.length ∧ i = .int .i64 (k : Int) ∧ StR.Own wr W8.heap.size v ((L0.take k).filter (Tm.begins pre)) ∧ Below W8.heap.size W8 wr) (fun _ _ _ i _ => L0.length - (intOf i).toNat)
      case atStart => exact ⟨0, Nat.zero_le _, rfl, Rc.Own.nil _ _, Below.refl _ _⟩
      case round =>
        obtain ⟨k, hk, rfl, hOw, hBk⟩ := hrel
        have bAk : Boxed wr ab 35 (.slice aa L0.length ca) := (hBk.block ab bA8.lt).trans bA8
        have hxk : Bx w wr pre left tb g := hx8.keep (hO8.below hBk).2
        have cA := bAk.cell
        have cP := hxk.p.cell
        by_cases hlt : k < L0.length
        · obtain ⟨b, o, c1, e, hb, p1⟩ := StR.at (HV8.out.below hBk (Nat.le_refl _)) k hlt
          simp only [Value.slice.injEq] at e
          obtain ⟨rfl, -, rfl⟩ := e
          have i1 : (k : Int) < (L0.length : Int) := by omega
          have HST : Hid ((L0.take (k + 1)).filter (Tm.begins pre) = (L0.take k).filter (Tm.begins pre) ++ (if Tm.begins pre (L0.getD k .empty) = true then [L0.getD k .empty] else [])) := by
            show _ = _
            rw [List.take_succ_eq_append_getElem hlt, List.filter_append, show L0.getD k .empty = L0[k] by simp [List.getD, hlt]]
            congr 1
            simp only [List.filter_cons, List.filter_nil]
          have hll : ((L0.take k).filter (Tm.begins pre)).length ≤ 256 := Nat.le_trans (List.length_filter_le _ _) (by rw [List.length_take]; omega)
          have HPv : Hid (0 < k → ∃ y : ByteArray, wr.cell? ⟨b, o + (k - 1), none⟩ = some (.string y) ∧ Ks.kl y (L0.getD k .empty) = true) := fun h0 => by
            obtain ⟨b', o', c', e', -, p'⟩ := StR.at (HV8.out.below hBk (Nat.le_refl _)) (k - 1) (by omega)
            simp only [Value.slice.injEq, Option.some.injEq, Addr.mk.injEq] at e'
            obtain ⟨⟨rfl, rfl, -⟩, -, -⟩ := e'
            refine ⟨_, p', ?_⟩
            have := List.pairwise_iff_getElem.1 HUp.out (k - 1) k (by omega) hlt (by omega)
            rwa [show L0.getD (k - 1) .empty = L0[k - 1] by simp [List.getD, show k - 1 < L0.length by omega], show L0.getD k .empty = L0[k] by simp [List.getD, hlt]]
          generalize L0.getD k .empty = x at *
          have HB1 : Hid (pre.size ≤ x.size → ((x.extract 0 pre.size).toList == pre.toList) = Tm.begins pre x) := fun _ => begins_long
          have HB2 : Hid (¬ pre.size ≤ x.size → Tm.begins pre x = false) := fun hq => begins_short hq
          rcases Nat.eq_zero_or_pos k with hk0 | hk0
          · have i0 : ¬ (0 : Int) < (k : Int) := by omega
            clear hk0
            by_cases hsz : pre.size ≤ x.size
            · have q1 := HB1.out hsz
              have i2 : (pre.size : Int) ≤ (x.size : Int) := by omega
              cases hbg : Tm.begins pre x with
              | true =>
                rw [hbg] at q1 HST
                rw [if_pos rfl] at HST
                clear hbg HB1 HB2 HPv
                generalize (L0.take k).filter (Tm.begins pre) = L at *
                obtain ⟨a5, n5, c5, rfl⟩ := hOw.isSl
                go_wp2_with fail
                go_quiet (fail)
                have hOd : StR.Own (wr.drewN nq) W8.heap.size (.slice a5 n5 c5) L := hOw
                have hBd : Below W8.heap.size W8 (wr.drewN nq) := below_drewN hBk _
                clear hOw hBk
                generalize wr.drewN nq = wd at *
                have hL4 := StR.lit wd x #[.string x] rfl
                have hO4 := hOd.alloc (.cells #[.string x] 9)
                have hB4 := hBd.alloc hBd.size (.cells #[.string x] 9)
                have HLn : Hid (L.length + [x].length ≤ 1099511627) := by show _ ≤ _; simp; omega
                go_wp2_with (at_builtin; go_must (refine StR.append rfl _ _ rfl W8.heap.size (wd.heap.size + 1) _ _ L [x] rfl hO4 rfl hL4 HLn hB4.size ?_))
                intro v5 w5 hO5 hg5
                have hB5 := hB4.grown hg5 hB4.size fun j e => (hO4.lt j e).1
                clear hL4 hO4 hB4 HLn hg5
                go_wp2
                exact ⟨⟨k + 1, by omega, by go_num, by rw [HST.out]; exact hO5, hB5⟩, by simp [intOf]; omega⟩
              | false =>
                rw [hbg] at q1 HST
                simp only [Bool.false_eq_true, if_false, List.append_nil] at HST
                clear hbg HB1 HB2 HPv
                obtain ⟨a5, n5, c5, rfl⟩ := hOw.isSl
                go_wp2_with fail
                go_quiet (fail)
                go_wp2
                exact ⟨⟨k + 1, by omega, by go_num, by rw [HST.out]; exact hOw, below_drewN hBk _⟩, by simp [intOf]; omega⟩
            · have hbg := HB2.out hsz
              have i2 : ¬ (pre.size : Int) ≤ (x.size : Int) := by omega
              rw [hbg] at HST
              simp only [Bool.false_eq_true, if_false, List.append_nil] at HST
              clear hbg HB1 HB2 HPv
              obtain ⟨a5, n5, c5, rfl⟩ := hOw.isSl
              go_wp2_with fail
              go_quiet (fail)
              go_wp2
              exact ⟨⟨k + 1, by omega, by go_num, by rw [HST.out]; exact hOw, below_drewN hBk _⟩, by simp [intOf]; omega⟩
          · obtain ⟨y, cy, hy⟩ := HPv.out hk0
            obtain ⟨j, rfl⟩ : ∃ j, k = j + 1 := ⟨k - 1, by omega⟩
            have i0 : (0 : Int) < ((j + 1 : Nat) : Int) := by omega
            rw [Nat.add_sub_cancel] at cy
            have hq : Op.bytesLess y.toList x.toList = true := hy
            clear hy
            by_cases hsz : pre.size ≤ x.size
            · have q1 := HB1.out hsz
              have i2 : (pre.size : Int) ≤ (x.size : Int) := by omega
              cases hbg : Tm.begins pre x with
              | true =>
                rw [hbg] at q1 HST
                rw [if_pos rfl] at HST
                clear hbg HB1 HB2 HPv
                generalize (L0.take (j + 1)).filter (Tm.begins pre) = L at *
                obtain ⟨a5, n5, c5, rfl⟩ := hOw.isSl
                go_wp2_with fail
                go_quiet (fail)
                have hOd : StR.Own (wr.drewN nq) W8.heap.size (.slice a5 n5 c5) L := hOw
                have hBd : Below W8.heap.size W8 (wr.drewN nq) := below_drewN hBk _
                clear hOw hBk
                generalize wr.drewN nq = wd at *
                have hL4 := StR.lit wd x #[.string x] rfl
                have hO4 := hOd.alloc (.cells #[.string x] 9)
                have hB4 := hBd.alloc hBd.size (.cells #[.string x] 9)
                have HLn : Hid (L.length + [x].length ≤ 1099511627) := by show _ ≤ _; simp; omega
                go_wp2_with (at_builtin; go_must (refine StR.append rfl _ _ rfl W8.heap.size (wd.heap.size + 1) _ _ L [x] rfl hO4 rfl hL4 HLn hB4.size ?_))
                intro v5 w5 hO5 hg5
                have hB5 := hB4.grown hg5 hB4.size fun j e => (hO4.lt j e).1
                clear hL4 hO4 hB4 HLn hg5
                go_wp2
                exact ⟨⟨(j + 1) + 1, by omega, by go_num, by rw [HST.out]; exact hO5, hB5⟩, by simp [intOf]; omega⟩
              | false =>
                rw [hbg] at q1 HST
                simp only [Bool.false_eq_true, if_false, List.append_nil] at HST
                clear hbg HB1 HB2 HPv
                obtain ⟨a5, n5, c5, rfl⟩ := hOw.isSl
                go_wp2_with fail
                go_quiet (fail)
                go_wp2
                exact ⟨⟨(j + 1) + 1, by omega, by go_num, by rw [HST.out]; exact hOw, below_drewN hBk _⟩, by simp [intOf]; omega⟩
            · have hbg := HB2.out hsz
              have i2 : ¬ (pre.size : Int) ≤ (x.size : Int) := by omega
              rw [hbg] at HST
              simp only [Bool.false_eq_true, if_false, List.append_nil] at HST
              clear hbg HB1 HB2 HPv
              obtain ⟨a5, n5, c5, rfl⟩ := hOw.isSl
              go_wp2_with fail
              go_quiet (fail)
              go_wp2
              exact ⟨⟨(j + 1) + 1, by omega, by go_num, by rw [HST.out]; exact hOw, below_drewN hBk _⟩, by simp [intOf]; omega⟩
        · obtain rfl : k = L0.length := by omega
          have i1 : ¬ (L0.length : Int) < (L0.length : Int) := by omega
          rw [List.take_length] at hOw
          rw [← HLs.out] at hOw
          have hB9 : Below w.heap.size w wr := hO8.base.trans (hBk.mono hO8.base.size)
          have hT9 := hT8.below hBk
          have hz9 := hBk.size
          have hll : (Tm.list t pre).length ≤ 256 := list_few hOk pre
          have hl0L : (Tm.list t pre).length ≤ L0.length := by rw [HLs.out]; exact List.length_filter_le _ _
          have hne : Tm.list t pre ≠ [] → t.files ≠ [] := fun h e => h (by unfold Tm.list; rw [e]; rfl)
          have HNE : Hid _ := hne
          have HSq : Hid (∀ W0 : World, wr.heap.size ≤ W0.heap.size → KeepD D wr W0 → ∀ n, 1 ≤ n → SeqStopsK Fence.wide n Try.prog gf lb (fun x : ByteArray => #[.string x]) (KeepD D) (fun xs => xs = Tm.list t pre) (fun pr => pr <+: Tm.list t pre) (Tm.list t pre).length W0) :=
            fun W0 h1 h2 n hn => HS8.out W0 (Nat.le_trans hz9 h1) ((KeepD.below hD8 hBk).trans h2) n hn
          have hD9 : ∀ b ∈ D, b < wr.heap.size := fun b hb => Nat.lt_of_lt_of_le (hD8 b hb) hz9
          clear hne HS8 HV8 hO8 hx8 bA8 hBk hD8 HLs HUp cA cP hT8 HLf
          generalize hLL : Tm.list t pre = LL at *
          clear hLL
          obtain ⟨aw, cw, rfl, hcw⟩ := hOw.sl.shape
          go_wp2
          obtain ⟨Wa, hWa⟩ : ∃ Wa, wr.alloc (.cells #[.int .i64 0] 3) = Wa := ⟨_, rfl⟩
          have bN : Boxed Wa wr.heap.size 3 (.int .i64 0) := by rw [← hWa]; exact Boxed.new _ _ _
          have hBa : Below wr.heap.size wr Wa := by rw [← hWa]; exact (Below.refl _ _).alloc (Nat.le_refl _) _
          have hza : Wa.heap.size = wr.heap.size + 1 := by rw [← hWa, World.size_alloc]
          rw [hWa]
          clear hWa
          refine (wpIn_wide (n := 9)).1 ?_
          refine range_brk rfl (by decide) (gf := gf) (lb := lb) rfl trivial hent (HSq.out Wa hBa.size (KeepD.below hD9 hBa) 8 (by decide)) (fun h k => h.trans k) (fun W l o o' h0 h1 _ _ => KeepD.put hD9 W l o o' h1 (by omega)) (Below.refl _ _) (fun _ => rfl)
            (fun prx W => Boxed W wr.heap.size 3 (.int .i64 (prx.length : Int)) ∧ Turn [wr.heap.size] Wa W ∧ True)
            (own_box Wa wr.heap.size 3 (fun prx => .int .i64 (prx.length : Int)) (fun _ => True) (by omega))
            ⟨bN, Turn.refl _ _, trivial⟩
            ?_ ?_ ?_ ?_
          case refine_2 =>
            intro l x W K hK
            gi_wp2
            exact hK
          case refine_3 =>
            rintro l prx x W ⟨hn, hT, -⟩ hlt
            have cN := hn.cell
            have fN := hn.frozen
            have hxW : Bx w W pre left tb g := hxk.keep (fun b hb => by
              have hbl : b < ab := by simp only [boxA, List.mem_cons, List.not_mem_nil, or_false] at hb; omega
              rw [hT.block b (by omega) (by simp; omega), hBa.block b (by omega)])
            have cL := hxW.l.cell
            have bN' := hn.set (.int .i64 ((prx.length : Int) + 1))
            have cN' := bN'.cell
            have cL' := (Boxed.other' hxW.l (b' := wr.heap.size) (by omega) (.int .i64 ((prx.length : Int) + 1))).cell
            have bN'' : Boxed (W.setCell ⟨wr.heap.size, 0, none⟩ (.int .i64 ((prx.length : Int) + 1))) wr.heap.size 3 (.int .i64 ((prx ++ [x]).length : Int)) := by rw [List.length_append]; exact bN'
            have hpl : prx.length < 256 := by omega
            by_cases hle' : left ≤ (prx.length : Int) + 1
            · gi_wp2
              exact ⟨KeepsOthers.setCell _ _ _, rfl, bN'', hT.set (by simp) _, trivial⟩
            · gi_wp2
              exact ⟨KeepsOthers.setCell _ _ _, KeepD.set _ _ _ (fun h => by have h9 := hD9 _ h; dsimp only at h9; omega), bN'', hT.set (by simp) _⟩
          case refine_4 =>
            rintro DB1 xs V hDB1 hxs ⟨hn, hT, -⟩ hKB1
            obtain ⟨m, hm, hml⟩ : ∃ m, xs.length = m ∧ m ≤ LL.length := ⟨_, rfl, by
              rcases hxs with h | h
              · rw [h]; exact Nat.le_refl _
              · exact h.length_le⟩
            rw [hm] at hn
            clear hm hxs
            have hBv : Below wr.heap.size wr V := hBa.trans (hT.below' (by omega) (by simp))
            have hzv := hBv.size
            have hTv := hT9.below hBv
            have hxv : Bx w V pre left tb g := hxk.keep (fun b hb => by
              have hbl : b < ab := by simp only [boxA, List.mem_cons, List.not_mem_nil, or_false] at hb; omega
              exact hBv.block b (by omega))
            have bAv : Boxed V ab 35 (.slice aa L0.length ca) := (hBv.block ab (by omega)).trans bAk
            have hOwv : StR.Own V W8.heap.size (.slice aw LL.length cw) LL := hOw.below hBv (Nat.le_refl _)
            have hKDv : KeepD D wr V := KeepD.below hD9 hBv
            have hBwv := hB9.trans (hBv.mono hB9.size)
            have cN := hn.cell
            have i2 : ¬ (LL.length : Int) < (m : Int) := by omega
            have hDB1l : DB1 < V.heap.size := (Array.getElem?_eq_some_iff.1 hKB1).1
            clear hn hT bN hBa hT9 hxk bAk hOw hB9 hBv
            by_cases hLe : LL = []
            · subst hLe
              obtain rfl : m = 0 := by simp only [List.length_nil] at hml; omega
              clear i2
              go_wp2
              obtain ⟨Wb, hWb⟩ : ∃ Wb, V.alloc (.cells #[.slice none 0 0] 35) = Wb := ⟨_, rfl⟩
              have bG : Boxed Wb V.heap.size 35 (.slice none 0 0) := by rw [← hWb]; exact Boxed.new _ _ _
              have hBb : Below V.heap.size V Wb := by rw [← hWb]; exact (Below.refl _ _).alloc (Nat.le_refl _) _
              have hzb : Wb.heap.size = V.heap.size + 1 := by rw [← hWb, World.size_alloc]
              rw [hWb]
              clear hWb cN
              refine (wpIn_wide (n := 9)).1 ?_
              refine wpIn_rangeFunc_ownF rfl (by decide) (gf := gf) (lb := lb) rfl trivial hent (HSq.out Wb (by omega) (hKDv.trans (KeepD.below (fun b hb => Nat.lt_of_lt_of_le (hD9 b hb) hzv) hBb)) 8 (by decide)) (fun h k => h.trans k) (fun W l o o' h0 h1 _ _ => KeepD.put hD9 W l o o' h1 (by omega)) (Below.refl _ _) (fun _ => rfl)
                (fun _ W => Boxed W V.heap.size 35 (.slice none 0 0) ∧ Turn [] Wb W)
                (fun _ _ _ => False)
                (fun s A B row ⟨h1, h2⟩ hg hr => ⟨h1.kept hg (fun e => by have := (hr V.heap.size e.symm).1; omega), h2.grow hg (fun x e hx => by have := (hr x e).1; omega)⟩)
                (fun _ _ _ _ _ h _ _ => h)
                ⟨bG, Turn.refl _ _⟩
                ?_ ?_ ?_ ?_ ?_
              case refine_2 =>
                intro l x W K hK
                gi_wp2
                exact hK
              case refine_3 =>
                rintro l prx x W - hlt
                simp at hlt
              case refine_5 =>
                rintro _ _ _ _ _ _ hno _
                exact hno.elim
              case refine_4 =>
                rintro DB2 xs W hDB2 - ⟨hg, hTW⟩ hKB2
                have hBW : Below V.heap.size V W := hBb.trans (hTW.below' (by omega) (by simp))
                have HKW : Hid (∀ b, b < V.heap.size → b ∉ S6 → W.heap[b]? = V.heap[b]?) := fun b hb _ => hBW.block b hb
                have hKB1W := (hBW.block DB1 hDB1l).trans hKB1
                have HBW : Hid (Below w.heap.size w W) := hBwv.trans (hBW.mono hBwv.size)
                have hzW := hTW.size
                have hgot : StR.Sl W W.heap.size (.slice none 0 0) [] := Rc.Sl.nil _ _
                have hwant : StR.Sl W W.heap.size (.slice aw 0 cw) [] := (hOwv.sl.below hBW (Nat.le_refl _)).mono hBW.size
                have cG := hg.cell
                have hxW : Bx w W pre left tb g := hxv.keep (fun b hb => by
                  have hbl : b < ab := by simp only [boxA, List.mem_cons, List.not_mem_nil, or_false] at hb; omega
                  exact HKW.out b (by omega) (fun hm => (hS6 b hm).2 hb))
                go_wp2_with fail
                refine (texts_any W W.heap.size _ _ [] [] hgot hwant (by simp)).mono ?_
                rintro e w10 ⟨rfl, hB10⟩
                rw [decide_eq_true rfl]
                have hzW10 := hB10.size
                have r10 : Boxed w10 (w.heap.size + 1 + 1) 4 (.bool false) := (hB10.block _ hxW.r.lt).trans hxW.r
                have cR := r10.cell
                have fR := r10.frozen
                go_wp2
                have hK4 := fun (Dk : Nat) (h : w10.heap[Dk]? = some (.deferred (some []))) => (KeepsOthers.setCell w10 ⟨w.heap.size + 1 + 1, 0, none⟩ (.bool true)).same Dk _ h rfl
                have hDB2l := (Array.getElem?_eq_some_iff.1 hKB2).1
                refine leave_lists w (w.heap.size + 1 + 1) _ rfl [DB2, DB1] _ (r10.set _) ((HBW.out.trans (hB10.mono HBW.out.size)).setCell (p := ⟨w.heap.size + 1 + 1, 0, none⟩) (by simp; omega) _) (fun Dk hDk => ?_) ?_
                · simp only [List.mem_cons, List.not_mem_nil, or_false] at hDk
                  rcases hDk with rfl | rfl
                  · exact ⟨by omega, hK4 _ ((hB10.block _ hDB2l).trans hKB2)⟩
                  · exact ⟨by omega, hK4 _ ((hB10.block _ (Array.getElem?_eq_some_iff.1 hKB1W).1).trans hKB1W)⟩
                · simp only [List.nodup_cons, List.mem_cons, List.not_mem_nil, or_false, List.nodup_nil, not_false_eq_true, and_true]
                  omega
            · obtain ⟨b, rfl⟩ := hTv.map (HNE.out hLe)
              have hgl : g < ab := hS6l g (by simp)
              have hbl : b < ab := hS6l b (by simp)
              have hgA := hS6 g (by simp)
              have hbA := hS6 b (by simp)
              have hlp : 0 < LL.length := List.length_pos_iff.2 hLe
              have i3 : (0 : Int) < (LL.length : Int) := by omega
              obtain ⟨b4, o4, c4, e4, hb4, p4⟩ := StR.at hOwv.sl (LL.length - 1) (by omega)
              simp only [Value.slice.injEq] at e4
              obtain ⟨rfl, -, rfl⟩ := e4
              generalize LL.getD (LL.length - 1) .empty = y at *
              have cT := hxv.t.cell
              have HLe : Hid (LL ≠ []) := hLe
              have hwv := hOwv.sl
              obtain ⟨q, hq⟩ : ∃ q, LL.length = q + 1 := ⟨LL.length - 1, by omega⟩
              have p5 : V.cell? ⟨b4, o4 + q, none⟩ = some (.string y) := by rw [show q = LL.length - 1 by omega]; exact p4
              have i5 : ¬ (q : Int) + 1 < (m : Int) := by omega
              have i6 : (0 : Int) < (q : Int) + 1 := by omega
              clear p4 i3 i2
              have hOwv' : StR.Own V W8.heap.size (.slice (some ⟨b4, o4, none⟩) (q + 1) cw) LL := by rw [← hq]; exact hOwv
              have hwv' : StR.Sl V V.heap.size (.slice (some ⟨b4, o4, none⟩) (q + 1) cw) LL := by rw [← hq]; exact hwv
              have hq1 : q + 1 ≤ 256 := by omega
              have hlq : (q : Int) < (q : Int) + 1 := by omega
              have hwq : IntKind.i64.wrap (q : Int) = (q : Int) := by rw [IntKind.wrap_i64]; omega
              have hq2 : q + 1 ≤ L0.length := by omega
              have HQ : Hid (LL.length = q + 1) := hq
              rw [hq]
              clear hq hOwv hwv hll hml hl0L hlp hcw
              clear hLe
              have HTv : Hid (∀ W : World, (∀ k, W.heap[k]? = V.heap[k]?) → HasT W g t [g, b]) := fun W h => hTv.keep fun k _ => h k
              go_wp2_with fail
              refine wp_nopanic ?_
              refine wp_region_held_drew (S := fun X : World => X.cell? ⟨tb, 0, none⟩ = some (.pointer (some ⟨g, 0, none⟩)) ∧ X.cell? ⟨b4, o4 + q, none⟩ = some (.string y)) (by kernel_rfl) ⟨cT, p5⟩ (fun hHeld => ?_)
              refine wpAnyH_take (i := 0) (v := ?_) rfl (by kernel_rfl) (by kernel_rfl) (by kernel_rfl) (fun _ _ _ h => h) (Or.inl ⟨(by simp [Region.wanted]), ?_⟩) hHeld ?_
              rotate_left
              · intro W hSw
                obtain ⟨s1, s2⟩ := hSw
                ((go_simp) <;> (with_reducible rfl))
              try simp only [Act.put, List.setIfInBounds_toArray]
              refine wpAnyH_take (i := 1) (v := ?_) rfl (by kernel_rfl) (by kernel_rfl) (by kernel_rfl) (fun _ _ _ h => h) (Or.inl ⟨(by simp [Region.wanted]), ?_⟩) hHeld ?_
              rotate_left
              · intro W hSw
                obtain ⟨s1, s2⟩ := hSw
                ((go_simp) <;> (with_reducible rfl))
              try simp only [Act.put]
              refine wpAnyH_take (i := 2) (v := ?_) rfl (by kernel_rfl) (by kernel_rfl) (by kernel_rfl) (fun _ _ _ h => h) (Or.inl ⟨(by simp [Region.wanted]), ?_⟩) hHeld ?_
              rotate_left
              · intro W hSw
                obtain ⟨s1, s2⟩ := hSw
                ((go_simp) <;> (with_reducible rfl))
              try simp only [Act.put]
              refine wpAnyH_take (i := 3) (v := ?_) rfl (by kernel_rfl) (by kernel_rfl) (by kernel_rfl) (fun _ _ _ h => h) (Or.inl ⟨(by simp [Region.wanted]), ?_⟩) hHeld ?_
              rotate_left
              · intro W hSw
                obtain ⟨s1, s2⟩ := hSw
                ((go_simp) <;> (with_reducible rfl))
              try simp only [Act.put]
              refine wpAnyH_take (i := 4) (v := ?_) rfl (by kernel_rfl) (by kernel_rfl) (by kernel_rfl) (fun _ _ _ h => h) (Or.inl ⟨(by simp [Region.wanted]), ?_⟩) hHeld ?_
              rotate_left
              · intro W hSw
                obtain ⟨s1, s2⟩ := hSw
                ((go_simp) <;> (with_reducible rfl))
              try simp only [Act.put]
              refine wpAnyH_take (i := 5) (v := ?_) rfl (by kernel_rfl) (by kernel_rfl) (by kernel_rfl) (fun _ _ _ h => h) (Or.inl ⟨(by simp [Region.wanted]), ?_⟩) hHeld ?_
              rotate_left
              · intro W hSw
                obtain ⟨s1, s2⟩ := hSw
                ((go_simp) <;> (with_reducible rfl))
              try simp only [Act.put]
              refine wpAnyH_take (i := 6) (v := ?_) rfl (by kernel_rfl) (by kernel_rfl) (by kernel_rfl) (fun _ _ _ h => h) (Or.inl ⟨(by simp [Region.wanted]), ?_⟩) hHeld ?_
              rotate_left
              · intro W hSw
                obtain ⟨s1, s2⟩ := hSw
                ((go_simp) <;> (with_reducible rfl))
              try simp only [Act.put]
              refine wpAnyH_ready (rs := [7]) (by kernel_rfl) (by simp) ?_
              refine AllReadyH.cons rfl (fun K hK => ?_) AllReadyH.nil
              go_simp
              refine (RemS y (HTv.out V.drew (fun _ => rfl)) hOk).mono ?_
              rintro e w9 ⟨⟨ce, rfl⟩, hT9, hTn9⟩
              have s1 : w9.cell? ⟨tb, 0, none⟩ = some (.pointer (some ⟨g, 0, none⟩)) := (hTn9.cell (p := ⟨tb, 0, none⟩) hxv.t.lt (by
                show tb ∉ [g, b]
                simp only [List.mem_cons, List.not_mem_nil, or_false]
                rintro (rfl | rfl)
                · exact hgA.2 (by simp [boxA])
                · exact hbA.2 (by simp [boxA]))).trans cT
              have s2 : w9.cell? ⟨b4, o4 + q, none⟩ = some (.string y) := (hTn9.cell (p := ⟨b4, o4 + q, none⟩) hb4 (by
                show b4 ∉ [g, b]
                have := (hOwv'.lt b4 rfl).1
                simp
                omega)).trans p5
              go_wp2_with fail
              refine hK.out _ _ ⟨s1, s2⟩ (fun hHeld => ?_)
              clear hK K s1 s2
              try simp only [Act.put, List.setIfInBounds_toArray, List.set_cons_zero, List.set_cons_succ]
              refine wpAnyH_done (by kernel_rfl) ?_ _
              simp only [NoPanic]
              go_wp2
              have hz9' : V.heap.size ≤ w9.heap.size := hTn9.size
              have hTV9 : Turn [g, b] V w9 := ⟨hTn9.os, hTn9.tape, hTn9.output, hTn9.size, hTn9.block⟩
              have hOk9 := hOk.remove (by omega) y
              have hch9 := Tm.chs_remove t y
              generalize (Tm.remove t y).2 = t9 at *
              obtain ⟨Wb, hWb⟩ : ∃ Wb, w9.alloc (.cells #[.slice none 0 0] 35) = Wb := ⟨_, rfl⟩
              have bG : Boxed Wb w9.heap.size 35 (.slice none 0 0) := by rw [← hWb]; exact Boxed.new _ _ _
              have hBb : Below w9.heap.size w9 Wb := by rw [← hWb]; exact (Below.refl _ _).alloc (Nat.le_refl _) _
              have hzb : w9.heap.size + 1 ≤ Wb.heap.size := by rw [← hWb, World.size_alloc]; exact Nat.le_refl _
              rw [hWb]
              clear hWb cN hwq hlq i5 i6 cT p5 HTv hTn9
              have hTb := hT9.below hBb
              have hTVb : Turn [g, b] V Wb := hTV9.belowTrans hBb
              have hKDb : KeepD D wr Wb := hKDv.trans fun d hd => hTVb.block d (Nat.lt_of_lt_of_le (hD9 d hd) hzv) (by simp; have := hDl d hd; omega)
              have hxb : Bx w Wb pre left tb g := hxv.keep fun d hd => hTVb.block d (by simp only [boxA, List.mem_cons, List.not_mem_nil, or_false] at hd; omega) (by
                simp only [List.mem_cons, List.not_mem_nil, or_false]
                rintro (rfl | rfl)
                · exact hgA.2 hd
                · exact hbA.2 hd)
              have bAb : Boxed Wb ab 35 (.slice aa L0.length ca) := (hTVb.block ab (by omega) (by simp; omega)).trans bAv
              refine (wpIn_wide (n := 9)).1 ?_
              refine wpIn_rangeFunc_ownG rfl (by decide) (gf := gf) (lb := lb) rfl trivial hent (HSq.out Wb (by omega) hKDb 8 (by decide)) (fun h k => h.trans k) (fun W l o o' h0 h1 _ _ => KeepD.put hD9 W l o o' h1 (by omega)) (Below.refl _ _) (fun _ => rfl)
                (fun prx W => (∃ v, Boxed W w9.heap.size 35 v ∧ StR.Own W Wb.heap.size v prx) ∧ Turn [w9.heap.size, g, b] Wb W ∧ ∃ t', HasT W g t' [g, b] ∧ Tm.Ok t' ∧ t'.chs.length ≤ 1000 + 2 * prx.length)
                (fun _ _ _ => False)
                (own_lists Wb w9.heap.size g b (by omega) (by omega) (by omega))
                (fun _ _ _ _ _ h _ _ => h)
                ⟨⟨_, bG, Rc.Own.nil _ _⟩, Turn.refl _ _, t9, hTb, hOk9, by omega⟩
                ?_ ?_ ?_ ?_ ?_
              case refine_2 =>
                intro l x W K hK
                gi_wp2
                exact hK
              case refine_3 =>
                rintro lr prx x W ⟨⟨v, hv, hO⟩, hT, t', hTt, hOkt, hcht⟩ hlt
                have hlt2 : prx.length < q + 1 := by rw [HQ.out] at hlt; exact hlt
                clear hlt
                have cV := hv.cell
                have fV := hv.frozen
                have hL4 := StR.lit W x #[.string x] rfl
                have hO4 := hO.alloc (.cells #[.string x] 9)
                have HLn : Hid (prx.length + [x].length ≤ 1099511627) := by show _ ≤ _; simp; omega
                have hTz := hT.size
                have hxW : Bx w W pre left tb g := hxb.keep fun d hd => hT.block d (by simp only [boxA, List.mem_cons, List.not_mem_nil, or_false] at hd; omega) (by
                  simp only [List.mem_cons, List.not_mem_nil, or_false]
                  rintro (e | rfl | rfl)
                  · simp only [boxA, List.mem_cons, List.not_mem_nil, or_false] at hd; omega
                  · exact hgA.2 hd
                  · exact hbA.2 hd)
                have bAW : Boxed W ab 35 (.slice aa L0.length ca) := (hT.block ab (by omega) (by simp; omega)).trans bAb
                obtain ⟨a5, n5, c5, rfl⟩ := hO.isSl
                gi_wp2_with (gi_at_builtin; go_must (refine StR.appendIn rfl _ _ rfl Wb.heap.size (W.heap.size + 1) _ _ prx [x] rfl hO4 rfl hL4 (by simp) HLn (by rw [World.size_alloc]; omega) ?_))
                intro v5 w5 hO5 hg5
                obtain ⟨hv1, hv2, hO6, hk6⟩ := Rc.boxAppended hv (by decide) hO hO5 hg5
                have hTW6 : Turn (w9.heap.size :: (Value.slice a5 n5 c5).ownBlock.toList) W (w5.setCell ⟨w9.heap.size, 0, none⟩ v5) := (((Turn.refl _ W).alloc (.cells #[.string x] 9)).grow hg5 (fun k e _ => by simp [e])).set (fun _ => by simp) _
                have hrow : ∀ d, (Value.slice a5 n5 c5).ownBlock = some d → Wb.heap.size ≤ d := fun d e => (hO.lt d e).1
                have hn6 : ∀ d, d < Wb.heap.size → d ≠ w9.heap.size → d ∉ w9.heap.size :: (Value.slice a5 n5 c5).ownBlock.toList := fun d h1 h2 hm => by
                  simp only [List.mem_cons, Option.mem_toList] at hm
                  rcases hm with h | h
                  · exact h2 h
                  · have := hrow d h; omega
                have cc5 := hv1.cell
                have f5 := hv1.frozen
                obtain ⟨a7, c7, hv5, -⟩ := hO5.sl.shape
                rw [List.length_append, List.length_singleton] at hv5
                subst hv5
                have hTt6 : HasT (w5.setCell ⟨w9.heap.size, 0, none⟩ (.slice a7 (prx.length + 1) c7)) g t' [g, b] := hTt.turn hTW6 (fun d hd => hn6 d (by simp at hd; omega) (by simp at hd; omega))
                have hx6 : Bx w (w5.setCell ⟨w9.heap.size, 0, none⟩ (.slice a7 (prx.length + 1) c7)) pre left tb g := hxW.keep fun d hd => hTW6.block d (by simp only [boxA, List.mem_cons, List.not_mem_nil, or_false] at hd; omega) (hn6 d (by simp only [boxA, List.mem_cons, List.not_mem_nil, or_false] at hd; omega) (by simp only [boxA, List.mem_cons, List.not_mem_nil, or_false] at hd; omega))
                have bA6 : Boxed (w5.setCell ⟨w9.heap.size, 0, none⟩ (.slice a7 (prx.length + 1) c7)) ab 35 (.slice aa L0.length ca) := (hTW6.block ab (by omega) (hn6 ab (by omega) (by omega))).trans bAW
                have cT6 := hx6.t.cell
                have hOk6 := hOkt.remove (by omega) x
                have hch6 := Tm.chs_remove t' x
                clear hO4 hL4 HLn cV fV hxW bAW
                gi_wp2_with fail
                refine ⟨trivial, (CallsIn.inRound lr (callsIn_wide.2 (RemS x hTt6 hOkt))).mono ?_⟩
                rintro e w7 ⟨⟨ce7, rfl⟩, hT7, hTn7⟩
                generalize w5.setCell ⟨w9.heap.size, 0, none⟩ (.slice a7 (prx.length + 1) c7) = w6 at *
                have hz6 := hTW6.size
                have hz7 := hTn7.size
                have hbx : ∀ d, d ∈ boxA w tb → d ∉ [g, b] := fun d hd hm => by
                  simp only [List.mem_cons, List.not_mem_nil, or_false] at hm
                  rcases hm with rfl | rfl
                  · exact hgA.2 hd
                  · exact hbA.2 hd
                have hx7 : Bx w w7 pre left tb g := hx6.keep fun d hd => hTn7.block d (by simp only [boxA, List.mem_cons, List.not_mem_nil, or_false] at hd; omega) (hbx d hd)
                have bA7 : Boxed w7 ab 35 (.slice aa L0.length ca) := (hTn7.block ab (by omega) (by simp; omega)).trans bA6
                have hv7 : Boxed w7 w9.heap.size 35 (.slice a7 (prx.length + 1) c7) := (hTn7.block w9.heap.size (by omega) (by simp; omega)).trans hv2
                have hO7 : StR.Own w7 Wb.heap.size (.slice a7 (prx.length + 1) c7) (prx ++ [x]) := hO6.turn hTn7 (fun d e hm => by have := (hO6.lt d e).1; simp at hm; omega)
                generalize (Tm.remove t' x).2 = t7 at *
                have cT7 := hx7.t.cell
                have cP7 := hx7.p.cell
                have HT7 : Hid (∀ W : World, (∀ k, W.heap[k]? = w7.heap[k]?) → HasT W g t7 [g, b]) := fun W h => hT7.keep fun k _ => h k
                clear cT6 bA6 hv1 hv2 hO6 hO5 hg5 cc5 f5 hTt6 hx6
                have hmix : Try.prog.follows .mixedOrders = true := by kernel_rfl
                gi_wp2_with fail
                have hfW : Fence.wide.fn 18 := trivial
                have m0 : (0 : Int) ≤ min (pre.size : Int) 9 := by omega
                have m1 : min (pre.size : Int) 9 ≤ (pre.size : Int) := by omega
                have HFin : Hid (∀ (w8 : World) (p s : ByteArray), HasT w8 g (Tm.write t7 p s).2 [g, b] → Turn [g, b] w7.drew w8 → Boxed w8 w9.heap.size 35 (.slice a7 (prx.length + 1) c7) ∧ Boxed w8 ab 35 (.slice aa L0.length ca) ∧ KeepsFrom Wb.heap.size W w8 ∧ KeepD D W w8 ∧
                    (∃ v, Boxed w8 w9.heap.size 35 v ∧ StR.Own w8 Wb.heap.size v (prx ++ [x])) ∧ Turn [w9.heap.size, g, b] Wb w8 ∧ ∃ t', HasT w8 g t' [g, b] ∧ Tm.Ok t' ∧ t'.chs.length ≤ 1000 + 2 * (prx ++ [x]).length) := by
                  intro w8 p s hT8 hTd
                  have hTn8 : Turn [g, b] w7 w8 := ⟨hTd.os, hTd.tape, hTd.output, hTd.size, hTd.block⟩
                  have bG8 : Boxed w8 w9.heap.size 35 (.slice a7 (prx.length + 1) c7) := (hTn8.block _ (by omega) (by simp; omega)).trans hv7
                  have hTW8 : Turn (w9.heap.size :: g :: b :: (Value.slice a5 n5 c5).ownBlock.toList) W w8 := ((hTW6.mono (fun d hd _ => by
                    simp only [List.mem_cons, Option.mem_toList] at hd ⊢
                    rcases hd with h | h
                    · exact .inl h
                    · exact .inr (.inr (.inr h)))).trans hTn7 (fun d hd _ => by simp at hd; rcases hd with rfl | rfl <;> simp)).trans hTn8 (fun d hd _ => by simp at hd; rcases hd with rfl | rfl <;> simp)
                  refine ⟨bG8, (hTn8.block ab (by omega) (by simp; omega)).trans bA7, ⟨hTW8.size, fun k o hk ho hc => (hTW8.block k (Array.getElem?_eq_some_iff.1 ho).1 (fun hm => ?_)).trans ho⟩, fun d hd => hTW8.block d (by have := hD9 d hd; omega) (fun hm => ?_), ⟨_, bG8, hO7.turn hTn8 (fun d e hm => by have := (hO7.lt d e).1; simp at hm; omega)⟩, ?_, _, hT8, hOk6.write (by omega) p s, ?_⟩
                  · simp only [List.mem_cons, Option.mem_toList] at hm
                    rcases hm with h | h | h | h
                    · omega
                    · omega
                    · omega
                    · rcases hO.2 with ⟨e, -⟩ | ⟨g', cap, cur, e, -, hgb, -⟩
                      · rw [e] at h; cases h
                      · rw [e] at h
                        simp only [Value.ownBlock, Option.some.injEq] at h
                        subst h
                        rw [hgb] at ho
                        cases ho
                        cases hc
                  · have h1 := hD9 d hd
                    have h2 := hDl d hd
                    simp only [List.mem_cons, Option.mem_toList] at hm
                    rcases hm with h | h | h | h
                    · omega
                    · omega
                    · omega
                    · have := hrow d h; omega
                  · refine hT.trans hTW8 (fun d hd hl => ?_)
                    simp only [List.mem_cons, Option.mem_toList, List.not_mem_nil, or_false] at hd ⊢
                    rcases hd with h | h | h | h
                    · exact .inl h
                    · exact .inr (.inl h)
                    · exact .inr (.inr h)
                    · have := hrow d h; omega
                  · have := Tm.chs_write t7 p s
                    rw [List.length_append, List.length_singleton]
                    omega
                have i8 : ¬ (L0.length : Int) < (prx.length : Int) + 1 := by omega
                have HD7 : Hid _ := hT7
                clear hO7 hT7 hv7 bA7 hx7 hTn7 hTW6 hk6 hrow hn6 hbx hTt hv hO hT hxb bAb hTb hTVb hTV9 hT9
                gi_region_with_o (gi_at_call 18; refine (CallsIn.inRound lr (callsIn_wide.2 (WriS _ _ (HT7.out w7.drew (fun _ => rfl)) hOk6))).mono ?_; rintro e w8 ⟨⟨ce8, rfl⟩, hT8, hTn8⟩; obtain ⟨bG8, bA8, hfin⟩ := HFin.out w8 _ _ hT8 hTn8; have cG8 := bG8.cell; have cA8 := bA8.cell; have HFF : Hid _ := hfin; clear hfin hT8 hTn8 bG8 bA8)
                all_goals gi_wp2
                all_goals exact HFF.out
              case refine_5 =>
                rintro _ _ _ _ _ _ hno _
                exact hno.elim
              case refine_4 =>
                rintro DB2 xs W hDB2 hxs ⟨⟨vg, hg, hOg⟩, hTW, -⟩ hKB2
                obtain rfl : LL = xs := hxs.symm
                clear hxs
                have hTVW : Turn [g, b] V W := hTVb.trans hTW (fun d hd hl => by simp at hd; rcases hd with rfl | rfl | rfl <;> first | (exfalso; omega) | simp)
                have HKW : Hid (∀ d, d < V.heap.size → d ∉ [g, b] → W.heap[d]? = V.heap[d]?) := fun d hd hn => hTVW.block d hd hn
                have hKB1W : W.heap[DB1]? = some (.deferred (some [])) := (hTVW.block DB1 hDB1l (by simp; omega)).trans hKB1
                have HBW : Hid (Below w.heap.size w W) := hBwv.trans (hTVW.below' hBwv.size (by simp; exact ⟨hgA.1, hbA.1⟩))
                have hzW := hTW.size
                have hgot := hOg.sl
                obtain ⟨ag, cg, rfl, -⟩ := hgot.shape
                have hwant : StR.Sl W W.heap.size (.slice (some ⟨b4, o4, none⟩) (q + 1) cw) LL := (hOwv'.turn hTVW (fun d e hm => by
                  have := (hOwv'.lt d e).1
                  simp at hm
                  omega)).sl
                rw [HQ.out] at hgot hg
                have cG := hg.cell
                have hxW : Bx w W pre left tb g := hxv.keep (fun b hb => by
                  have hbl : b < ab := by simp only [boxA, List.mem_cons, List.not_mem_nil, or_false] at hb; omega
                  exact HKW.out b (by omega) (fun hm => (hS6 b hm).2 hb))
                go_wp2_with fail
                refine (texts_any W W.heap.size _ _ LL LL hgot hwant (by rw [HQ.out]; omega)).mono ?_
                rintro e w10 ⟨rfl, hB10⟩
                rw [decide_eq_true rfl]
                have hzW10 := hB10.size
                have r10 : Boxed w10 (w.heap.size + 1 + 1) 4 (.bool false) := (hB10.block _ hxW.r.lt).trans hxW.r
                have cR := r10.cell
                have fR := r10.frozen
                go_wp2
                have hK4 := fun (Dk : Nat) (h : w10.heap[Dk]? = some (.deferred (some []))) => (KeepsOthers.setCell w10 ⟨w.heap.size + 1 + 1, 0, none⟩ (.bool true)).same Dk _ h rfl
                have hDB2l := (Array.getElem?_eq_some_iff.1 hKB2).1
                refine leave_lists w (w.heap.size + 1 + 1) _ rfl [DB2, DB1] _ (r10.set _) ((HBW.out.trans (hB10.mono HBW.out.size)).setCell (p := ⟨w.heap.size + 1 + 1, 0, none⟩) (by simp; omega) _) (fun Dk hDk => ?_) ?_
                · simp only [List.mem_cons, List.not_mem_nil, or_false] at hDk
                  rcases hDk with rfl | rfl
                  · exact ⟨by omega, hK4 _ ((hB10.block _ hDB2l).trans hKB2)⟩
                  · exact ⟨by omega, hK4 _ ((hB10.block _ (Array.getElem?_eq_some_iff.1 hKB1W).1).trans hKB1W)⟩
                · simp only [List.nodup_cons, List.mem_cons, List.not_mem_nil, or_false, List.nodup_nil, not_false_eq_true, and_true]
                  omega

end Go.Proofs.Ytifolddmcibkdaa
