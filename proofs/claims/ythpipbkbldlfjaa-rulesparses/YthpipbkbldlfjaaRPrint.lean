/-
  WHAT THE DOCUMENT's Print DOES.
-/
import Derived.Test.YthpipbkbldlfjaaRMay
namespace Go.Proofs.Ythpipbkbldlfjaa
open Go.RowKit

/-- a line as it lies: its words came in, or lie in a row of the call's own -/
def LineM (w0 : World) (B : Nat) (W : World) (base : Nat) (r : RawL) (x : Lx.L) : Prop := r.num = x.num ∧ r.ind = x.ind ∧ (WdR.Sl w0 B r.words x.words ∨ WdR.Own W base r.words x.words)
def OutP (w0 : World) (B : Nat) (W : World) (base : Nat) (v : Value) (L : List Lx.L) : Prop :=
  ∃ ps : List (RawL × Lx.L), LnR.Own W base v (ps.map Prod.fst) ∧ L = ps.map Prod.snd ∧ ∀ p ∈ ps, LineM w0 B W base p.1 p.2
theorem LineM.below {w0 W W' : World} {B base B' : Nat} {r : RawL} {x : Lx.L} (h : LineM w0 B W base r x) (hb : Below B' W W') (hB : W.heap.size ≤ B') : LineM w0 B W' base r x :=
  ⟨h.1, h.2.1, h.2.2.imp id fun h => h.below hb hB⟩
theorem OutP.below {w0 W W' : World} {B base B' : Nat} {v : Value} {L : List Lx.L} (h : OutP w0 B W base v L) (hb : Below B' W W') (hB : W.heap.size ≤ B') : OutP w0 B W' base v L := by
  obtain ⟨ps, h1, h2, h3⟩ := h
  exact ⟨ps, h1.below hb hB, h2, fun p hp => (h3 p hp).below hb hB⟩
theorem OutP.nil (w0 : World) (B : Nat) (W : World) (base : Nat) : OutP w0 B W base (.slice none 0 0) [] := ⟨[], Rc.Own.nil _ _, rfl, fun _ h => by cases h⟩
theorem OutP.s {w0 W : World} {B base : Nat} {v : Value} {L : List Lx.L} (h : OutP w0 B W base v L) (hb : Below w0.heap.size w0 W) (hB : B ≤ w0.heap.size) : LnsS W W.heap.size v L := by
  obtain ⟨ps, h1, h2, h3⟩ := h
  refine ⟨ps, h1.sl, h2, fun p hp => ⟨(h3 p hp).1, (h3 p hp).2.1, ?_⟩⟩
  rcases (h3 p hp).2.2 with h | h
  · exact (h.below hb hB).mono (Nat.le_trans hB hb.size)
  · exact h.sl
/-- lines behind it -/
theorem OutP.grown {w0 W W' : World} {B base : Nat} {v v' : Value} {L M : List Lx.L} {ps qs : List (RawL × Lx.L)} (h1 : LnR.Own W base v (ps.map Prod.fst)) (h2 : L = ps.map Prod.snd) (h3 : ∀ p ∈ ps, LineM w0 B W base p.1 p.2)
    (hM : M = qs.map Prod.snd) (hq : ∀ p ∈ qs, LineM w0 B W base p.1 p.2) (hO : LnR.Own W' base v' (ps.map Prod.fst ++ qs.map Prod.fst)) (hg : W.grownBy W' v.ownBlock) : OutP w0 B W' base v' (L ++ M) := by
  have hk : ∀ r x, LineM w0 B W base r x → LineM w0 B W' base r x := fun r x h => ⟨h.1, h.2.1, h.2.2.imp id fun h => World.ownsRow.kept h hg (own_apart h h1 (by decide))⟩
  refine ⟨ps ++ qs, by rw [List.map_append]; exact hO, by rw [List.map_append, h2, hM], fun p hp => ?_⟩
  rcases List.mem_append.1 hp with hp | hp
  · exact hk _ _ (h3 p hp)
  · exact hk _ _ (hq p hp)
theorem grown_below {W W' : World} {base : Nat} {α : Type} {R : Rc α} {v : Value} {l : List α} (hO : R.Own W base v l) (hb : base ≤ W.heap.size) (hg : W.grownBy W' v.ownBlock) : Below base W W' :=
  (Below.refl base W).grown hg hb fun k e => (hO.lt k e).1
/-- a row's block holds the row's type alone -/
theorem own_ne {α : Type} {R : Rc α} {W : World} {base : Nat} {v : Value} {l : List α} (h : R.Own W base v l) {g : Nat} {cs : Array Value} {t : TypeId} {m : Nat × Nat} (hg : W.heap[g]? = some (.cells cs t m)) (ht : t ≠ R.e) : some g ≠ v.ownBlock := by
  rcases h.2 with ⟨rfl, -⟩ | ⟨g', cap, cur, rfl, -, hg', -⟩
  · intro e; cases e
  · intro e
    simp only [Value.ownBlock, Option.some.injEq] at e
    subst e
    rw [hg] at hg'
    simp only [Option.some.injEq, Obj.cells.injEq] at hg'
    exact ht hg'.2.1
/-- a row laid at once -/
theorem Rc.lits {α : Type} {R : Rc α} (w : World) (l : List α) (n : Nat) (hn : n = l.length) (cs : Array Value) (hcs : cs.toList = R.vals l) : R.Sl (w.alloc (.cells cs R.e)) (w.heap.size + 1) (.slice (some ⟨w.heap.size, 0, none⟩) n n) l := by
  subst hn
  refine ⟨_, _, rfl, Nat.le_refl _, (fun h => by cases h), fun _ => ⟨w.heap.size, 0, rfl, Nat.lt_succ_self _, fun j u hu => ?_⟩⟩
  rw [← hcs] at hu
  rw [Nat.zero_add]
  rw [cell_of_row (w.alloc (.cells cs R.e)) w.heap.size j cs R.e (0, 0) (heap_alloc_new w _)]
  rw [← Array.getElem?_toList]; exact hu
/-- the words of an item's first line ahead of its Words -/
def Rl.pre (x : Rl.It) : List Lx.V := if x.kind = 1 then [Rl.wd Rl.sLet false, Rl.wd x.name false, Rl.wd [61] true] else if x.kind = 2 then [Rl.wd Rl.sIncl false] else Rl.wd Rl.sRule false :: (x.targets ++ [Rl.wd [58] true])
theorem Rl.pre_head (x : Rl.It) : Rl.head x = Rl.pre x ++ x.words := by
  unfold Rl.head Rl.pre
  split
  · rfl
  · split
    · rfl
    · simp
theorem Rl.head_mem {x : Rl.It} {u : Lx.V} (h : u ∈ Rl.head x) : u ∈ x.targets ∨ u ∈ x.words ∨ u.text = x.name ∨ u.text.length ≤ 7 := by
  unfold Rl.head at h
  split at h
  · simp only [List.cons_append, List.nil_append, List.mem_cons] at h
    rcases h with rfl | rfl | rfl | h
    · exact .inr (.inr (.inr (by decide)))
    · exact .inr (.inr (.inl rfl))
    · exact .inr (.inr (.inr (by decide)))
    · exact .inr (.inl h)
  · split at h
    · rcases List.mem_cons.1 h with rfl | h
      · exact .inr (.inr (.inr (by decide)))
      · exact .inr (.inl h)
    · simp only [List.mem_cons, List.mem_append] at h
      rcases h with rfl | h | rfl | h
      · exact .inr (.inr (.inr (by decide)))
      · exact .inl h
      · exact .inr (.inr (.inr (by decide)))
      · exact .inr (.inl h)
theorem Rl.lines_take {A : List Rl.It} {i : Nat} (h : i < A.length) : Rl.lines (A.take (i + 1)) = Rl.lines (A.take i) ++ (⟨0, false, Rl.head A[i]⟩ :: A[i].code) := by
  rw [List.take_succ_eq_append_getElem h]
  simp only [Rl.lines, Rl.linesI, List.flatMap_append, List.flatMap_cons, List.flatMap_nil, List.append_nil]
theorem Rl.lines_le (A : List Rl.It) (i : Nat) : (Rl.lines (A.take i)).length ≤ (Rl.lines A).length := by
  conv => rhs; rw [← List.take_append_drop i A]
  simp only [Rl.lines, List.flatMap_append, List.length_append]
  omega

set_option maxRecDepth 100000 in
set_option maxHeartbeats 4000000 in
theorem PrintR_any (va : Value) (A : List Rl.It) (w : World) (B : Nat) (ha : ItsS w B va A) (hBw : B ≤ w.heap.size) (hAl : A.length ≤ 1099511627) (hf : ∀ x ∈ A, Rl.Few x)
    (hh : ∀ x ∈ A, (Rl.head x).length ≤ 1099511627) (hL : (Rl.lines A).length ≤ 1099511627) (htot : (Rl.print A).length ≤ 1099511627) :
    Calls Try.prog 20 #[va] w fun e w' => e = .returned (if Rl.may A = true then .tuple #[.string (str (Rl.print A)), .int .i64 0] else .tuple #[.string .empty, .int .i64 2]) ∧ Below w.heap.size w w' := by
  obtain ⟨ad, c, rfl, hle⟩ := ha.shape
  have HFW : Hid _ := hf
  have HHH : Hid _ := hh
  have hmay := MayR_any _ A w B ha hBw hAl hf
  clear hf hh
  cases hm : Rl.may A with
  | false =>
    rw [hm] at hmay
    rw [if_neg (by simp)]
    go_enter Try.func20, Try.ntmps20
    go_wp2_with fail
    refine hmay.mono ?_
    rintro e w1 ⟨rfl, hB1⟩
    clear hmay hm
    go_wp2
    go_ret2
    exact ⟨rfl, hB1⟩
  | true =>
    rw [hm] at hmay
    rw [if_pos rfl]
    go_enter Try.func20, Try.ntmps20
    go_wp2_with fail
    refine hmay.mono ?_
    rintro e w1 ⟨rfl, hB1⟩
    have HM : Hid _ := hm
    clear hmay hm
    go_wp2
    go_loopw [4, 5] (fun s k wr => ∃ i : Nat, i ≤ A.length ∧ k = .int .i64 (i : Int) ∧ OutP w B wr w.heap.size s (Rl.lines (A.take i)) ∧ Below w.heap.size w wr) (fun _ k _ => A.length - (intOf k).toNat)
    case atStart => exact ⟨0, Nat.zero_le _, rfl, OutP.nil _ _ _ _, hB1⟩
    case round =>
      obtain ⟨i, hi, rfl, hO, hD⟩ := hrel
      by_cases hlt : i < A.length
      · have i1 : (i : Int) < (A.length : Int) := by omega
        obtain ⟨b, o, c1, ta, tc, wa, wc_, ca, cc, e, hb1, hc, hX1, hX2, hX3⟩ := ha.at i hlt
        simp only [Value.slice.injEq] at e
        obtain ⟨rfl, -, rfl⟩ := e
        obtain ⟨x, hx⟩ : ∃ x, A.getD i Rl.noI = x := ⟨_, rfl⟩
        rw [hx] at hc hX1 hX2 hX3
        rw [getD_mem _ hlt] at hx
        have hxm : x ∈ A := by rw [← hx]; exact List.getElem_mem hlt
        have hfew := HFW.out x hxm
        have hhd := HHH.out x hxm
        have hmx : Rl.mayI x = true := by
          have := HM.out
          unfold Rl.may at this
          rw [List.all_eq_true] at this
          exact this x hxm
        have HLT : Hid (Rl.lines (A.take (i + 1)) = Rl.lines (A.take i) ++ (⟨0, false, Rl.head x⟩ :: x.code)) := by rw [Hid, Rl.lines_take hlt, hx]
        have hll := Rl.lines_le A (i + 1)
        rw [HLT.out, List.length_append, List.length_cons] at hll
        clear hx
        have p0 : wr.cell? ⟨b, o + i * 6, none⟩ = some (.int .i64 x.kind) := (cell_below hD (Nat.lt_of_lt_of_le hb1 hBw) _).trans (hc 0 _ rfl)
        have p1 : wr.cell? ⟨b, o + i * 6 + 1, none⟩ = some (.int .i64 x.line) := (cell_below hD (Nat.lt_of_lt_of_le hb1 hBw) _).trans (hc 1 _ rfl)
        have p2 : wr.cell? ⟨b, o + i * 6 + 2, none⟩ = some (.string (str x.name)) := (cell_below hD (Nat.lt_of_lt_of_le hb1 hBw) _).trans (hc 2 _ rfl)
        have p3 : wr.cell? ⟨b, o + i * 6 + 3, none⟩ = some (.slice ta x.targets.length tc) := (cell_below hD (Nat.lt_of_lt_of_le hb1 hBw) _).trans (hc 3 _ rfl)
        have p4 : wr.cell? ⟨b, o + i * 6 + 4, none⟩ = some (.slice wa x.words.length wc_) := (cell_below hD (Nat.lt_of_lt_of_le hb1 hBw) _).trans (hc 4 _ rfl)
        have p5 : wr.cell? ⟨b, o + i * 6 + 5, none⟩ = some (.slice ca x.code.length cc) := (cell_below hD (Nat.lt_of_lt_of_le hb1 hBw) _).trans (hc 5 _ rfl)
        clear hc
        go_upto_region 7 with fail
        go_cut [6] (fun t X => ∃ g : Nat, t = .pointer (some ⟨g, 0, none⟩) ∧ X.heap[g]? = some (.cells (itCs x ta tc wa wc_ ca cc) 33 (0, 0)) ∧ g < X.heap.size ∧ w.heap.size ≤ g ∧ Below wr.heap.size wr X)
        case first =>
          have hsz := hD.size
          go_wp2
          go_meet
          case rel => exact ⟨_, rfl, heap_alloc_new _ _, by show _ < (wr.heap.push _).size; rw [Array.size_push]; omega, hsz, (Below.refl _ _).alloc (Nat.le_refl _) _⟩
        case rest =>
          obtain ⟨g, rfl, k1, hg1, hg2, hBr⟩ := hcut
          obtain ⟨W1, rfl⟩ : ∃ W, W = wc := ⟨_, rfl⟩
          clear p0 p1 p2 p3 p4 p5
          have hO1 := hO.below hBr (Nat.le_refl _)
          have hD1 : Below w.heap.size w W1 := hD.trans (hBr.mono hD.size)
          clear hO hD hBr
          have HCS : Hid (∀ (W : World), W.heap[g]? = some (.cells (itCs x ta tc wa wc_ ca cc) 33 (0, 0)) → W.cell? ⟨g, 0, none⟩ = some (.int .i64 x.kind) ∧ W.cell? ⟨g, 2, none⟩ = some (.string (str x.name)) ∧ W.cell? ⟨g, 3, none⟩ = some (.slice ta x.targets.length tc) ∧ W.cell? ⟨g, 4, none⟩ = some (.slice wa x.words.length wc_) ∧ W.cell? ⟨g, 5, none⟩ = some (.slice ca x.code.length cc)) := fun W h => ⟨by simp [World.cell?, h, itCs], by simp [World.cell?, h, itCs], by simp [World.cell?, h, itCs], by simp [World.cell?, h, itCs], by simp [World.cell?, h, itCs]⟩
          obtain ⟨r0, r2, r3, r4, r5⟩ := HCS.out W1 k1
          go_upto_block 2 with fail
          go_cut [7] (fun t X => WdR.Own X W1.heap.size t (Rl.pre x) ∧ Below W1.heap.size W1 X)
          case first =>
            have hpl : (Rl.pre x).length ≤ 1099511627 := by rw [Rl.pre_head, List.length_append] at hhd; omega
            have hx1 := hX1.below hD1 hBw
            clear hX1 hX2 hX3 hO1 hhd hll HLT
            by_cases h1 : x.kind = 1
            · have e1 : (x.kind == 1) = true := by rw [beq_iff_eq]; exact h1
              have HP : Hid (Rl.pre x = [Rl.wd Rl.sLet false, Rl.wd x.name false, Rl.wd [61] true]) := by rw [Hid, Rl.pre, if_pos h1]
              clear h1
              have hO4 : ∀ o, WdR.Own (W1.alloc o) W1.heap.size (.slice none 0 0) [] := fun o => Rc.Own.nil _ _
              have hL4 := Rc.lits (R := WdR) W1 [Rl.wd Rl.sLet false, Rl.wd x.name false, Rl.wd [61] true] 3 rfl #[.string ⟨#[108, 101, 116]⟩, .int .i64 0, .int .i64 0, .bool false, .bool false, .string (str x.name), .int .i64 0, .int .i64 0, .bool false, .bool false, .string ⟨#[61]⟩, .int .i64 0, .int .i64 0, .bool false, .bool true] rfl
              have HLn : Hid (([] : List Lx.V).length + [Rl.wd Rl.sLet false, Rl.wd x.name false, Rl.wd [61] true].length ≤ 1099511627) := by show _ ≤ _; simp
              have hz4 : ∀ o, W1.heap.size ≤ (W1.alloc o).heap.size := fun o => (below_box W1 o).size
              have hBb := below_box W1
              go_wp2_with (at_builtin; go_must (refine WdR.append rfl _ _ rfl W1.heap.size (W1.heap.size + 1) _ _ [] [Rl.wd Rl.sLet false, Rl.wd x.name false, Rl.wd [61] true] rfl (hO4 _) rfl hL4 HLn (hz4 _) ?_))
              intro v' w' hO5 hG5
              go_wp2
              go_meet
              case rel => exact ⟨by rw [HP.out]; exact hO5, (hBb _).grown hG5 (hz4 _) (fun k h => by cases h)⟩
            · have e1 : (x.kind == 1) = false := by rw [beq_eq_false_iff_ne]; exact h1
              by_cases h2 : x.kind = 2
              · have e2 : (x.kind == 2) = true := by rw [beq_iff_eq]; exact h2
                have HP : Hid (Rl.pre x = [Rl.wd Rl.sIncl false]) := by rw [Hid, Rl.pre, if_neg h1, if_pos h2]
                clear h1 h2
                have hO4 : ∀ o, WdR.Own (W1.alloc o) W1.heap.size (.slice none 0 0) [] := fun o => Rc.Own.nil _ _
                have hL4 := Rc.lits (R := WdR) W1 [Rl.wd Rl.sIncl false] 1 rfl #[.string ⟨#[105, 110, 99, 108, 117, 100, 101]⟩, .int .i64 0, .int .i64 0, .bool false, .bool false] rfl
                have HLn : Hid (([] : List Lx.V).length + [Rl.wd Rl.sIncl false].length ≤ 1099511627) := by show _ ≤ _; simp
                have hz4 : ∀ o, W1.heap.size ≤ (W1.alloc o).heap.size := fun o => (below_box W1 o).size
                have hBb := below_box W1
                go_wp2_with (at_builtin; go_must (refine WdR.append rfl _ _ rfl W1.heap.size (W1.heap.size + 1) _ _ [] [Rl.wd Rl.sIncl false] rfl (hO4 _) rfl hL4 HLn (hz4 _) ?_))
                intro v' w' hO5 hG5
                go_wp2
                go_meet
                case rel => exact ⟨by rw [HP.out]; exact hO5, (hBb _).grown hG5 (hz4 _) (fun k h => by cases h)⟩
              · have e2 : (x.kind == 2) = false := by rw [beq_eq_false_iff_ne]; exact h2
                have HP : Hid (Rl.pre x = Rl.wd Rl.sRule false :: (x.targets ++ [Rl.wd [58] true])) := by rw [Hid, Rl.pre, if_neg h1, if_neg h2]
                have hpl2 := hpl
                rw [HP.out, List.length_cons, List.length_append, List.length_singleton] at hpl2
                clear h1 h2 hpl
                have hO4 : ∀ o, WdR.Own (W1.alloc o) W1.heap.size (.slice none 0 0) [] := fun o => Rc.Own.nil _ _
                have hL4 := Rc.lits (R := WdR) W1 [Rl.wd Rl.sRule false] 1 rfl #[.string ⟨#[114, 117, 108, 101]⟩, .int .i64 0, .int .i64 0, .bool false, .bool false] rfl
                have HLn : Hid (([] : List Lx.V).length + [Rl.wd Rl.sRule false].length ≤ 1099511627) := by show _ ≤ _; simp
                have hz4 : ∀ o, W1.heap.size ≤ (W1.alloc o).heap.size := fun o => (below_box W1 o).size
                have hBb := below_box W1
                go_wp2_with (at_builtin; go_must (refine WdR.append rfl _ _ rfl W1.heap.size (W1.heap.size + 1) _ _ [] [Rl.wd Rl.sRule false] rfl (hO4 _) rfl hL4 HLn (hz4 _) ?_))
                intro v' w' hO5 hG5
                have hB5 : Below W1.heap.size W1 w' := (hBb _).grown hG5 (hz4 _) (fun k h => by cases h)
                have r3' : w'.cell? ⟨g, 3, none⟩ = some (.slice ta x.targets.length tc) := (cell_below hB5 hg1 _).trans r3
                have hx5 := hx1.below hB5 (Nat.le_trans hBw hD1.size)
                have HLn5 : Hid ([Rl.wd Rl.sRule false].length + x.targets.length ≤ 1099511627) := by show _ ≤ _; simp only [List.length_singleton]; omega
                replace hO5 : WdR.Own w' W1.heap.size v' [Rl.wd Rl.sRule false] := hO5
                obtain ⟨ad5, n5, c5, rfl⟩ := hO5.isSl
                clear hL4 HLn
                go_wp2_with (at_builtin; go_must (refine WdR.append rfl _ _ rfl W1.heap.size B _ _ [Rl.wd Rl.sRule false] x.targets rfl hO5 rfl hx5 HLn5 hB5.size ?_))
                intro v6 w6 hO6 hG6
                have hB6 := hB5.grown hG6 hB5.size fun k e => (hO5.lt k e).1
                replace hO6 : WdR.Own w6 W1.heap.size v6 (Rl.wd Rl.sRule false :: x.targets) := hO6
                obtain ⟨ad6, n6, c6, rfl⟩ := hO6.isSl
                have hO7 := hO6.alloc (.cells #[.string ⟨#[58]⟩, .int .i64 0, .int .i64 0, .bool false, .bool true] 36)
                have hL7 := Rc.lits (R := WdR) w6 [Rl.wd [58] true] 1 rfl #[.string ⟨#[58]⟩, .int .i64 0, .int .i64 0, .bool false, .bool true] rfl
                have hB7 := hB6.alloc hB6.size (.cells #[.string ⟨#[58]⟩, .int .i64 0, .int .i64 0, .bool false, .bool true] 36)
                have HLn7 : Hid ((Rl.wd Rl.sRule false :: x.targets).length + [Rl.wd [58] true].length ≤ 1099511627) := by show _ ≤ _; simp only [List.length_cons, List.length_nil]; omega
                clear HLn5
                go_wp2_with (at_builtin; go_must (refine WdR.append rfl _ _ rfl W1.heap.size (w6.heap.size + 1) _ _ (Rl.wd Rl.sRule false :: x.targets) [Rl.wd [58] true] rfl hO7 rfl hL7 HLn7 hB7.size ?_))
                intro v8 w8 hO8 hG8
                have hB8 := hB7.grown hG8 hB7.size fun k e => (hO7.lt k e).1
                have HO8 : Hid (WdR.Own w8 W1.heap.size v8 (Rl.pre x)) := by
                  rw [Hid, HP.out]
                  exact hO8
                clear hO8
                go_wp2
                go_meet
                case rel => exact ⟨HO8.out, hB8⟩
          case rest =>
            obtain ⟨hOw, hBx⟩ := hcut
            obtain ⟨adw, nw, cw, rfl⟩ := hOw.isSl
            obtain ⟨W2, rfl⟩ : ∃ W, W = wc := ⟨_, rfl⟩
            have r5o := r5
            clear r0 r2 r3 r4 r5
            obtain ⟨-, -, -, r4, r5⟩ := HCS.out W2 ((hBx.block g hg1).trans k1)
            have hg3 : g < W2.heap.size := Nat.lt_of_lt_of_le hg1 hBx.size
            have k2 := (hBx.block g hg1).trans k1
            have hD2 : Below w.heap.size w W2 := hD1.trans (hBx.mono hD1.size)
            have hx2 := hX2.below hD2 hBw
            have hO2 := hO1.below hBx (Nat.le_refl _)
            have hO1' := hO1
            have HPH : Hid _ := Rl.pre_head x
            have HLn : Hid ((Rl.pre x).length + x.words.length ≤ 1099511627) := by
              show _ ≤ _
              rw [HPH.out, List.length_append] at hhd
              exact hhd
            obtain ⟨ado, no, co, rfl⟩ : ∃ ad n c, u4 = .slice ad n c := by
              obtain ⟨ps, h1, -, -⟩ := hO2
              exact h1.isSl
            have k1o := k1
            clear hO1 hX1 hX2 k1
            go_wp2_with (at_builtin; go_must (refine WdR.append rfl _ _ rfl W1.heap.size B _ _ (Rl.pre x) x.words rfl hOw rfl hx2 HLn hBx.size ?_))
            intro v3 w3 hO3 hG3
            have hB3 : Below W1.heap.size W1 w3 := hBx.grown hG3 hBx.size fun k e => (hOw.lt k e).1
            have hgo : Below W1.heap.size W2 w3 := grown_below hOw hBx.size hG3
            have hO3' : WdR.Own w3 w.heap.size v3 (Rl.head x) := by
              rw [HPH.out]
              exact hO3.low hD1.size
            obtain ⟨ad3, n3, c3, rfl⟩ := hO3'.isSl
            obtain ⟨ps, hp1, hp2, hp3⟩ := hO1'.below hB3 (Nat.le_refl _)
            clear hO3 hO2 hOw hG3 HLn
            have hD3 : Below w.heap.size w w3 := hD1.trans (hB3.mono hD1.size)
            have hlen : (ps.map Prod.fst).length = (Rl.lines (A.take i)).length := by rw [hp2, List.length_map, List.length_map]
            have hN3 : n3 = (Rl.head x).length := by
              obtain ⟨_, _, e, _⟩ := hO3'.sl.shape
              simp only [Value.slice.injEq] at e
              exact e.2.1
            have hL4 := LnR.lit w3 ⟨0, false, ad3, n3, c3⟩ #[.int .i64 0, .bool false, .slice ad3 n3 c3] rfl
            have hO4 := hp1.alloc (.cells #[.int .i64 0, .bool false, .slice ad3 n3 c3] 48)
            have hB4 := hD3.alloc hD3.size (.cells #[.int .i64 0, .bool false, .slice ad3 n3 c3] 48)
            have HQ4 : Hid (∀ p ∈ ps, LineM w B (w3.alloc (.cells #[.int .i64 0, .bool false, .slice ad3 n3 c3] 48)) w.heap.size p.1 p.2) := fun p hp => (hp3 p hp).below (below_box w3 _) (Nat.le_refl _)
            have HX4 : Hid (∀ p ∈ [((⟨0, false, ad3, n3, c3⟩ : RawL), (⟨0, false, Rl.head x⟩ : Lx.L))], LineM w B (w3.alloc (.cells #[.int .i64 0, .bool false, .slice ad3 n3 c3] 48)) w.heap.size p.1 p.2) := by
              intro p hp
              rw [List.mem_singleton] at hp
              subst hp
              exact ⟨rfl, rfl, .inr (hO3'.alloc _)⟩
            have HLn : Hid ((ps.map Prod.fst).length + ([⟨0, false, ad3, n3, c3⟩] : List RawL).length ≤ 1099511627) := by show _ ≤ _; rw [hlen, List.length_singleton]; omega
            have HLE : Hid _ := hlen
            have r5' : w3.cell? ⟨g, 5, none⟩ = some (.slice ca x.code.length cc) := (cell_below hB3 hg1 _).trans r5o
            have HP2 : Hid _ := hp2
            clear hp1 hp2 hp3 hlen hO3' hN3
            go_wp2_with (at_builtin; go_must (refine LnR.append rfl _ _ rfl w.heap.size (w3.heap.size + 1) _ _ (ps.map Prod.fst) [⟨0, false, ad3, n3, c3⟩] rfl hO4 rfl hL4 HLn hB4.size ?_))
            intro v5 w5 hO5 hG5
            have hO6 : OutP w B w5 w.heap.size v5 (Rl.lines (A.take i) ++ [⟨0, false, Rl.head x⟩]) := OutP.grown (qs := [(⟨0, false, ad3, n3, c3⟩, ⟨0, false, Rl.head x⟩)]) hO4 HP2.out HQ4.out rfl HX4.out hO5 hG5
            have hD5 := hB4.grown hG5 hB4.size fun k e => (hO4.lt k e).1
            have hgw : g < w3.heap.size := Nat.lt_of_lt_of_le hg1 hB3.size
            have k4 := ((below_box w3 (.cells #[.int .i64 0, .bool false, .slice ad3 n3 c3] 48)).block g hgw).trans ((hB3.block g hg1).trans k1o)
            have k5 := (hG5.block g (Nat.lt_of_lt_of_le hgw (below_box w3 _).size) (own_ne hO4 k4 (by decide))).trans k4
            obtain ⟨-, -, -, -, r6⟩ := HCS.out w5 k5
            clear hO5 hG5 hO4 hL4 HLn HQ4 HX4 HP2 k4 k5 hB4 hgw
            obtain ⟨ps', hp1, hp2, hp3⟩ := hO6
            obtain ⟨qs, hq1, hq2, hq3⟩ := hX3
            have hq5 := hq1.below hD5 hBw
            obtain ⟨ad5, n5, c5, rfl⟩ := hp1.isSl
            have HLn5 : Hid ((ps'.map Prod.fst).length + (qs.map Prod.fst).length ≤ 1099511627) := by
              show _ ≤ _
              have e1 := congrArg List.length hp2
              have e2 := congrArg List.length hq2
              rw [List.length_append, List.length_singleton, List.length_map] at e1
              rw [List.length_map] at e2
              rw [List.length_map, List.length_map, ← e1, ← e2]
              omega
            have HP5 : Hid _ := hp2
            have HP6 : Hid _ := hp3
            have HQ5 : Hid _ := hq2
            have HQ6 : Hid (∀ p ∈ qs, LineM w B w5 w.heap.size p.1 p.2) := fun p hp => ⟨(hq3 p hp).1, (hq3 p hp).2.1, .inl (hq3 p hp).2.2⟩
            clear hp2 hp3 hq2 hq3 hq1
            go_wp2_with (at_builtin; go_must (refine LnR.append rfl _ _ rfl w.heap.size B _ _ (ps'.map Prod.fst) (qs.map Prod.fst) rfl hp1 rfl hq5 HLn5 hD5.size ?_))
            intro v7 w7 hO7 hG7
            have hO8 := OutP.grown hp1 HP5.out HP6.out HQ5.out HQ6.out hO7 hG7
            have hD7 := hD5.grown hG7 hD5.size fun k e => (hp1.lt k e).1
            have HO8 : Hid (OutP w B w7 w.heap.size v7 (Rl.lines (A.take (i + 1)))) := by
              rw [Hid, HLT.out]
              rw [List.append_assoc, List.singleton_append] at hO8
              exact hO8
            clear hO8 hO7 hG7 hp1 hq5 HLn5 HP5 HP6 HQ5 HQ6
            go_wp2
            exact ⟨⟨i + 1, by omega, by go_num, HO8.out, hD7⟩, by simp [intOf]; omega⟩
      · obtain rfl : i = A.length := by omega
        have i1 : ¬ (A.length : Int) < (A.length : Int) := by omega
        rw [List.take_length] at hO
        have hwl : ∀ x ∈ Rl.lines A, x.words.length ≤ 1099511627 ∧ ∀ u ∈ x.words, u.text.length ≤ 1099511 := by
          intro l hl
          simp only [Rl.lines, List.mem_flatMap, Rl.linesI, List.mem_cons] at hl
          obtain ⟨x, hx, rfl | hl⟩ := hl
          · refine ⟨HHH.out x hx, fun u hu => ?_⟩
            have hfx := HFW.out x hx
            rcases Rl.head_mem hu with h | h | h | h
            · exact hfx.tt u h
            · exact hfx.wt u h
            · rw [h]; exact hfx.name
            · omega
          · exact ⟨(HFW.out x hx).lines l hl, (HFW.out x hx).ct l hl⟩
        obtain ⟨ado, no, co, rfl⟩ : ∃ ad n c, u4 = .slice ad n c := by
          obtain ⟨ps, h1, -, -⟩ := hO
          exact h1.isSl
        have hwr := WriteT_any _ (Rl.lines A) wr wr.heap.size (hO.s hD hBw) (Nat.le_refl _) htot hL (fun x hx => (hwl x hx).1) (fun x hx => (hwl x hx).2)
        clear hwl
        go_wp2_with fail
        refine hwr.mono ?_
        rintro e w2 ⟨rfl, hB2⟩
        clear hwr
        go_wp2
        go_ret2
        exact ⟨rfl, hD.trans (hB2.mono hD.size)⟩

end Go.Proofs.Ythpipbkbldlfjaa
