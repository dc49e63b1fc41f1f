/-
  WHAT THE PROGRAM's List DOES, and slices.Values.
-/
import Derived.Test.YtifolddmcibkdaaTXS
import Derived.Test.YtifolddmcibkdaaTRows
import Derived.Test.YtifolddmcibkdaaRList
import Derived.Test.YtifolddmcibkdaaSLibP
namespace Go.Proofs.Ytifolddmcibkdaa
open Go.RowKit Go.Shelf
attribute [local go_sem] Oper.semAt_some

set_option maxRecDepth 100000 in
set_option maxHeartbeats 2000000 in
theorem values1 (w : World) (Bp : Nat) (v : Value) (L : List ByteArray) (hlen : L.length ≤ 100000000) (hbox : w.heap[Bp]? = some (.cells #[v] 35 (0, 0))) (hO : StR.Own w 0 v L) :
    SeqOf w 51 #[.pointer (some ⟨Bp, 0, none⟩)] L (Bp :: v.ownBlock.toList) := fun W0 hz0 hD n hn l J Jx W hW hJ hJx hY h0 => by
  refine callsIn_of_wp Try.func51 rfl trivial ?_ rfl
  simp only [Try.ntmps51, List.size_toArray, List.length_cons, List.length_nil, Nat.reduceAdd, Nat.reduceSub, Array.replicate_succ, Array.replicate_zero, List.push_toArray, List.append_toArray, List.nil_append, List.cons_append]
  have hBp : Bp < w.heap.size := (Array.getElem?_eq_some_iff.1 hbox).1
  have hlt := hO.lt
  have hKW : KeepD (Bp :: v.ownBlock.toList) w W := hD.trans (KeepD.below (fun b hb => by
    simp only [List.mem_cons, Option.mem_toList] at hb
    rcases hb with rfl | h
    · omega
    · have := (hlt b h).2; omega) hW)
  have hb1 : W.heap[Bp]? = some (.cells #[v] 35 (0, 0)) := (hKW Bp (by simp)).trans hbox
  have hc := (cell_of_row W Bp 0 _ 35 (0, 0) hb1).trans rfl
  have hsl := hO.sl
  have HR : Hid (L ≠ [] → ∃ b o, v.ownBlock = some b ∧ (∃ c, v = .slice (some ⟨b, o, none⟩) L.length c) ∧ ∀ j, j < L.length → W.cell? ⟨b, o + j, none⟩ = some (.string (L.getD j .empty))) := fun hne => by
    have h0 : 0 < L.length := List.length_pos_iff.2 hne
    obtain ⟨b, o, c, e, -, -⟩ := StR.at hsl 0 h0
    subst e
    refine ⟨b, o, rfl, ⟨c, rfl⟩, fun j hj => ?_⟩
    obtain ⟨b', o', c', e, hb', p⟩ := StR.at hsl j hj
    simp only [Value.slice.injEq, Option.some.injEq, Addr.mk.injEq] at e
    obtain ⟨⟨rfl, rfl, -⟩, -, -⟩ := e
    exact (World.cell?_of_block (a := ⟨b, o + j, none⟩) (hKW b (by simp [Value.ownBlock]))).trans p
  obtain ⟨ad, c, rfl, hle⟩ := hsl.shape
  have HY : Hid _ := hY
  clear hY hO hb1 hbox hlt
  gi_wp2
  gi_loopw [4, 7] (fun x i wr => ∃ k : Nat, k ≤ L.length ∧ i = .int .i64 (k : Int) ∧ J (L.take k) wr ∧ KeepD (Bp :: (Value.slice ad L.length c).ownBlock.toList) W wr) (fun _ i _ => L.length - (intOf i).toNat)
  case atStart => exact ⟨0, Nat.zero_le _, rfl, h0, fun _ _ => rfl⟩
  case round =>
    obtain ⟨k, hk, rfl, hJk, hKk⟩ := hrel
    by_cases hlt : k < L.length
    · obtain ⟨b, o, hob, ⟨c', e⟩, hcs⟩ := HR.out (by rintro rfl; simp at hlt)
      simp only [Value.slice.injEq] at e
      obtain ⟨rfl, -, rfl⟩ := e
      have ck := (World.cell?_of_block (w := W) (w' := wr) (a := ⟨b, o + k, none⟩) (hKk b (by simp [Value.ownBlock]))).trans (hcs k hlt)
      have HCS : Hid _ := hcs
      have ht : L.take (k + 1) = L.take k ++ [L.getD k .empty] := by
        rw [List.take_succ_eq_append_getElem hlt, List.getD_eq_getElem?_getD, List.getElem?_eq_getElem hlt]; rfl
      generalize L.getD k .empty = x at *
      clear hcs
      have i1 : (k : Int) < (L.length : Int) := by omega
      obtain ⟨fn, tmps, assign, body, hy, hR⟩ := HY.out (L.take k) x wr hJk (by rw [List.length_take]; omega)
      gi_wp2
      refine hR.mono ?_
      rw [← ht]
      rintro e W3 (⟨rfl, hJ3, hk3⟩ | ⟨rfl, hJx3⟩)
      · gi_wp2
        go_roundw
        case rel => exact ⟨k + 1, by omega, by go_num, hJ3, hKk.trans hk3⟩
        case measure => simp [intOf]; omega
      · gi_wp2
        refine bodyPost_ret (results_none rfl _ _ _) rfl ?_
        exact ⟨⟨_, rfl⟩, .inr ⟨L.take (k + 1), List.take_prefix _ _, hJx3⟩⟩
    · obtain rfl : k = L.length := by omega
      have i1 : ¬ (L.length : Int) < (L.length : Int) := by omega
      gi_wp2
      go_end0
      exact ⟨⟨_, rfl⟩, .inl (by rw [List.take_length] at hJk; exact hJk)⟩

/-- what a text's iterator is: its blocks new -/
def IterOf (w w' : World) (e : Ending) (L : List ByteArray) : Prop := ∃ gf lb D, e = .returned (.func (.func gf) #[] lb) ∧ (∀ args W, (callFunc gf args).run Try.prog W = .ok (.enter gf args) W) ∧ SeqOf w' gf lb L D ∧ (∀ b ∈ D, w.heap.size ≤ b ∧ b < w'.heap.size) ∧ Below w.heap.size w w'
set_option maxRecDepth 100000 in
theorem Values_any {w w0 : World} {v : Value} {L : List ByteArray} (hO : StR.Own w w0.heap.size v L) (hl : L.length ≤ 100000000) (hB : Below w0.heap.size w0 w) :
    Calls Try.prog 41 #[v] w fun e w' => IterOf w0 w' e L := by
  have hlt := hO.lt
  have hbx := heap_alloc_new w (.cells #[v] 35)
  have hO1 : StR.Own (w.alloc (.cells #[v] 35)) 0 v L := (hO.alloc _).low (Nat.zero_le _)
  obtain ⟨ad, n, c, rfl⟩ := hO.isSl
  go_enter Try.func41, Try.ntmps41
  go_wp2
  go_ret
  refine ⟨_, _, _, rfl, enters_of Try.func51 (by kernel_rfl) rfl, values1 _ w.heap.size _ _ hl hbx hO1, ?_, hB.alloc hB.size _⟩
  intro b hb
  simp only [List.mem_cons, Option.mem_toList] at hb
  rcases hb with rfl | hb
  · exact ⟨hB.size, by simp⟩
  · have := hlt b hb
    exact ⟨this.1, by simp; omega⟩

theorem list_sorted {t : Tm.T} (hk : Tm.Ok t) (pre : ByteArray) {ks : List ByteArray} (hn : ks.Nodup) (hm : ∀ q, q ∈ ks ↔ (Tm.look t.files q).isSome = true) : Ks.sortT (ks.filter (Tm.begins pre)) = Tm.list t pre := by
  have hup : Ks.Rising (t.files.map Tm.Fl.path) := List.pairwise_map.2 hk.rise
  refine Ks.rising_ext (Ks.sortT_rising (hn.filter _)) (hup.filter _) fun q => ?_
  rw [Ks.mem_sortT, List.mem_filter, hm]
  unfold Tm.list
  rw [List.mem_filter, List.mem_map, isIn_look hk.rise]
  refine and_congr_left fun _ => ?_
  rw [Tm.isIn_iff hk.rise]
  constructor
  · rintro ⟨s, hs⟩; exact ⟨_, hs, rfl⟩
  · rintro ⟨f, hf, rfl⟩; exact ⟨f.text, hf⟩

set_option maxRecDepth 100000 in
set_option maxHeartbeats 2000000 in
theorem TList_any (g : Nat) (t : Tm.T) (S : List Nat) (pre : ByteArray) (w : World) (h : HasT w g t S) (hk : Tm.Ok t) :
    Calls Try.prog 26 #[.pointer (some ⟨g, 0, none⟩), .string pre] w fun e w' => ∃ gf lb D, e = .returned (.func (.func gf) #[] lb) ∧ (∀ args W, (callFunc gf args).run Try.prog W = .ok (.enter gf args) W) ∧ SeqOf w' gf lb (Tm.list t pre) D ∧ (∀ b ∈ D, w.heap.size ≤ b ∧ b < w'.heap.size) ∧ Below w.heap.size w w' := by
  show Calls Try.prog _ _ w fun e w' => IterOf w w' e (Tm.list t pre)
  obtain ⟨mv, J, hb, hr, hf, rfl⟩ := h
  have c0 := (tree_cells hb).1
  have hfew := hk.few
  rcases hf with ⟨rfl, h0⟩ | ⟨b, rfl, D, hD⟩
  · have hlist : Tm.list t pre = [] := by unfold Tm.list; rw [h0]; rfl
    rw [hlist]
    have hrg := run_range_nilMap (P := Try.prog) w 27 9 71 Try.underlying27
    have hnx : ∀ ty, (Instr.next (.pointer (some ⟨w.heap.size, 0, none⟩)) false ty).run Try.prog (w.alloc (.mapIter none 0 #[] 0)) = _ := fun ty => run_next_nilMap _ ty 0 0 #[]
    have hBa := (Below.refl w.heap.size w).alloc (Nat.le_refl _) (.mapIter none 0 #[] 0)
    have hOn : StR.Own (w.alloc (.mapIter none 0 #[] 0)) w.heap.size (.slice none 0 0) [] := Rc.Own.nil _ _
    go_enter Try.func26, Try.ntmps26
    go_wp2
    refine wp_loop_rounds 1 ?_
    rw [rounds_succ]
    go_wp2_with fail
    refine (Sort_any hOn (by simp)).mono ?_
    rintro e w5 ⟨rfl, hO5, hg5⟩
    have hB5 := hBa.grown hg5 hBa.size fun j e => (hOn.lt j e).1
    rw [sortT_nil] at hO5
    go_wp2_with fail
    refine (Values_any hO5 (by simp) hB5).mono ?_
    rintro e w6 ⟨gf, lb, D6, rfl, h6, h7, h8, h9⟩
    go_wp2
    go_ret
    exact ⟨gf, lb, D6, rfl, h6, h7, h8, h9⟩
  · have hown := hD.1
    have hbl := hown.lt
    have hsz := hD.2.1
    have HSZ : Hid _ := hsz
    go_enter Try.func26, Try.ntmps26
    go_wp2_with (first
      | (at_range; refine wpList_range_own _ rfl _ 27 rfl 9 71 keyed9 Try.underlying27 tokT b _ D rfl hown ?_; intro w0 hrg0 hg0 hs0)
      | go_in)
    go_frame
    clear hs0
    go_loopw [5, 6] (fun v _ wr => ∃ (left : Lit → Bool) (cnt : Nat) (ss : List (List UInt8)), wr.ranges Try.prog 9 tokT b w.heap.size t.files.length D left cnt ∧ ss.length + cnt ≤ 256 ∧ StR.Own wr w.heap.size v ((ss.map Ks.ba).filter (Tm.begins pre)) ∧ Collected D left ss ∧ Below w.heap.size w wr)
      (fun _ _ wr => wr.rangeLeft b w.heap.size)
    case atStart => exact ⟨_, _, [], hrg0, by rw [HSZ.out]; simpa using hfew, Rc.Own.nil _ _, Collected.start D, (Below.refl _ _).grown hg0 (Nat.le_refl _) (fun j hj => by cases hj)⟩
    case round =>
      obtain ⟨left, cnt, ss, hrg, hcs, hrow, hC, hnx⟩ := hrel
      go_wp2_with (first
        | (at_next; refine wpList_next_ranges _ rfl _ rfl 9 keyed9 tokT Go.Proofs.encStr (id : Value → Value) (fun key kl hk => by obtain ⟨x, hx, _⟩ := Maps.keyOf_str Try.underlying9 hk; exact ⟨x, hx⟩) (fun v y hv => ⟨v, rfl⟩) b w.heap.size _ _ _ _ rfl hrg ?_ ?_)
        | go_in)
      · intro hc0 hl0
        obtain ⟨hn, hm⟩ := collected_end hD hC hl0
        have hLs : Ks.sortT ((ss.map Ks.ba).filter (Tm.begins pre)) = Tm.list t pre := list_sorted hk pre hn hm
        have hll : ((ss.map Ks.ba).filter (Tm.begins pre)).length ≤ 256 := Nat.le_trans (List.length_filter_le _ _) (by simp; omega)
        have HLs : Hid _ := hLs
        clear hLs hn hm hc0 hl0 hC
        generalize (ss.map Ks.ba).filter (Tm.begins pre) = L at *
        obtain ⟨a5, n5, c5, rfl⟩ := hrow.isSl
        go_wp2_with fail
        refine (Sort_any hrow (by omega)).mono ?_
        rintro e w5 ⟨rfl, hO5, hg5⟩
        have hB5 := hnx.grown hg5 hnx.size fun j e => (hrow.lt j e).1
        rw [HLs.out] at hO5
        have hl5 : (Tm.list t pre).length ≤ 256 := by rw [← HLs.out, Ks.sortT_length]; exact hll
        go_wp2_with fail
        refine (Values_any hO5 (by omega) hB5).mono ?_
        rintro e w6 ⟨gf, lb, D6, rfl, h6, h7, h8, h9⟩
        go_wp2
        go_ret
        exact ⟨gf, lb, D6, rfl, h6, h7, h8, h9⟩
      · intro x c kl yd yp w2 cnt2 hkey hlk hv hat hrg2 hlt hg2 hs2 hen
        obtain ⟨x', ex, rfl, _⟩ := Maps.keyOf_str Try.underlying9 hkey
        obtain rfl : x = x' := encStr_inj ex
        have hrow2 : StR.Own w2 w.heap.size _ _ := World.ownsRow.kept hrow hg2 (Or.inr (row_ne_iter hrow hrg).symm)
        have hB2 := hnx.grown hg2 hnx.size (fun j hj => by cases hj; exact Nat.le_refl _)
        have hC2 := hC.step hlk hat
        have hfl : ((ss ++ [x]).map Ks.ba).filter (Tm.begins pre) = (ss.map Ks.ba).filter (Tm.begins pre) ++ (if Tm.begins pre (Ks.ba x) = true then [Ks.ba x] else []) := by
          rw [List.map_append, List.filter_append]
          congr 1
          simp only [List.map_cons, List.map_nil, List.filter_cons, List.filter_nil]
        have HFl : Hid _ := hfl
        have hll : ((ss.map Ks.ba).filter (Tm.begins pre)).length ≤ 256 := Nat.le_trans (List.length_filter_le _ _) (by simp; omega)
        clear hs2 hfl
        generalize hL : (ss.map Ks.ba).filter (Tm.begins pre) = L at *
        clear hL
        have hhp : ∀ W, Calls Try.prog 39 #[.string (Ks.ba x), .string pre] W fun e w' => e = .returned (.bool (Tm.begins pre (Ks.ba x))) ∧ w' = W := HasPrefix_any (Ks.ba x) pre
        have hen2 : (Instr.entry (.pointer (some ⟨w.heap.size, 0, none⟩))).run Try.prog w2 = .ok (.tuple #[.string (Ks.ba x), c]) w2 := hen
        clear hen
        cases hbg : Tm.begins pre (Ks.ba x) with
        | true =>
          rw [hbg, if_pos rfl] at HFl
          rw [hbg] at hhp
          clear hbg
          have hL4 := StR.lit w2 (Ks.ba x) #[.string (Ks.ba x)] rfl
          have hO4 := hrow2.alloc (.cells #[.string (Ks.ba x)] 9)
          have hB4 := hB2.alloc hB2.size (.cells #[.string (Ks.ba x)] 9)
          have HLn : Hid (L.length + [Ks.ba x].length ≤ 1099511627) := by show _ ≤ _; simp; omega
          have hrg4 := hrg2.alloc (.cells #[.string (Ks.ba x)] 9)
          have HC2 : Hid (Collected D (fun z => left z && !z.sameKey (Lit.string x)) (ss ++ [x])) := hC2
          clear hC2
          generalize Ks.ba x = bx at *
          obtain ⟨a5, n5, c5, rfl⟩ := hrow.isSl
          go_wp2_with fail
          refine (hhp _).mono ?_
          rintro e w3 ⟨rfl, hw3⟩
          rw [hw3]
          clear hw3
          go_wp2_with (at_builtin; go_must (refine StR.append rfl _ _ rfl w.heap.size (w2.heap.size + 1) _ _ L [bx] rfl hO4 rfl hL4 HLn hB4.size ?_))
          intro v5 w5 hO5 hg5
          have hB5 := hB4.grown hg5 hB4.size fun j e => (hO4.lt j e).1
          have hrg5 := hrg4.kept hg5 (row_ne_low hO4 hbl) (row_ne_iter hO4 hrg4)
          go_wp2
          refine ⟨⟨_, cnt2, ss ++ [x], hrg5, by simp; omega, by rw [HFl.out]; exact hO5, HC2.out, hB5⟩, ?_⟩
          rw [hrg5.left_eq, hrg.left_eq]; exact hlt
        | false =>
          rw [hbg] at hhp HFl
          simp only [Bool.false_eq_true, if_false, List.append_nil] at HFl
          clear hbg
          generalize Ks.ba x = bx at *
          obtain ⟨a5, n5, c5, rfl⟩ := hrow.isSl
          go_wp2_with fail
          refine (hhp _).mono ?_
          rintro e w3 ⟨rfl, hw3⟩
          rw [hw3]
          clear hw3
          go_wp2
          refine ⟨⟨_, cnt2, ss ++ [x], hrg2, by simp; omega, by rw [HFl.out]; exact hrow2, hC2, hB2⟩, ?_⟩
          rw [hrg2.left_eq, hrg.left_eq]; exact hlt

end Go.Proofs.Ytifolddmcibkdaa
