/-
  THE WALK OF THE DOCUMENT's Join.
-/
import Derived.Test.YtplfcpbjlhobeaaDHalf
import Derived.Test.YtplfcpbjlhobeaaRSmall
import Derived.Test.YtplfcpbjlhobeaaCJoin
import Derived.Test.YtplfcpbjlhobeaaDParts
namespace Go.Proofs.Ytplfcpbjlhobeaa
open Go.RowKit

theorem getD_at {l : List Cm.It} {j : Nat} (hj : j < l.length) : l.getD j Cm.zero = l[j] := by simp [List.getD, List.getElem?_eq_getElem hj]
/-- Join's variables: both nodes, the place of the result -/
structure RJ (w wr : World) (la : Bool) (vai vak : Value) (lb : Bool) (vbi vbk : Value) : Prop where
  na : wr.heap[w.heap.size]? = some (.cells #[.bool la, vai, vak] 28 (0, 0))
  nb : wr.heap[w.heap.size + 1]? = some (.cells #[.bool lb, vbi, vbk] 28 (0, 0))
  rs : wr.heap[w.heap.size + 2]? = some (.cells #[.bool false, .slice none 0 0, .slice none 0 0] 28 (0, 0))
  be : Below w.heap.size w wr
theorem RJ.below {w wr w' : World} {la lb : Bool} {vai vak vbi vbk : Value} (h : RJ w wr la vai vak lb vbi vbk) (hb : Below wr.heap.size wr w') : RJ w w' la vai vak lb vbi vbk :=
  ⟨(hb.block _ (lt_of_heap h.na)).trans h.na, (hb.block _ (lt_of_heap h.nb)).trans h.nb, (hb.block _ (lt_of_heap h.rs)).trans h.rs, h.be.trans (hb.mono h.be.size)⟩

/-- .. and the node that is made, in the block q -/
structure RQ (w X : World) (q : Nat) (la : Bool) (vai vak : Value) (lb : Bool) (vbi vbk vi vk : Value) (li : List Cm.It) (lk : List Int) : Prop where
  j : RJ w X la vai vak lb vbi vbk
  q0 : w.heap.size + 3 ≤ q
  nq : X.heap[q]? = some (.cells #[.bool la, vi, vk] 28 (0, 0))
  oi : OwnC X (q + 1) vi li
  ok : OwnN X (q + 1) vk lk
theorem RJ.grow {w X X' : World} {q : Nat} {la lb : Bool} {vai vak vbi vbk v u : Value} {k : Nat} (h : RJ w X la vai vak lb vbi vbk) (h2 : X.grownBy X' v.ownBlock) (hg : ∀ g, v.ownBlock = some g → q + 1 ≤ g) (hq : w.heap.size + 3 ≤ q) : RJ w (X'.setCell ⟨q, k, none⟩ u) la vai vak lb vbi vbk := by
  have hk : ∀ b o, b < q → X.heap[b]? = some o → (X'.setCell ⟨q, k, none⟩ u).heap[b]? = some o := fun b o hb h => k_s1 ((h2.block b (lt_of_heap h) (fun e => by have := hg _ e.symm; omega)).trans h) (by omega)
  exact ⟨hk _ _ (by omega) h.na, hk _ _ (by omega) h.nb, hk _ _ (by omega) h.rs, (h.be.grown h2 h.be.size fun g e => by have := hg _ e; omega).setCell (by show w.heap.size ≤ q; omega) _⟩
theorem RQ.addC {w X X' : World} {q : Nat} {la lb : Bool} {vai vak vbi vbk vi vk v' : Value} {li li' : List Cm.It} {lk : List Int} (h : RQ w X q la vai vak lb vbi vbk vi vk li lk) (h1 : OwnC X' (q + 1) v' li') (h2 : X.grownBy X' vi.ownBlock) :
    X'.heap[q]? = some (.cells #[.bool la, vi, vk] 28 (0, 0)) ∧ RQ w (X'.setCell ⟨q, 1, none⟩ v') q la vai vak lb vbi vbk v' vk li' lk := by
  have hg : ∀ g, vi.ownBlock = some g → q + 1 ≤ g := fun g e => (World.ownsRow.lt h.oi g e).1
  have hn : X'.heap[q]? = some (.cells #[.bool la, vi, vk] 28 (0, 0)) := (h2.block q (lt_of_heap h.nq) (fun e => by have := hg _ e.symm; omega)).trans h.nq
  have hap : vk.ownBlock = none ∨ vk.ownBlock ≠ vi.ownBlock := by
    rcases h.oi.2 with ⟨rfl, _⟩ | ⟨g, cap, cur, rfl, _, hgg, _⟩
    · cases hv : vk.ownBlock with
      | none => exact .inl rfl
      | some x => exact .inr (by simp [Value.ownBlock])
    · cases hv : vk.ownBlock with
      | none => exact .inl rfl
      | some x => exact .inr (by intro e; simp only [Value.ownBlock, Option.some.injEq] at e; exact Row.ne h.ok hgg (by decide) hv e)
  exact ⟨hn, h.j.grow h2 hg h.q0, h.q0, heap_setCell_same X' q 1 _ _ v' hn, OwnC.set h1 (by omega), OwnN.set (World.ownsRow.kept h.ok h2 hap) (by omega)⟩
theorem RQ.addN {w X X' : World} {q : Nat} {la lb : Bool} {vai vak vbi vbk vi vk v' : Value} {li : List Cm.It} {lk lk' : List Int} (h : RQ w X q la vai vak lb vbi vbk vi vk li lk) (h1 : OwnN X' (q + 1) v' lk') (h2 : X.grownBy X' vk.ownBlock) :
    X'.heap[q]? = some (.cells #[.bool la, vi, vk] 28 (0, 0)) ∧ RQ w (X'.setCell ⟨q, 2, none⟩ v') q la vai vak lb vbi vbk vi v' li lk' := by
  have hg : ∀ g, vk.ownBlock = some g → q + 1 ≤ g := fun g e => (World.ownsRow.lt h.ok g e).1
  have hn : X'.heap[q]? = some (.cells #[.bool la, vi, vk] 28 (0, 0)) := (h2.block q (lt_of_heap h.nq) (fun e => by have := hg _ e.symm; omega)).trans h.nq
  have hap : vi.ownBlock = none ∨ vi.ownBlock ≠ vk.ownBlock := by
    rcases h.ok.2 with ⟨rfl, _⟩ | ⟨g, cap, cur, rfl, _, hgg, _⟩
    · cases hv : vi.ownBlock with
      | none => exact .inl rfl
      | some x => exact .inr (by simp [Value.ownBlock])
    · cases hv : vi.ownBlock with
      | none => exact .inl rfl
      | some x => exact .inr (by intro e; simp only [Value.ownBlock, Option.some.injEq] at e; exact Row.ne h.oi hgg (by decide) hv e)
  exact ⟨hn, h.j.grow h2 hg h.q0, h.q0, heap_setCell_same X' q 2 _ _ v' hn, OwnC.set (World.ownsRow.kept h.oi h2 hap) (by omega), OwnN.set h1 (by omega)⟩
theorem RQ.below {w X X' : World} {q : Nat} {la lb : Bool} {vai vak vbi vbk vi vk : Value} {li : List Cm.It} {lk : List Int} (h : RQ w X q la vai vak lb vbi vbk vi vk li lk) (hb : Below X.heap.size X X') : RQ w X' q la vai vak lb vbi vbk vi vk li lk :=
  ⟨h.j.below hb, h.q0, (hb.block _ (lt_of_heap h.nq)).trans h.nq, h.oi.below hb (Nat.le_refl _), h.ok.below hb (Nat.le_refl _)⟩

set_option maxRecDepth 100000 in
set_option maxHeartbeats 4000000 in
theorem RJoin_any (a b : Cm.Nd) (key : ByteArray) (va vb : Value) (B : Nat) (w : World) (ha : NdS w B va a) (hb : NdS w B vb b) (hB : B ≤ w.heap.size) (hla : a.items.length ≤ 400000) (hlb : b.items.length ≤ 400000) (hka : a.kids.length ≤ 400000) (hkb : b.kids.length ≤ 400000) :
    Calls Try.prog 19 #[va, .string key, vb] w fun e w' => ∃ vn, e = .returned (.tuple #[vn, .int .i64 ((Cm.join a key b).2 : Int)]) ∧ NdS w' w'.heap.size vn (Cm.join a key b).1 ∧ Below w.heap.size w w' := by
  have HNa : Hid (∀ W : World, Below w.heap.size w W → NdS W B va a) := fun W h => ha.below h hB
  have HNb : Hid (∀ W : World, Below w.heap.size w W → NdS W B vb b) := fun W h => hb.below h hB
  obtain ⟨vai, vak, rfl, ⟨ad, c, rfl, -, -, hia⟩, ⟨kd, d, rfl, -, -, -⟩⟩ := id ha
  obtain ⟨vbi, vbk, rfl, ⟨bd, e, rfl, -, -, hib⟩, ⟨ld, f, rfl, -, -, -⟩⟩ := id hb
  have HIa : Hid _ := hia
  have HIb : Hid _ := hib
  have hJ0 : RJ w (((w.alloc (.cells #[.bool a.leaf, .slice ad a.items.length c, .slice kd a.kids.length d] 28)).alloc (.cells #[.bool b.leaf, .slice bd b.items.length e, .slice ld b.kids.length f] 28)).alloc (.cells #[.bool false, .slice none 0 0, .slice none 0 0] 28)) a.leaf (.slice ad a.items.length c) (.slice kd a.kids.length d) b.leaf (.slice bd b.items.length e) (.slice ld b.kids.length f) :=
    ⟨k_al (k_al (heap_alloc_new w _) _) _, k_al (by have := heap_alloc_new (w.alloc (.cells #[.bool a.leaf, .slice ad a.items.length c, .slice kd a.kids.length d] 28)) (.cells #[.bool b.leaf, .slice bd b.items.length e, .slice ld b.kids.length f] 28); simpa using this) _,
      by have := heap_alloc_new ((w.alloc (.cells #[.bool a.leaf, .slice ad a.items.length c, .slice kd a.kids.length d] 28)).alloc (.cells #[.bool b.leaf, .slice bd b.items.length e, .slice ld b.kids.length f] 28)) (.cells #[.bool false, .slice none 0 0, .slice none 0 0] 28); simpa using this,
      (((Below.refl w.heap.size w).alloc (Nat.le_refl _) _).alloc (by simp) _).alloc (by simp; omega) _⟩
  have HNo : Hid (¬ Cm.MayJoin a key b → ∀ X : World, RJ w X a.leaf (.slice ad a.items.length c) (.slice kd a.kids.length d) b.leaf (.slice bd b.items.length e) (.slice ld b.kids.length f) →
      ∃ vn, (Value.agg #[.bool false, .slice none 0 0, .slice none 0 0] = vn ∧ (2 : Int) = ((Cm.join a key b).2 : Int)) ∧ NdS (((X.setCell ⟨w.heap.size + 2, 0, none⟩ (.bool false)).setCell ⟨w.heap.size + 2, 1, none⟩ (.slice none 0 0)).setCell ⟨w.heap.size + 2, 2, none⟩ (.slice none 0 0)) X.heap.size vn (Cm.join a key b).1 ∧
      Below w.heap.size w (((X.setCell ⟨w.heap.size + 2, 0, none⟩ (.bool false)).setCell ⟨w.heap.size + 2, 1, none⟩ (.slice none 0 0)).setCell ⟨w.heap.size + 2, 2, none⟩ (.slice none 0 0))) := fun hm X hX => by
    have e1 : Cm.join a key b = (Cm.none, 2) := by unfold Cm.join; rw [if_neg hm]
    have c2 : w.heap.size ≤ w.heap.size + 2 := by omega
    rw [e1]
    exact ⟨_, ⟨rfl, rfl⟩, ⟨_, _, rfl, Its.nil _ _, Ints.nil _ _⟩, ((hX.be.setCell c2 _).setCell c2 _).setCell c2 _⟩
  clear hia hib ha hb
  go_enter Try.func19, Try.ntmps19
  go_wp2_with fail
  rw [show w.heap.size + 1 + 1 = w.heap.size + 2 by omega]
  generalize ((w.alloc (.cells #[.bool a.leaf, .slice ad a.items.length c, .slice kd a.kids.length d] 28)).alloc (.cells #[.bool b.leaf, .slice bd b.items.length e, .slice ld b.kids.length f] 28)).alloc (.cells #[.bool false, .slice none 0 0, .slice none 0 0] 28) = W0 at *
  refine (Right_any a _ B _ (HNa.out _ hJ0.be) (Nat.le_trans hB hJ0.be.size) (by omega) (by omega)).mono ?_
  rintro e1 w1 ⟨rfl, hb1⟩
  have hJ1 := hJ0.below hb1
  clear hJ0 hb1
  by_cases hRa : Cm.Right a
  · rw [decide_eq_true hRa]
    have HRa : Hid (Cm.Right a) := hRa
    clear hRa
    obtain ⟨n0, n1, n2⟩ := cells3_of hJ1.na
    obtain ⟨m0, m1, m2⟩ := cells3_of hJ1.nb
    go_wp2_with fail
    refine (Right_any b _ B _ (HNb.out _ hJ1.be) (Nat.le_trans hB hJ1.be.size) (by omega) (by omega)).mono ?_
    rintro e2 w2 ⟨rfl, hb2⟩
    have hJ2 := hJ1.below hb2
    clear hJ1 hb2 n0 n1 n2 m0 m1 m2
    by_cases hRb : Cm.Right b
    · rw [decide_eq_true hRb]
      have HRb : Hid (Cm.Right b) := hRb
      clear hRb
      obtain ⟨n0, n1, n2⟩ := cells3_of hJ2.na
      obtain ⟨m0, m1, m2⟩ := cells3_of hJ2.nb
      by_cases hLf : a.leaf = b.leaf
      · have hbe : (a.leaf != b.leaf) = false := by rw [hLf]; simp
        go_wp2
        have Hlf : Hid (a.leaf = b.leaf) := hLf
        clear hLf hbe n0 n1 n2 m0 m1 m2
        have hJ2' := hJ2
        go_loopw [8] (fun i wr => ∃ k : Nat, k ≤ a.items.length ∧ i = .int .i64 (k : Int) ∧ (∀ j, j < k → Cm.kl (a.items.getD j Cm.zero).key key = true) ∧ RJ w wr a.leaf (.slice ad a.items.length c) (.slice kd a.kids.length d) b.leaf (.slice bd b.items.length e) (.slice ld b.kids.length f))
          (fun i _ => a.items.length - (intOf i).toNat)
        case atStart => exact ⟨0, Nat.zero_le _, rfl, fun j hj => absurd hj (by omega), hJ2'⟩
        case round =>
          obtain ⟨k, hkl, rfl, hall, hJ⟩ := hrel
          clear hJ2 hJ2'
          obtain ⟨n0, n1, n2⟩ := cells3_of hJ.na
          have HAll : Hid _ := hall
          clear hall
          by_cases hlt : k < a.items.length
          · obtain ⟨g, o, rfl, hgl, hcs⟩ := HIa.out (by intro h; rw [h] at hlt; simp at hlt)
            have c0 := (World.cell?_of_block (a := ⟨g, o + k * 4, none⟩) (hJ.be.block g (Nat.lt_of_lt_of_le hgl hB))).trans (hcs k hlt).1
            have hmem : a.items.getD k Cm.zero ∈ a.items := by rw [getD_at hlt]; exact List.getElem_mem hlt
            obtain ⟨x, hx⟩ : ∃ x, a.items.getD k Cm.zero = x := ⟨_, rfl⟩
            rw [hx] at c0 hmem
            have Hx : Hid _ := hx
            have Hmem : Hid (x ∈ a.items) := hmem
            have i1 : (k : Int) < (a.items.length : Int) := by omega
            clear hx hcs hmem
            obtain ⟨ls, hls⟩ : ∃ ls, Op.bytesLess x.key.toList key.toList = ls := ⟨_, rfl⟩
            have Hls : Hid (Cm.kl x.key key = ls) := hls
            cases ls with
            | true =>
              go_wp2
              refine ⟨⟨k + 1, by omega, by go_num, fun j hj => ?_, hJ⟩, by simp [intOf]; omega⟩
              rcases Nat.lt_or_ge j k with h | h
              · exact HAll.out j h
              · rw [show j = k by omega, Hx.out]; exact Hls.out
            | false =>
              obtain ⟨s0, s1, s2⟩ := cells3_of hJ.rs
              have sf := fun j => frozen_of_row _ (w.heap.size + 2) j _ _ hJ.rs
              go_wp2
              simp only [bodyPost, results, Try.results19]
              simp [go_sem, s0, s1, s2]
              exact HNo.out (fun h => absurd (h.2.2.2.1 x Hmem.out) (by rw [Hls.out]; simp)) _ hJ
          · obtain rfl : k = a.items.length := by omega
            have HKa : Hid (∀ x ∈ a.items, Cm.kl x.key key = true) := fun x hx => by
              obtain ⟨j, hj, rfl⟩ := List.mem_iff_getElem.1 hx
              have := HAll.out j hj
              rw [getD_at hj] at this
              exact this
            clear HAll
            go_wp2
            clear n0 n1 n2
            have hJ3 := hJ
            go_loopw [9] (fun i wr => ∃ k : Nat, k ≤ b.items.length ∧ i = .int .i64 (k : Int) ∧ (∀ j, j < k → Cm.kl (b.items.getD j Cm.zero).key key = false ∧ (a.leaf = false → (b.items.getD j Cm.zero).key ≠ key)) ∧ RJ w wr a.leaf (.slice ad a.items.length c) (.slice kd a.kids.length d) b.leaf (.slice bd b.items.length e) (.slice ld b.kids.length f))
              (fun i _ => b.items.length - (intOf i).toNat)
            case atStart => exact ⟨0, Nat.zero_le _, rfl, fun j hj => absurd hj (by omega), hJ3⟩
            case round =>
              obtain ⟨k, hkl, rfl, hall, hJb⟩ := hrel
              clear hJ hJ3
              obtain ⟨n0, n1, n2⟩ := cells3_of hJb.na
              obtain ⟨m0, m1, m2⟩ := cells3_of hJb.nb
              have HAll : Hid _ := hall
              clear hall
              by_cases hlt : k < b.items.length
              · obtain ⟨g, o, rfl, hgl, hcs⟩ := HIb.out (by intro h; rw [h] at hlt; simp at hlt)
                have c0 := (World.cell?_of_block (a := ⟨g, o + k * 4, none⟩) (hJb.be.block g (Nat.lt_of_lt_of_le hgl hB))).trans (hcs k hlt).1
                have hmem : b.items.getD k Cm.zero ∈ b.items := by rw [getD_at hlt]; exact List.getElem_mem hlt
                obtain ⟨x, hx⟩ : ∃ x, b.items.getD k Cm.zero = x := ⟨_, rfl⟩
                rw [hx] at c0 hmem
                have Hx : Hid _ := hx
                have Hmem : Hid (x ∈ b.items) := hmem
                have i1 : (k : Int) < (b.items.length : Int) := by omega
                clear hx hcs hmem
                obtain ⟨ls, hls⟩ : ∃ ls, Op.bytesLess x.key.toList key.toList = ls := ⟨_, rfl⟩
                have Hls : Hid (Cm.kl x.key key = ls) := hls
                have hE : (x.key.toList == key.toList) = decide (x.key = key) := str_eq x.key key
                cases ls with
                | true =>
                  obtain ⟨s0, s1, s2⟩ := cells3_of hJb.rs
                  have sf := fun j => frozen_of_row _ (w.heap.size + 2) j _ _ hJb.rs
                  go_wp2
                  simp only [bodyPost, results, Try.results19]
                  simp [go_sem, s0, s1, s2]
                  exact HNo.out (fun h => absurd (h.2.2.2.2.1 x Hmem.out).1 (by rw [Hls.out]; simp)) _ hJb
                | false =>
                  obtain ⟨alf, half⟩ : ∃ l, a.leaf = l := ⟨_, rfl⟩
                  have Half : Hid (a.leaf = alf) := half
                  by_cases hx : alf = false ∧ x.key = key
                  · obtain ⟨rfl, hxk⟩ := hx
                    have Hxk : Hid (x.key = key) := hxk
                    rw [decide_eq_true hxk] at hE
                    clear hxk
                    obtain ⟨s0, s1, s2⟩ := cells3_of hJb.rs
                    have sf := fun j => frozen_of_row _ (w.heap.size + 2) j _ _ hJb.rs
                    go_wp2
                    simp only [bodyPost, results, Try.results19]
                    simp [go_sem, s0, s1, s2]
                    exact HNo.out (fun h => (h.2.2.2.2.1 x Hmem.out).2 Half.out Hxk.out) _ hJb
                  · have Hxn : Hid (¬ (alf = false ∧ x.key = key)) := hx
                    obtain ⟨eq, heq⟩ : ∃ eq, decide (x.key = key) = eq := ⟨_, rfl⟩
                    have Hnn : Hid (alf = true ∨ eq = false) := by
                      show _ ∨ _
                      cases alf with
                      | true => exact .inl rfl
                      | false => exact .inr (by rw [← heq]; exact decide_eq_false fun h => hx ⟨rfl, h⟩)
                    rw [heq] at hE
                    clear heq hx
                    cases alf with
                    | true =>
                      go_wp2
                      refine ⟨⟨k + 1, by omega, by go_num, fun j hj => ?_, hJb⟩, by simp [intOf]; omega⟩
                      rcases Nat.lt_or_ge j k with h | h
                      · exact HAll.out j h
                      · rw [show j = k by omega, Hx.out]; exact ⟨Hls.out, fun h => absurd (h.symm.trans Half.out) (by simp)⟩
                    | false =>
                      have heq : eq = false := by rcases Hnn.out with h | h; cases h; exact h
                      subst heq
                      go_wp2
                      refine ⟨⟨k + 1, by omega, by go_num, fun j hj => ?_, hJb⟩, by simp [intOf]; omega⟩
                      rcases Nat.lt_or_ge j k with h | h
                      · exact HAll.out j h
                      · rw [show j = k by omega, Hx.out]; exact ⟨Hls.out, fun _ h => Hxn.out ⟨rfl, h⟩⟩
              · obtain rfl : k = b.items.length := by omega
                have HKb : Hid (∀ x ∈ b.items, Cm.kl x.key key = false ∧ (a.leaf = false → x.key ≠ key)) := fun x hx => by
                  obtain ⟨j, hj, rfl⟩ := List.mem_iff_getElem.1 hx
                  have := HAll.out j hj
                  rw [getD_at hj] at this
                  exact this
                clear HAll
                go_upto_region 14 with fail
                have hQ : RQ w (wr.alloc (.cells #[.bool a.leaf, .slice none 0 0, .slice none 0 0] 28)) wr.heap.size a.leaf (.slice ad a.items.length c) (.slice kd a.kids.length d) b.leaf (.slice bd b.items.length e) (.slice ld b.kids.length f) (.slice none 0 0) (.slice none 0 0) [] [] :=
                  ⟨hJb.below ((Below.refl _ wr).alloc (Nat.le_refl _) _), lt_of_heap hJb.rs, heap_alloc_new wr _, OwnC.nil _ _, OwnN.nil _ _⟩
                clear hJb n0 n1 n2 m0 m1 m2
                generalize wr.alloc (.cells #[.bool a.leaf, .slice none 0 0, .slice none 0 0] 28) = X at *
                generalize wr.heap.size = q at *
                have Hl1 : Hid (([] : List Cm.It).length + a.items.length ≤ 1099511627) := by show _ ≤ _; simp; omega
                have hX1 : q + 1 ≤ X.heap.size := lt_of_heap hQ.nq
                obtain ⟨x0, x1, x2⟩ := cells3_of hQ.nq
                obtain ⟨n0, n1, n2⟩ := cells3_of hQ.j.na
                obtain ⟨via, vka, hvv, hIa, hKa⟩ := HNa.out X hQ.j.be
                cases hvv
                go_wp2_with (at_builtin; go_must (refine wpList_append_its rfl _ _ rfl (q + 1) B _ _ [] a.items rfl hQ.oi rfl hIa Hl1 hX1 ?_))
                intro v1 X1 h1 h2
                have h1 : OwnC X1 (q + 1) v1 a.items := h1
                obtain ⟨vd1, vc1, rfl, -⟩ := h1.its
                obtain ⟨hn1, hQ1⟩ := hQ.addC h1 h2
                clear hQ h1 h2 hX1 x0 x1 x2
                have hQ := hQ1
                clear hQ1
                obtain ⟨x0, x1, x2⟩ := cells3_of hn1
                have xf := fun j => frozen_of_row _ q j _ _ hn1
                clear hn1
                go_upto_region 15 with fail
                clear x0 x1 x2 xf
                generalize X1.setCell ⟨q, 1, none⟩ (.slice vd1 a.items.length vc1) = Y1 at *
                clear n0 n1 n2
                have HYes : Hid ((a.leaf = false → Cm.OkK key) → Cm.MayJoin a key b) := fun h => ⟨HRa.out, HRb.out, Hlf.out, HKa.out, HKb.out, h⟩
                obtain ⟨n0, n1, n2⟩ := cells3_of hQ.j.na
                rcases Bool.eq_false_or_eq_true a.leaf with hal | hal
                · have hQ' := hQ
                  go_upto_region 19 with fail
                  have Hal : Hid (a.leaf = true) := hal
                  clear hal n0 n1 n2 hQ'
                  have Hl2 : Hid (a.items.length + b.items.length ≤ 1099511627) := by show _ ≤ _; (try simp only [List.length_append, List.length_nil, List.length_cons]); omega
                  have hX1 : q + 1 ≤ Y1.heap.size := lt_of_heap hQ.nq
                  obtain ⟨x0, x1, x2⟩ := cells3_of hQ.nq
                  obtain ⟨n0, n1, n2⟩ := cells3_of hQ.j.na
                  obtain ⟨m0, m1, m2⟩ := cells3_of hQ.j.nb
                  obtain ⟨vix, vkx, hvv, hIx, hKx⟩ := HNb.out Y1 hQ.j.be
                  cases hvv
                  go_wp2_with (at_builtin; go_must (refine wpList_append_its rfl _ _ rfl (q + 1) B _ _ a.items b.items rfl hQ.oi rfl hIx Hl2 hX1 ?_))
                  intro v2 X2 h1 h2
                  obtain ⟨vd2, vc2, rfl, -⟩ := h1.its
                  obtain ⟨hn2, hQ2⟩ := hQ.addC h1 h2
                  clear hQ h1 h2 hX1 x0 x1 x2 n0 n1 n2 m0 m1 m2 hIx hKx
                  have hQ := hQ2
                  clear hQ2
                  generalize (a.items ++ b.items).length = L2 at *
                  obtain ⟨x0, x1, x2⟩ := cells3_of hn2
                  have xf := fun j => frozen_of_row _ q j _ _ hn2
                  clear hn2
                  go_upto_region 20 with fail
                  clear x0 x1 x2 xf
                  generalize X2.setCell ⟨q, 1, none⟩ (.slice vd2 L2 vc2) = Y2 at *
                  have Hl3 : Hid (([] : List Int).length + a.kids.length ≤ 1099511627) := by show _ ≤ _; (try simp only [List.length_nil]); omega
                  have hX1 : q + 1 ≤ Y2.heap.size := lt_of_heap hQ.nq
                  obtain ⟨x0, x1, x2⟩ := cells3_of hQ.nq
                  obtain ⟨n0, n1, n2⟩ := cells3_of hQ.j.na
                  obtain ⟨m0, m1, m2⟩ := cells3_of hQ.j.nb
                  obtain ⟨vix, vkx, hvv, hIx, hKx⟩ := HNa.out Y2 hQ.j.be
                  cases hvv
                  go_wp2_with (at_builtin; go_must (refine wpList_append_ints rfl _ _ rfl (q + 1) B _ _ ([] : List Int) a.kids rfl hQ.ok rfl hKx Hl3 hX1 ?_))
                  intro v3 X3 h1 h2
                  have h1 : OwnN X3 (q + 1) v3 a.kids := h1
                  obtain ⟨vd3, vc3, rfl, -⟩ := h1.ints
                  obtain ⟨hn3, hQ3⟩ := hQ.addN h1 h2
                  clear hQ h1 h2 hX1 x0 x1 x2 n0 n1 n2 m0 m1 m2 hIx hKx
                  have hQ := hQ3
                  clear hQ3
                  obtain ⟨x0, x1, x2⟩ := cells3_of hn3
                  have xf := fun j => frozen_of_row _ q j _ _ hn3
                  clear hn3
                  go_upto_region 21 with fail
                  clear x0 x1 x2 xf
                  generalize X3.setCell ⟨q, 2, none⟩ (.slice vd3 a.kids.length vc3) = Y3 at *
                  have Hl4 : Hid (a.kids.length + b.kids.length ≤ 1099511627) := by show _ ≤ _; (try simp only [List.length_append, List.length_nil, List.length_cons]); omega
                  have hX1 : q + 1 ≤ Y3.heap.size := lt_of_heap hQ.nq
                  obtain ⟨x0, x1, x2⟩ := cells3_of hQ.nq
                  obtain ⟨n0, n1, n2⟩ := cells3_of hQ.j.na
                  obtain ⟨m0, m1, m2⟩ := cells3_of hQ.j.nb
                  obtain ⟨vix, vkx, hvv, hIx, hKx⟩ := HNb.out Y3 hQ.j.be
                  cases hvv
                  go_wp2_with (at_builtin; go_must (refine wpList_append_ints rfl _ _ rfl (q + 1) B _ _ a.kids b.kids rfl hQ.ok rfl hKx Hl4 hX1 ?_))
                  intro v4 X4 h1 h2
                  obtain ⟨vd4, vc4, rfl, -⟩ := h1.ints
                  obtain ⟨hn4, hQ4⟩ := hQ.addN h1 h2
                  clear hQ h1 h2 hX1 x0 x1 x2 n0 n1 n2 m0 m1 m2 hIx hKx
                  have hQ := hQ4
                  clear hQ4
                  generalize (a.kids ++ b.kids).length = L4 at *
                  obtain ⟨x0, x1, x2⟩ := cells3_of hn4
                  have xf := fun j => frozen_of_row _ q j _ _ hn4
                  clear hn4
                  go_upto_region 22 with fail
                  clear x0 x1 x2 xf
                  generalize X4.setCell ⟨q, 2, none⟩ (.slice vd4 L4 vc4) = Y4 at *
                  have hJn : Cm.joined a key b = ⟨a.leaf, a.items ++ b.items, a.kids ++ b.kids⟩ := by unfold Cm.joined; rw [if_pos Hal.out, List.append_nil]
                  have hNd : NdS Y4 Y4.heap.size (.agg #[.bool a.leaf, .slice vd2 L2 vc2, .slice vd4 L4 vc4]) (Cm.joined a key b) := by rw [hJn]; exact ⟨_, _, rfl, hQ.oi.its, hQ.ok.ints⟩
                  have HW : Hid (Calls Try.prog 42 #[.agg #[.bool a.leaf, .slice vd2 L2 vc2, .slice vd4 L4 vc4]] Y4 fun e w' => e = .returned (.int .i64 (Cm.wrong (Cm.joined a key b) : Int)) ∧ Below Y4.heap.size Y4 w') := Wrong_any (Cm.joined a key b) _ _ Y4 hNd (Nat.le_refl _) (by rw [hJn]; simp only [List.length_append]; omega) (by rw [hJn]; simp only [List.length_append]; omega)
                  have HJn : Hid _ := hJn
                  have HMj : Hid (Cm.MayJoin a key b) := HYes.out fun h => absurd (h.symm.trans Hal.out) (by simp)
                  have HJo : Hid (Cm.join a key b = if Cm.wrong (Cm.joined a key b) = 0 then (Cm.joined a key b, 0) else (Cm.none, Cm.wrong (Cm.joined a key b))) := by show _ = _; unfold Cm.join; rw [if_pos HMj.out]
                  clear hNd hJn
                  obtain ⟨x0, x1, x2⟩ := cells3_of hQ.nq
                  go_wp2_with fail
                  refine (show Calls Try.prog 42 #[.agg #[.bool a.leaf, .slice vd2 L2 vc2, .slice vd4 L4 vc4]] Y4 _ from HW.out).mono ?_
                  rintro e5 w5 ⟨rfl, hb5⟩
                  have hQ5 := hQ.below hb5
                  clear hQ hb5 x0 x1 x2
                  obtain ⟨x0, x1, x2⟩ := cells3_of hQ5.nq
                  obtain ⟨s0, s1, s2⟩ := cells3_of hQ5.j.rs
                  have sf := fun j => frozen_of_row _ (w.heap.size + 2) j _ _ hQ5.j.rs
                  by_cases hwr : Cm.wrong (Cm.joined a key b) = 0
                  · have HE : Hid (Cm.join a key b = (Cm.joined a key b, 0)) := by show _ = _; rw [HJo.out, if_pos hwr]
                    have HND : Hid (NdS (((w5.setCell ⟨w.heap.size + 2, 0, none⟩ (.bool a.leaf)).setCell ⟨w.heap.size + 2, 1, none⟩ (.slice vd2 L2 vc2)).setCell ⟨w.heap.size + 2, 2, none⟩ (.slice vd4 L4 vc4)) (((w5.setCell ⟨w.heap.size + 2, 0, none⟩ (.bool a.leaf)).setCell ⟨w.heap.size + 2, 1, none⟩ (.slice vd2 L2 vc2)).setCell ⟨w.heap.size + 2, 2, none⟩ (.slice vd4 L4 vc4)).heap.size (.agg #[.bool a.leaf, .slice vd2 L2 vc2, .slice vd4 L4 vc4]) (Cm.joined a key b)) := by
                      show NdS _ _ _ _
                      rw [HJn.out]
                      exact ⟨_, _, rfl, OwnC.its (own_stR hQ5.oi hQ5.j.rs (by decide) _ _ _), OwnN.ints (own_stR hQ5.ok hQ5.j.rs (by decide) _ _ _)⟩
                    have HBe : Hid (Below w.heap.size w (((w5.setCell ⟨w.heap.size + 2, 0, none⟩ (.bool a.leaf)).setCell ⟨w.heap.size + 2, 1, none⟩ (.slice vd2 L2 vc2)).setCell ⟨w.heap.size + 2, 2, none⟩ (.slice vd4 L4 vc4))) := ((hQ5.j.be.setCell (by show w.heap.size ≤ w.heap.size + 2; omega) _).setCell (by show w.heap.size ≤ w.heap.size + 2; omega) _).setCell (by show w.heap.size ≤ w.heap.size + 2; omega) _
                    have HZ : Hid _ := heap_set3 hQ5.j.rs (.bool a.leaf) (.slice vd2 L2 vc2) (.slice vd4 L4 vc4)
                    rw [hwr]
                    clear hwr
                    go_wp2
                    obtain ⟨y0, y1, y2⟩ := cells3_of HZ.out
                    generalize ((w5.setCell ⟨w.heap.size + 2, 0, none⟩ (.bool a.leaf)).setCell ⟨w.heap.size + 2, 1, none⟩ (.slice vd2 L2 vc2)).setCell ⟨w.heap.size + 2, 2, none⟩ (.slice vd4 L4 vc4) = Z at *
                    simp only [bodyPost, results, Try.results19]
                    simp [go_sem, y0, y1, y2]
                    exact ⟨_, ⟨rfl, by rw [HE.out]; rfl⟩, by rw [HE.out]; exact HND.out, HBe.out⟩
                  · have hwi : ¬ ((Cm.wrong (Cm.joined a key b) : Int) = 0) := by omega
                    have HE : Hid (Cm.join a key b = (Cm.none, Cm.wrong (Cm.joined a key b))) := by show _ = _; rw [HJo.out, if_neg hwr]
                    have HBe : Hid (Below w.heap.size w (((w5.setCell ⟨w.heap.size + 2, 0, none⟩ (.bool false)).setCell ⟨w.heap.size + 2, 1, none⟩ (.slice none 0 0)).setCell ⟨w.heap.size + 2, 2, none⟩ (.slice none 0 0))) := ((hQ5.j.be.setCell (by show w.heap.size ≤ w.heap.size + 2; omega) _).setCell (by show w.heap.size ≤ w.heap.size + 2; omega) _).setCell (by show w.heap.size ≤ w.heap.size + 2; omega) _
                    have HZ : Hid _ := heap_set3 hQ5.j.rs (.bool false) (.slice none 0 0) (.slice none 0 0)
                    clear hwr
                    go_wp2
                    obtain ⟨y0, y1, y2⟩ := cells3_of HZ.out
                    generalize ((w5.setCell ⟨w.heap.size + 2, 0, none⟩ (.bool false)).setCell ⟨w.heap.size + 2, 1, none⟩ (.slice none 0 0)).setCell ⟨w.heap.size + 2, 2, none⟩ (.slice none 0 0) = Z at *
                    simp only [bodyPost, results, Try.results19]
                    simp [go_sem, y0, y1, y2]
                    exact ⟨_, ⟨rfl, by rw [HE.out]⟩, by rw [HE.out]; exact ⟨_, _, rfl, Its.nil _ _, Ints.nil _ _⟩, HBe.out⟩
                · have Hal : Hid (a.leaf = false) := hal
                  by_cases hk1 : (key.size : Int) < 1
                  · have HnK : Hid (¬ Cm.OkK key) := fun h => by have := h.1; omega
                    obtain ⟨s0, s1, s2⟩ := cells3_of hQ.j.rs
                    have sf := fun j => frozen_of_row _ (w.heap.size + 2) j _ _ hQ.j.rs
                    go_wp2
                    simp only [bodyPost, results, Try.results19]
                    simp [go_sem, s0, s1, s2]
                    exact HNo.out (fun h => HnK.out (h.2.2.2.2.2 Hal.out)) _ hQ.j
                  · by_cases hk2 : (64 : Int) < (key.size : Int)
                    · have HnK : Hid (¬ Cm.OkK key) := fun h => by have := h.2; omega
                      obtain ⟨s0, s1, s2⟩ := cells3_of hQ.j.rs
                      have sf := fun j => frozen_of_row _ (w.heap.size + 2) j _ _ hQ.j.rs
                      go_wp2
                      simp only [bodyPost, results, Try.results19]
                      simp [go_sem, s0, s1, s2]
                      exact HNo.out (fun h => HnK.out (h.2.2.2.2.2 Hal.out)) _ hQ.j
                    · have HoK : Hid (Cm.OkK key) := ⟨by omega, by omega⟩
                      go_upto_region 18 with fail
                      clear hal n0 n1 n2
                      have Hl9 : Hid (a.items.length + [(Cm.It.mk key ⟨#[]⟩ 0 0)].length ≤ 1099511627) := by show _ ≤ _; simp only [List.length_cons, List.length_nil]; omega
                      obtain ⟨x0, x1, x2⟩ := cells3_of hQ.nq
                      have hQa := hQ.below ((Below.refl Y1.heap.size Y1).alloc (Nat.le_refl _) (.cells #[.string key, .string ⟨#[]⟩, .int .i64 0, .int .i64 0] 24))
                      have hLt : Its (Y1.alloc (.cells #[.string key, .string ⟨#[]⟩, .int .i64 0, .int .i64 0] 24)) (Y1.heap.size + 1) (.slice (some ⟨Y1.heap.size, 0, none⟩) 1 1) [(Cm.It.mk key ⟨#[]⟩ 0 0)] := its_lit Y1 (Cm.It.mk key ⟨#[]⟩ 0 0)
                      have hX1 : q + 1 ≤ (Y1.alloc (.cells #[.string key, .string ⟨#[]⟩, .int .i64 0, .int .i64 0] 24)).heap.size := lt_of_heap hQa.nq
                      go_wp2_with (at_builtin; go_must (refine wpList_append_its rfl _ _ rfl (q + 1) (Y1.heap.size + 1) _ _ a.items [(Cm.It.mk key ⟨#[]⟩ 0 0)] rfl hQa.oi rfl hLt Hl9 hX1 ?_))
                      intro v9 X9 h1 h2
                      obtain ⟨vd9, vc9, rfl, -⟩ := h1.its
                      obtain ⟨hn9, hQ9⟩ := hQa.addC h1 h2
                      clear hQ hQa hLt h1 h2 hX1 x0 x1 x2
                      have hQ := hQ9
                      clear hQ9
                      generalize (a.items ++ [(Cm.It.mk key ⟨#[]⟩ 0 0)]).length = L9 at *
                      obtain ⟨x0, x1, x2⟩ := cells3_of hn9
                      have xf := fun j => frozen_of_row _ q j _ _ hn9
                      clear hn9
                      go_upto_region 19 with fail
                      clear x0 x1 x2 xf
                      generalize X9.setCell ⟨q, 1, none⟩ (.slice vd9 L9 vc9) = Y9 at *
                      obtain ⟨LI, hLI⟩ : ∃ LI, a.items ++ [(Cm.It.mk key ⟨#[]⟩ 0 0)] = LI := ⟨_, rfl⟩
                      have HLI : Hid _ := hLI
                      have hLl : LI.length ≤ 400001 := by rw [← hLI, List.length_append]; simp only [List.length_cons, List.length_nil]; omega
                      rw [hLI] at hQ
                      clear hLI
                      have Hl2 : Hid (LI.length + b.items.length ≤ 1099511627) := by show _ ≤ _; (try simp only [List.length_append, List.length_nil, List.length_cons]); omega
                      have hX1 : q + 1 ≤ Y9.heap.size := lt_of_heap hQ.nq
                      obtain ⟨x0, x1, x2⟩ := cells3_of hQ.nq
                      obtain ⟨n0, n1, n2⟩ := cells3_of hQ.j.na
                      obtain ⟨m0, m1, m2⟩ := cells3_of hQ.j.nb
                      obtain ⟨vix, vkx, hvv, hIx, hKx⟩ := HNb.out Y9 hQ.j.be
                      cases hvv
                      go_wp2_with (at_builtin; go_must (refine wpList_append_its rfl _ _ rfl (q + 1) B _ _ LI b.items rfl hQ.oi rfl hIx Hl2 hX1 ?_))
                      intro v2 X2 h1 h2
                      obtain ⟨vd2, vc2, rfl, -⟩ := h1.its
                      obtain ⟨hn2, hQ2⟩ := hQ.addC h1 h2
                      clear hQ h1 h2 hX1 x0 x1 x2 n0 n1 n2 m0 m1 m2 hIx hKx
                      have hQ := hQ2
                      clear hQ2
                      generalize (LI ++ b.items).length = L2 at *
                      obtain ⟨x0, x1, x2⟩ := cells3_of hn2
                      have xf := fun j => frozen_of_row _ q j _ _ hn2
                      clear hn2
                      go_upto_region 20 with fail
                      clear x0 x1 x2 xf
                      generalize X2.setCell ⟨q, 1, none⟩ (.slice vd2 L2 vc2) = Y2 at *
                      have Hl3 : Hid (([] : List Int).length + a.kids.length ≤ 1099511627) := by show _ ≤ _; (try simp only [List.length_nil]); omega
                      have hX1 : q + 1 ≤ Y2.heap.size := lt_of_heap hQ.nq
                      obtain ⟨x0, x1, x2⟩ := cells3_of hQ.nq
                      obtain ⟨n0, n1, n2⟩ := cells3_of hQ.j.na
                      obtain ⟨m0, m1, m2⟩ := cells3_of hQ.j.nb
                      obtain ⟨vix, vkx, hvv, hIx, hKx⟩ := HNa.out Y2 hQ.j.be
                      cases hvv
                      go_wp2_with (at_builtin; go_must (refine wpList_append_ints rfl _ _ rfl (q + 1) B _ _ ([] : List Int) a.kids rfl hQ.ok rfl hKx Hl3 hX1 ?_))
                      intro v3 X3 h1 h2
                      have h1 : OwnN X3 (q + 1) v3 a.kids := h1
                      obtain ⟨vd3, vc3, rfl, -⟩ := h1.ints
                      obtain ⟨hn3, hQ3⟩ := hQ.addN h1 h2
                      clear hQ h1 h2 hX1 x0 x1 x2 n0 n1 n2 m0 m1 m2 hIx hKx
                      have hQ := hQ3
                      clear hQ3
                      obtain ⟨x0, x1, x2⟩ := cells3_of hn3
                      have xf := fun j => frozen_of_row _ q j _ _ hn3
                      clear hn3
                      go_upto_region 21 with fail
                      clear x0 x1 x2 xf
                      generalize X3.setCell ⟨q, 2, none⟩ (.slice vd3 a.kids.length vc3) = Y3 at *
                      have Hl4 : Hid (a.kids.length + b.kids.length ≤ 1099511627) := by show _ ≤ _; (try simp only [List.length_append, List.length_nil, List.length_cons]); omega
                      have hX1 : q + 1 ≤ Y3.heap.size := lt_of_heap hQ.nq
                      obtain ⟨x0, x1, x2⟩ := cells3_of hQ.nq
                      obtain ⟨n0, n1, n2⟩ := cells3_of hQ.j.na
                      obtain ⟨m0, m1, m2⟩ := cells3_of hQ.j.nb
                      obtain ⟨vix, vkx, hvv, hIx, hKx⟩ := HNb.out Y3 hQ.j.be
                      cases hvv
                      go_wp2_with (at_builtin; go_must (refine wpList_append_ints rfl _ _ rfl (q + 1) B _ _ a.kids b.kids rfl hQ.ok rfl hKx Hl4 hX1 ?_))
                      intro v4 X4 h1 h2
                      obtain ⟨vd4, vc4, rfl, -⟩ := h1.ints
                      obtain ⟨hn4, hQ4⟩ := hQ.addN h1 h2
                      clear hQ h1 h2 hX1 x0 x1 x2 n0 n1 n2 m0 m1 m2 hIx hKx
                      have hQ := hQ4
                      clear hQ4
                      generalize (a.kids ++ b.kids).length = L4 at *
                      obtain ⟨x0, x1, x2⟩ := cells3_of hn4
                      have xf := fun j => frozen_of_row _ q j _ _ hn4
                      clear hn4
                      go_upto_region 22 with fail
                      clear x0 x1 x2 xf
                      generalize X4.setCell ⟨q, 2, none⟩ (.slice vd4 L4 vc4) = Y4 at *
                      have hJn : Cm.joined a key b = ⟨a.leaf, LI ++ b.items, a.kids ++ b.kids⟩ := by unfold Cm.joined; rw [if_neg (by rw [Hal.out]; simp), ← HLI.out]; rfl
                      have hNd : NdS Y4 Y4.heap.size (.agg #[.bool a.leaf, .slice vd2 L2 vc2, .slice vd4 L4 vc4]) (Cm.joined a key b) := by rw [hJn]; exact ⟨_, _, rfl, hQ.oi.its, hQ.ok.ints⟩
                      have HW : Hid (Calls Try.prog 42 #[.agg #[.bool a.leaf, .slice vd2 L2 vc2, .slice vd4 L4 vc4]] Y4 fun e w' => e = .returned (.int .i64 (Cm.wrong (Cm.joined a key b) : Int)) ∧ Below Y4.heap.size Y4 w') := Wrong_any (Cm.joined a key b) _ _ Y4 hNd (Nat.le_refl _) (by rw [hJn]; simp only [List.length_append]; omega) (by rw [hJn]; simp only [List.length_append]; omega)
                      have HJn : Hid _ := hJn
                      have HMj : Hid (Cm.MayJoin a key b) := HYes.out fun _ => HoK.out
                      have HJo : Hid (Cm.join a key b = if Cm.wrong (Cm.joined a key b) = 0 then (Cm.joined a key b, 0) else (Cm.none, Cm.wrong (Cm.joined a key b))) := by show _ = _; unfold Cm.join; rw [if_pos HMj.out]
                      clear hNd hJn
                      obtain ⟨x0, x1, x2⟩ := cells3_of hQ.nq
                      go_wp2_with fail
                      refine (show Calls Try.prog 42 #[.agg #[.bool a.leaf, .slice vd2 L2 vc2, .slice vd4 L4 vc4]] Y4 _ from HW.out).mono ?_
                      rintro e5 w5 ⟨rfl, hb5⟩
                      have hQ5 := hQ.below hb5
                      clear hQ hb5 x0 x1 x2
                      obtain ⟨x0, x1, x2⟩ := cells3_of hQ5.nq
                      obtain ⟨s0, s1, s2⟩ := cells3_of hQ5.j.rs
                      have sf := fun j => frozen_of_row _ (w.heap.size + 2) j _ _ hQ5.j.rs
                      by_cases hwr : Cm.wrong (Cm.joined a key b) = 0
                      · have HE : Hid (Cm.join a key b = (Cm.joined a key b, 0)) := by show _ = _; rw [HJo.out, if_pos hwr]
                        have HND : Hid (NdS (((w5.setCell ⟨w.heap.size + 2, 0, none⟩ (.bool a.leaf)).setCell ⟨w.heap.size + 2, 1, none⟩ (.slice vd2 L2 vc2)).setCell ⟨w.heap.size + 2, 2, none⟩ (.slice vd4 L4 vc4)) (((w5.setCell ⟨w.heap.size + 2, 0, none⟩ (.bool a.leaf)).setCell ⟨w.heap.size + 2, 1, none⟩ (.slice vd2 L2 vc2)).setCell ⟨w.heap.size + 2, 2, none⟩ (.slice vd4 L4 vc4)).heap.size (.agg #[.bool a.leaf, .slice vd2 L2 vc2, .slice vd4 L4 vc4]) (Cm.joined a key b)) := by
                          show NdS _ _ _ _
                          rw [HJn.out]
                          exact ⟨_, _, rfl, OwnC.its (own_stR hQ5.oi hQ5.j.rs (by decide) _ _ _), OwnN.ints (own_stR hQ5.ok hQ5.j.rs (by decide) _ _ _)⟩
                        have HBe : Hid (Below w.heap.size w (((w5.setCell ⟨w.heap.size + 2, 0, none⟩ (.bool a.leaf)).setCell ⟨w.heap.size + 2, 1, none⟩ (.slice vd2 L2 vc2)).setCell ⟨w.heap.size + 2, 2, none⟩ (.slice vd4 L4 vc4))) := ((hQ5.j.be.setCell (by show w.heap.size ≤ w.heap.size + 2; omega) _).setCell (by show w.heap.size ≤ w.heap.size + 2; omega) _).setCell (by show w.heap.size ≤ w.heap.size + 2; omega) _
                        have HZ : Hid _ := heap_set3 hQ5.j.rs (.bool a.leaf) (.slice vd2 L2 vc2) (.slice vd4 L4 vc4)
                        rw [hwr]
                        clear hwr
                        go_wp2
                        obtain ⟨y0, y1, y2⟩ := cells3_of HZ.out
                        generalize ((w5.setCell ⟨w.heap.size + 2, 0, none⟩ (.bool a.leaf)).setCell ⟨w.heap.size + 2, 1, none⟩ (.slice vd2 L2 vc2)).setCell ⟨w.heap.size + 2, 2, none⟩ (.slice vd4 L4 vc4) = Z at *
                        simp only [bodyPost, results, Try.results19]
                        simp [go_sem, y0, y1, y2]
                        exact ⟨_, ⟨rfl, by rw [HE.out]; rfl⟩, by rw [HE.out]; exact HND.out, HBe.out⟩
                      · have hwi : ¬ ((Cm.wrong (Cm.joined a key b) : Int) = 0) := by omega
                        have HE : Hid (Cm.join a key b = (Cm.none, Cm.wrong (Cm.joined a key b))) := by show _ = _; rw [HJo.out, if_neg hwr]
                        have HBe : Hid (Below w.heap.size w (((w5.setCell ⟨w.heap.size + 2, 0, none⟩ (.bool false)).setCell ⟨w.heap.size + 2, 1, none⟩ (.slice none 0 0)).setCell ⟨w.heap.size + 2, 2, none⟩ (.slice none 0 0))) := ((hQ5.j.be.setCell (by show w.heap.size ≤ w.heap.size + 2; omega) _).setCell (by show w.heap.size ≤ w.heap.size + 2; omega) _).setCell (by show w.heap.size ≤ w.heap.size + 2; omega) _
                        have HZ : Hid _ := heap_set3 hQ5.j.rs (.bool false) (.slice none 0 0) (.slice none 0 0)
                        clear hwr
                        go_wp2
                        obtain ⟨y0, y1, y2⟩ := cells3_of HZ.out
                        generalize ((w5.setCell ⟨w.heap.size + 2, 0, none⟩ (.bool false)).setCell ⟨w.heap.size + 2, 1, none⟩ (.slice none 0 0)).setCell ⟨w.heap.size + 2, 2, none⟩ (.slice none 0 0) = Z at *
                        simp only [bodyPost, results, Try.results19]
                        simp [go_sem, y0, y1, y2]
                        exact ⟨_, ⟨rfl, by rw [HE.out]⟩, by rw [HE.out]; exact ⟨_, _, rfl, Its.nil _ _, Ints.nil _ _⟩, HBe.out⟩
      · obtain ⟨s0, s1, s2⟩ := cells3_of hJ2.rs
        have sf := fun j => frozen_of_row _ (w.heap.size + 2) j _ _ hJ2.rs
        have HnL : Hid (¬ a.leaf = b.leaf) := hLf
        clear hLf
        rcases Bool.eq_false_or_eq_true a.leaf with h1 | h1 <;> rcases Bool.eq_false_or_eq_true b.leaf with h2 | h2
        · exact absurd (h1.trans h2.symm) HnL.out
        · go_wp2
          simp only [bodyPost, results, Try.results19]
          simp [go_sem, s0, s1, s2]
          exact HNo.out (fun h => HnL.out h.2.2.1) _ hJ2
        · go_wp2
          simp only [bodyPost, results, Try.results19]
          simp [go_sem, s0, s1, s2]
          exact HNo.out (fun h => HnL.out h.2.2.1) _ hJ2
        · exact absurd (h1.trans h2.symm) HnL.out
    · rw [decide_eq_false hRb]
      obtain ⟨n0, n1, n2⟩ := cells3_of hJ2.na
      obtain ⟨m0, m1, m2⟩ := cells3_of hJ2.nb
      obtain ⟨s0, s1, s2⟩ := cells3_of hJ2.rs
      have sf := fun j => frozen_of_row _ (w.heap.size + 2) j _ _ hJ2.rs
      go_wp2
      simp only [bodyPost, results, Try.results19]
      simp [go_sem, s0, s1, s2]
      exact HNo.out (fun h => hRb h.2.1) _ hJ2
  · rw [decide_eq_false hRa]
    obtain ⟨s0, s1, s2⟩ := cells3_of hJ1.rs
    have sf := fun j => frozen_of_row _ (w.heap.size + 2) j _ _ hJ1.rs
    go_wp2
    simp only [bodyPost, results, Try.results19]
    simp [go_sem, s0, s1, s2]
    exact HNo.out (fun h => hRa h.1) _ hJ1

end Go.Proofs.Ytplfcpbjlhobeaa
