/-
  THE WALK OF CellSplits.
-/
import Derived.Test.YtplfcpbjlhobeaaDWorks
import Derived.Test.YtplfcpbjlhobeaaDHalf
import Derived.Test.YtplfcpbjlhobeaaDJoinL
import Derived.Test.YtplfcpbjlhobeaaCJoin
import Derived.Test.YtplfcpbjlhobeaaDFind
import Derived.Test.YtplfcpbjlhobeaaDConcat
import Derived.Test.YtplfcpbjlhobeaaRSmall
import Derived.Test.YtplfcpbjlhobeaaRCopied
import Derived.Test.YtplfcpbjlhobeaaLSame
import Derived.Test.YtplfcpbjlhobeaaIns
namespace Go.Proofs.Ytplfcpbjlhobeaa
open Go.RowKit

/-- the node with one item more, at its place, and one kid more behind it -/
def Cm.withItem (n : Cm.Nd) (x : Cm.It) (kid : Int) (i : Nat) : Cm.Nd := ⟨n.leaf, n.items.take i ++ x :: n.items.drop i, if n.leaf = true then n.kids else n.kids.take (i + 1) ++ kid :: n.kids.drop (i + 1)⟩
/-- a node that can't be parted is small -/
theorem Cm.few_fit {m : Cm.Nd} (hr : Cm.Right m) (hp : Cm.places m = 0) : Cm.wrong m = 0 ∧ m.items.length < 3 := by
  have hl : m.items.length < 3 := by unfold Cm.places at hp; split at hp <;> omega
  refine ⟨Cm.wrong_zero hr ?_, hl⟩
  rw [Cm.form_len]
  have hu := Cm.putU_small (k := m.items.length) (by omega)
  have hi := Cm.right_items hr
  cases hlf : m.leaf with
  | true =>
    have h1 : m.items.length ≤ 1 := by unfold Cm.places at hp; rw [if_pos hlf] at hp; omega
    rw [hlf] at hi
    cases hq : m.items with
    | nil => rw [hq] at hu; rw [hu]; simp [Cm.psz, Cm.hd]
    | cons a l =>
      rw [hq] at h1 hi hu
      have : l = [] := List.eq_nil_of_length_eq_zero (by simp only [List.length_cons] at h1; omega)
      subst this
      have := (Cm.plen_leaf (hi a (by simp)).1 (hi a (by simp)).2).2
      rw [hu]
      simp [Cm.psz, Cm.hd]
      omega
  | false =>
    rw [hlf] at hi
    cases hq : m.items with
    | nil => rw [hq] at hu; rw [hu]; simp [Cm.psz, Cm.hd]
    | cons a l =>
      rw [hq] at hl hi hu
      have ha := (Cm.plen_inner (hi a (by simp)).1).2
      rw [hu]
      cases l with
      | nil => simp [Cm.psz, Cm.hd]; omega
      | cons b l =>
        have hb := (Cm.plen_inner (hi b (by simp)).1).2
        have : l = [] := List.eq_nil_of_length_eq_zero (by simp at hl; omega)
        subst this
        simp [Cm.psz, Cm.hd]
        omega

/-- the node that is changed, in its variable, its rows of the call's own -/
structure MvS (U X : World) (q : Nat) (lf : Bool) (vi vk : Value) (li : List Cm.It) (lk : List Int) : Prop where
  be : Below U.heap.size U X
  q0 : U.heap.size ≤ q
  bx : X.heap[q]? = some (.cells #[.bool lf, vi, vk] 28 (0, 0))
  oi : OwnC X U.heap.size vi li
  ok : OwnN X U.heap.size vk lk
theorem MvS.below {U X X' : World} {q : Nat} {lf : Bool} {vi vk : Value} {li : List Cm.It} {lk : List Int} (h : MvS U X q lf vi vk li lk) (hb : Below X.heap.size X X') : MvS U X' q lf vi vk li lk :=
  ⟨h.be.trans (hb.mono h.be.size), h.q0, (hb.block _ (lt_of_heap h.bx)).trans h.bx, h.oi.below hb (Nat.le_refl _), h.ok.below hb (Nat.le_refl _)⟩
theorem MvS.nd {U X : World} {q : Nat} {lf : Bool} {vi vk : Value} {li : List Cm.It} {lk : List Int} (h : MvS U X q lf vi vk li lk) : NdS X X.heap.size (.agg #[.bool lf, vi, vk]) ⟨lf, li, lk⟩ := ⟨_, _, rfl, h.oi.its, h.ok.ints⟩
theorem MvS.addC {U X X' : World} {q : Nat} {lf : Bool} {vi vk v' : Value} {li li' : List Cm.It} {lk : List Int} (h : MvS U X q lf vi vk li lk) (h1 : OwnC X' U.heap.size v' li') (h2 : X.grownBy X' vi.ownBlock) :
    X'.heap[q]? = some (.cells #[.bool lf, vi, vk] 28 (0, 0)) ∧ MvS U (X'.setCell ⟨q, 1, none⟩ v') q lf v' vk li' lk := by
  have hg : ∀ g, vi.ownBlock = some g → U.heap.size ≤ g := fun g e => (World.ownsRow.lt h.oi g e).1
  have hn : X'.heap[q]? = some (.cells #[.bool lf, vi, vk] 28 (0, 0)) := (h2.block q (lt_of_heap h.bx) (fun e => (Row.ne h.oi h.bx (by decide) e.symm) rfl)).trans h.bx
  have hap : vk.ownBlock = none ∨ vk.ownBlock ≠ vi.ownBlock := by
    rcases h.oi.2 with ⟨rfl, _⟩ | ⟨g, cap, cur, rfl, _, hgg, _⟩
    · cases hv : vk.ownBlock with
      | none => exact .inl rfl
      | some x => exact .inr (by simp [Value.ownBlock])
    · cases hv : vk.ownBlock with
      | none => exact .inl rfl
      | some x => exact .inr (by intro e; simp only [Value.ownBlock, Option.some.injEq] at e; exact Row.ne h.ok hgg (by decide) hv e)
  have hb : Below U.heap.size U X' := h.be.grown h2 h.be.size fun g e => hg g e
  exact ⟨hn, hb.setCell h.q0 _, h.q0, heap_setCell_same X' q 1 _ _ v' hn, row_set h1 hn (by decide), row_set (World.ownsRow.kept h.ok h2 hap) hn (by decide)⟩
theorem MvS.addN {U X X' : World} {q : Nat} {lf : Bool} {vi vk v' : Value} {li : List Cm.It} {lk lk' : List Int} (h : MvS U X q lf vi vk li lk) (h1 : OwnN X' U.heap.size v' lk') (h2 : X.grownBy X' vk.ownBlock) :
    X'.heap[q]? = some (.cells #[.bool lf, vi, vk] 28 (0, 0)) ∧ MvS U (X'.setCell ⟨q, 2, none⟩ v') q lf vi v' li lk' := by
  have hg : ∀ g, vk.ownBlock = some g → U.heap.size ≤ g := fun g e => (World.ownsRow.lt h.ok g e).1
  have hn : X'.heap[q]? = some (.cells #[.bool lf, vi, vk] 28 (0, 0)) := (h2.block q (lt_of_heap h.bx) (fun e => (Row.ne h.ok h.bx (by decide) e.symm) rfl)).trans h.bx
  have hap : vi.ownBlock = none ∨ vi.ownBlock ≠ vk.ownBlock := by
    rcases h.ok.2 with ⟨rfl, _⟩ | ⟨g, cap, cur, rfl, _, hgg, _⟩
    · cases hv : vi.ownBlock with
      | none => exact .inl rfl
      | some x => exact .inr (by simp [Value.ownBlock])
    · cases hv : vi.ownBlock with
      | none => exact .inl rfl
      | some x => exact .inr (by intro e; simp only [Value.ownBlock, Option.some.injEq] at e; exact Row.ne h.oi hgg (by decide) hv e)
  have hb : Below U.heap.size U X' := h.be.grown h2 h.be.size fun g e => hg g e
  exact ⟨hn, hb.setCell h.q0 _, h.q0, heap_setCell_same X' q 2 _ _ v' hn, row_set (World.ownsRow.kept h.oi h2 hap) hn (by decide), row_set h1 hn (by decide)⟩
theorem Cm.place_le (n : Cm.Nd) (key : ByteArray) : Cm.place n key ≤ n.items.length := List.length_filter_le _ _

/-- what Join answers, as values -/
theorem join_vals {w w' : World} {a b : Cm.Nd} {key : ByteArray} {e : Ending} (h : JoinS w w' a key b e) : ∃ (N : Cm.Nd) (a1 : Option Addr) (c1 : Nat) (a2 : Option Addr) (c2 : Nat) (ec : Nat),
    e = .returned (.tuple #[.agg #[.bool N.leaf, .slice a1 N.items.length c1, .slice a2 N.kids.length c2], .int .i64 (ec : Int)]) ∧ OwnC w' w.heap.size (.slice a1 N.items.length c1) N.items ∧ OwnN w' w.heap.size (.slice a2 N.kids.length c2) N.kids ∧ Cm.join a key b = (N, ec) := by
  rcases h with ⟨hm, rfl⟩ | ⟨hm, hf, rfl⟩ | ⟨hm, hf, vi, vk, rfl, h1, h2⟩
  · exact ⟨Cm.none, none, 0, none, 0, 2, rfl, OwnC.nil _ _, OwnN.nil _ _, by unfold Cm.join; rw [if_neg hm]⟩
  · refine ⟨Cm.none, none, 0, none, 0, 3, rfl, OwnC.nil _ _, OwnN.nil _ _, ?_⟩
    have hw : Cm.wrong (Cm.joined a key b) = 3 := by unfold Cm.wrong; rw [if_pos (Cm.right_joined hm), if_pos hf]
    unfold Cm.join; rw [if_pos hm, if_neg (by rw [hw]; simp), hw]
  · have hw : Cm.wrong (Cm.joined a key b) = 0 := by unfold Cm.wrong; rw [if_pos (Cm.right_joined hm), if_neg hf]
    obtain ⟨a1, c1, rfl, -⟩ := h1.its
    obtain ⟨a2, c2, rfl, -⟩ := h2.ints
    exact ⟨Cm.joined a key b, a1, c1, a2, c2, 0, rfl, h1, h2, by unfold Cm.join; rw [if_pos hm, if_pos hw]⟩

set_option maxRecDepth 100000 in
set_option maxHeartbeats 8000000 in
theorem splits_walk (v : Value) (n : Cm.Nd) (x : Cm.It) (kid : Int) (w : World) (hv : NdS w w.heap.size v n) :
    Calls Try.prog 5 #[v, .agg (itA x), .int .i64 kid] w fun e w' => e = .returned (.bool true) ∧ Below w.heap.size w w' := by
  have HN : Hid (∀ W : World, Below w.heap.size w W → NdS W w.heap.size v n) := fun W h => hv.below h (Nat.le_refl _)
  obtain ⟨vi, vk, rfl, ⟨ad, c, rfl, -⟩, ⟨kd, d, rfl, -⟩⟩ := hv
  obtain ⟨xk, xv, xp, xl⟩ := x
  simp only [itA]
  go_enter Try.func5, Try.ntmps5
  go_wp2_with fail
  have hN0 : ((w.alloc (.cells #[.bool n.leaf, .slice ad n.items.length c, .slice kd n.kids.length d] 28)).alloc (.cells #[.string xk, .string xv, .int .i64 xp, .int .i64 xl] 24)).heap[w.heap.size]? = some (.cells #[.bool n.leaf, .slice ad n.items.length c, .slice kd n.kids.length d] 28 (0, 0)) := k_al (heap_alloc_new w _) _
  have hX0 : ((w.alloc (.cells #[.bool n.leaf, .slice ad n.items.length c, .slice kd n.kids.length d] 28)).alloc (.cells #[.string xk, .string xv, .int .i64 xp, .int .i64 xl] 24)).heap[w.heap.size + 1]? = some (.cells #[.string xk, .string xv, .int .i64 xp, .int .i64 xl] 24 (0, 0)) := by have := heap_alloc_new (w.alloc (.cells #[.bool n.leaf, .slice ad n.items.length c, .slice kd n.kids.length d] 28)) (.cells #[.string xk, .string xv, .int .i64 xp, .int .i64 xl] 24); simpa using this
  have hB0 : Below w.heap.size w ((w.alloc (.cells #[.bool n.leaf, .slice ad n.items.length c, .slice kd n.kids.length d] 28)).alloc (.cells #[.string xk, .string xv, .int .i64 xp, .int .i64 xl] 24)) := ((Below.refl w.heap.size w).alloc (Nat.le_refl _) _).alloc (by simp) _
  generalize ((w.alloc (.cells #[.bool n.leaf, .slice ad n.items.length c, .slice kd n.kids.length d] 28)).alloc (.cells #[.string xk, .string xv, .int .i64 xp, .int .i64 xl] 24)) = W0 at *
  have HZ : Hid (∀ X : World, Below W0.heap.size W0 X → X.heap[w.heap.size]? = some (.cells #[.bool n.leaf, .slice ad n.items.length c, .slice kd n.kids.length d] 28 (0, 0)) ∧ X.heap[w.heap.size + 1]? = some (.cells #[.string xk, .string xv, .int .i64 xp, .int .i64 xl] 24 (0, 0)) ∧ Below w.heap.size w X ∧ w.heap.size + 2 ≤ X.heap.size) := fun X h => by
    have h1 := lt_of_heap hX0
    have h2 := h.size
    exact ⟨(h.block _ (by omega)).trans hN0, (h.block _ (by omega)).trans hX0, hB0.trans (h.mono (by omega)), by omega⟩
  clear hN0 hX0 hB0
  have J0 := Below.refl W0.heap.size W0
  refine (works_any _).mono ?_
  rintro e1 w1 ⟨rfl, hb⟩
  have J1 := J0.trans (hb.mono J0.size)
  clear J0 hb
  obtain ⟨qn, qx, hbe, hsz⟩ := HZ.out _ J1
  obtain ⟨n0, n1, n2⟩ := cells3_of qn
  go_wp2_with fail
  refine (long_any n _ _ _ (HN.out _ hbe)).mono ?_
  rintro e2 w2 ⟨rfl, hb⟩
  have J2 := J1.trans (hb.mono J1.size)
  clear J1 hb qn qx hbe hsz n0 n1 n2
  obtain ⟨qn, qx, hbe, hsz⟩ := HZ.out _ J2
  obtain ⟨n0, n1, n2⟩ := cells3_of qn
  by_cases hln : 300 < n.items.length ∨ 300 < n.kids.length
  · rw [decide_eq_true hln]
    go_wp2
    go_ret
    exact ⟨rfl, hbe⟩
  rw [decide_eq_false hln]
  have HLn : Hid (n.items.length ≤ 300 ∧ n.kids.length ≤ 300) := ⟨by omega, by omega⟩
  clear hln
  go_wp2_with fail
  refine (Check_any n _ _ _ (HN.out _ hbe) hbe.size (by have := HLn.out; omega) (by have := HLn.out; omega)).mono ?_
  rintro e3 w3 ⟨rfl, hb⟩
  have J3 := J2.trans (hb.mono J2.size)
  clear J2 hb qn qx hbe hsz n0 n1 n2
  obtain ⟨qn, qx, hbe, hsz⟩ := HZ.out _ J3
  obtain ⟨n0, n1, n2⟩ := cells3_of qn
  by_cases hwn : ¬ (Cm.wrong n : Int) = 0
  · have hwb : ((Cm.wrong n : Int) == 0) = false := by simpa using hwn
    go_wp2
    go_ret
    exact ⟨rfl, hbe⟩
  have hwn : (Cm.wrong n : Int) = 0 := Decidable.not_not.1 hwn
  have HWn : Hid (Cm.wrong n = 0) := by show _ = _; omega
  go_wp2_with fail
  refine (copied_any n _ _ _ (HN.out _ hbe) hbe.size (by have := HLn.out; omega) (by have := HLn.out; omega)).mono ?_
  rintro e4 w4 ⟨vi4, vk4, rfl, ho4, hk4, hb⟩
  have J4 := J3.trans (hb.mono J3.size)
  have J3s : Hid (W0.heap.size ≤ w3.heap.size) := J3.size
  clear J3 hb qn qx hbe hsz n0 n1 n2 hwn
  obtain ⟨ai, ci, rfl, -⟩ := ho4.its
  obtain ⟨aj, cj, rfl, -⟩ := hk4.ints
  go_upto_region 6 with fail
  have hs3 := J3s.out
  have hM : MvS W0 (w4.alloc (.cells #[.bool n.leaf, .slice ai n.items.length ci, .slice aj n.kids.length cj] 28)) w4.heap.size n.leaf (.slice ai n.items.length ci) (.slice aj n.kids.length cj) n.items n.kids :=
    ⟨J4.alloc J4.size _, J4.size, heap_alloc_new w4 _, (OwnC.low ho4 hs3).alloc _, (OwnN.low hk4 hs3).alloc _⟩
  clear ho4 hk4 J4 J3s hs3
  generalize w4.alloc (.cells #[.bool n.leaf, .slice ai n.items.length ci, .slice aj n.kids.length cj] 28) = X at *
  generalize w4.heap.size = q at *
  obtain ⟨p0, p1, p2⟩ := cells3_of hM.bx
  obtain ⟨qn, qx, hbe, hsz⟩ := HZ.out _ hM.be
  obtain ⟨x0, x1, x2, x3⟩ := cells4_of qx
  go_wp2_with fail
  refine (cfind_any n xk _ X.heap.size X hM.nd (Nat.le_refl _) (by have := HLn.out; omega) (by have := HLn.out; omega)).mono ?_
  rintro e5 w5 ⟨rfl, hb⟩
  have hM5 := hM.below hb
  clear hM hb p0 p1 p2 qn qx hbe hsz x0 x1 x2 x3
  have HRn : Hid (Cm.Right n) := (Cm.of_wrong_zero HWn.out).1
  rw [if_pos HRn.out, decide_eq_true HRn.out, Bool.true_and]
  have HIp : Hid (Cm.place n xk ≤ n.items.length) := Cm.place_le n xk
  generalize Cm.place n xk = I at *
  obtain ⟨qn, qx, hbe, hsz⟩ := HZ.out _ hM5.be
  cases his : Cm.isIn n xk with
  | true =>
    go_wp2
    go_ret
    exact ⟨rfl, hbe⟩
  | false =>
    clear his
    clear qn qx hbe hsz
    go_upto_region 9 with fail
    obtain ⟨p0, p1, p2⟩ := cells3_of hM5.bx
    obtain ⟨qn, qx, hbe, hsz⟩ := HZ.out _ hM5.be
    obtain ⟨x0, x1, x2, x3⟩ := cells4_of qx
    have hMa := hM5.below ((Below.refl w5.heap.size w5).alloc (Nat.le_refl _) (.cells #[.string xk, .string xv, .int .i64 xp, .int .i64 xl] 24))
    have hlit : (w5.alloc (.cells #[.string xk, .string xv, .int .i64 xp, .int .i64 xl] 24)).heap[w5.heap.size]? = some (.cells (itsV [⟨xk, xv, xp, xl⟩]).toArray 24 (0, 0)) := heap_alloc_new w5 (.cells #[.string xk, .string xv, .int .i64 xp, .int .i64 xl] 24)
    have hne : (Value.slice ai n.items.length ci).ownBlock ≠ some w5.heap.size := fun h => by have := (World.ownsRow.lt hM5.oi _ h).2; omega
    go_wp2_with fail
    refine (InsertC_any n.items ⟨xk, xv, xp, xl⟩ I W0.heap.size w5.heap.size _ _ hMa.oi HIp.out (by have := HLn.out; omega) hMa.be.size hlit hne).mono ?_
    rintro e6 w6 ⟨v6, rfl, h1, h2⟩
    obtain ⟨hn6, hM6⟩ := hMa.addC h1 h2
    obtain ⟨LI, hLI⟩ : ∃ LI, n.items.take I ++ ⟨xk, xv, xp, xl⟩ :: n.items.drop I = LI := ⟨_, rfl⟩
    rw [hLI] at h1 hM6
    have HLI : Hid _ := hLI
    have HLl : Hid (LI.length = n.items.length + 1) := by show _ = _; have := HIp.out; rw [← hLI]; simp; omega
    obtain ⟨a6, c6, rfl, -⟩ := h1.its
    clear hLI hMa hlit hne h1 h2 hM5 p0 p1 p2 qn qx hbe hsz x0 x1 x2 x3
    obtain ⟨p0, p1, p2⟩ := cells3_of hn6
    have pf := fun j => frozen_of_row _ q j _ _ hn6
    go_upto_region 10 with fail
    clear p0 p1 p2 pf hn6
    generalize w6.setCell ⟨q, 1, none⟩ (.slice a6 LI.length c6) = X6 at *
    obtain ⟨p0, p1, p2⟩ := cells3_of hM6.bx
    go_upto_if 46 with fail
    obtain ⟨lf, hlfe⟩ : ∃ lf, n.leaf = lf := ⟨_, rfl⟩
    have Hlf : Hid (n.leaf = lf) := hlfe
    rw [hlfe] at hM6 HN HZ ⊢
    clear hlfe p0 p1 p2
    obtain ⟨p0, p1, p2⟩ := cells3_of hM6.bx
    go_cut [8] (fun pi X => pi = .int .i64 (I : Int) ∧ ∃ (LK : List Int) (a7 : Option Addr) (c7 : Nat), MvS W0 X q lf (.slice a6 LI.length c6) (.slice a7 LK.length c7) LI LK ∧ LK = (if lf = true then n.kids else n.kids.take (I + 1) ++ kid :: n.kids.drop (I + 1)))
    case first =>
      cases lf with
      | true =>
        go_wp2_with fail
        go_meet
        exact ⟨rfl, n.kids, aj, cj, hM6, by simp⟩
      | false =>
        have HIk : Hid (I + 1 ≤ n.kids.length) := by
          show _ ≤ _
          have h1 := HRn.out.2
          rw [if_neg (by rw [Hlf.out]; simp)] at h1
          have h2 := HIp.out
          omega
        have hMa := hM6.below ((Below.refl X6.heap.size X6).alloc (Nat.le_refl _) (.cells #[.int .i64 kid] 3))
        have hlit : (X6.alloc (.cells #[.int .i64 kid] 3)).heap[X6.heap.size]? = some (.cells (intsV [kid]).toArray 3 (0, 0)) := heap_alloc_new X6 (.cells #[.int .i64 kid] 3)
        have hne : (Value.slice aj n.kids.length cj).ownBlock ≠ some X6.heap.size := fun h => by have := (World.ownsRow.lt hM6.ok _ h).2; omega
        have hw1 : IntKind.i64.wrap ((I : Int) + 1) = (I : Int) + 1 := by rw [IntKind.wrap_i64]; have := HIp.out; have := HLn.out; omega
        go_wp2_with fail
        have hins := InsertN_any n.kids kid (I + 1) W0.heap.size X6.heap.size _ _ hMa.ok HIk.out (by have := HLn.out; omega) hMa.be.size hlit hne
        rw [show ((I + 1 : Nat) : Int) = (I : Int) + 1 by omega] at hins
        refine hins.mono ?_
        rintro e7 w7 ⟨v7, rfl, h1, h2⟩
        obtain ⟨hn7, hM7⟩ := hMa.addN h1 h2
        obtain ⟨LK, hLK⟩ : ∃ LK, n.kids.take (I + 1) ++ kid :: n.kids.drop (I + 1) = LK := ⟨_, rfl⟩
        rw [hLK] at h1 hM7
        have HLK : Hid _ := hLK
        obtain ⟨a7, c7, rfl, -⟩ := h1.ints
        clear hLK hMa hlit hne h1 h2 hM6 p0 p1 p2 hins
        obtain ⟨p0, p1, p2⟩ := cells3_of hn7
        have pf := fun j => frozen_of_row _ q j _ _ hn7
        go_wp2_with fail
        go_meet
        exact ⟨rfl, LK, a7, c7, hM7, by rw [if_neg (by simp)]; exact HLK.out.symm⟩
    case rest =>
      obtain ⟨rfl, LK, a7, c7, hM, hLK⟩ := hcut
      clear hM6 p0 p1 p2
      obtain ⟨MM, hMM⟩ : ∃ MM : Cm.Nd, MM = ⟨lf, LI, LK⟩ := ⟨_, rfl⟩
      have HMl : Hid (MM.leaf = lf) := by show _ = _; rw [hMM]
      have HMi : Hid (MM.items = LI) := by show _ = _; rw [hMM]
      have HMk : Hid (MM.kids = LK) := by show _ = _; rw [hMM]
      have HMn : Hid (MM.items = n.items.take I ++ ⟨xk, xv, xp, xl⟩ :: n.items.drop I) := by show _ = _; rw [HMi.out, ← HLI.out]
      have HLKl : Hid (LK.length ≤ 301) := by
        show _ ≤ _
        have h1 := HLn.out
        rw [hLK]
        split
        · omega
        · simp; omega
      have HNM : Hid (∀ X : World, MvS W0 X q lf (.slice a6 LI.length c6) (.slice a7 LK.length c7) LI LK → NdS X X.heap.size (.agg #[.bool lf, .slice a6 LI.length c6, .slice a7 LK.length c7]) MM) := fun X h => by rw [hMM]; exact h.nd
      clear hMM hLK
      obtain ⟨p0, p1, p2⟩ := cells3_of hM.bx
      go_wp2_with fail
      refine (Check_any MM _ _ _ (HNM.out _ hM) (Nat.le_refl _) (by have := HLn.out; have := HLl.out; rw [HMi.out]; omega) (by have := HLKl.out; rw [HMk.out]; omega)).mono ?_
      rintro e8 w8 ⟨rfl, hb⟩
      have hM8 := hM.below hb
      clear hM hb p0 p1 p2
      obtain ⟨qn, qx, hbe, hsz⟩ := HZ.out _ hM8.be
      obtain ⟨p0, p1, p2⟩ := cells3_of hM8.bx
      by_cases hw2 : (Cm.wrong MM : Int) = 2
      · have hwb : ((Cm.wrong MM : Int) == 2) = true := by simpa using hw2
        go_wp2
        go_ret
        exact ⟨rfl, hbe⟩
      have hwb : ((Cm.wrong MM : Int) == 2) = false := by simpa using hw2
      have HRM : Hid (Cm.Right MM) := by
        show Cm.Right MM
        rcases Classical.em (Cm.Right MM) with h | h
        · exact h
        · exact absurd (by unfold Cm.wrong; rw [if_neg h]; rfl) hw2
      clear hbe hsz qn qx hw2
      go_wp2_with fail
      refine (Half_any MM _ _ _ (HNM.out _ hM8) (Nat.le_refl _) (by have := HLn.out; have := HLl.out; rw [HMi.out]; omega) (by have := HLKl.out; rw [HMk.out]; omega)).mono ?_
      rintro e9 w9 ⟨hHS, hb⟩
      have hM9 := hM8.below hb
      have hs9 := hM8.be.size
      clear hM8 p0 p1 p2 hwb
      rcases hHS with ⟨h, -⟩ | ⟨-, hh, rfl⟩ | ⟨-, A, key, B, vai, vak, vbi, vbk, hh, rfl, h1, h2, h3, h4⟩
      · exact absurd HRM.out h
      · have hpl : Cm.places MM = 0 := by
          rcases Nat.eq_zero_or_pos (Cm.places MM) with h | h
          · exact h
          · obtain ⟨j, -, -, h3, -⟩ := Cm.half_some h
            rw [hh] at h3; cases h3
        obtain ⟨hw0, hl3⟩ := Cm.few_fit HRM.out hpl
        rw [HMi.out] at hl3
        have hl3' : (LI.length : Int) < 3 := by omega
        obtain ⟨qn, qx, hbe, hsz⟩ := HZ.out _ hM9.be
        obtain ⟨p0, p1, p2⟩ := cells3_of hM9.bx
        rw [hw0]
        clear hh hpl hw0 hl3 hb
        go_upto_region 17 with fail
        have hMf := hM9.below (((Below.refl w9.heap.size w9).alloc (Nat.le_refl _) (.cells #[.bool false, .slice none 0 0, .slice none 0 0] 28)).alloc (by simp) (.cells #[.bool false, .slice none 0 0, .slice none 0 0] 28))
        clear hM9 p0 p1 p2 qn qx hbe hsz
        generalize (w9.alloc (.cells #[.bool false, .slice none 0 0, .slice none 0 0] 28)).alloc (.cells #[.bool false, .slice none 0 0, .slice none 0 0] 28) = Y at *
        obtain ⟨qn, qx, hbe, hsz⟩ := HZ.out _ hMf.be
        obtain ⟨p0, p1, p2⟩ := cells3_of hMf.bx
        have hl3b : decide ((LI.length : Int) < 3) = true := decide_eq_true hl3'
        go_wp2
        go_ret
        exact ⟨rfl, hbe⟩
      · have hpl : 1 ≤ Cm.places MM := by
          rcases Nat.eq_zero_or_pos (Cm.places MM) with h | h
          · rw [Cm.half_none h] at hh; cases hh
          · exact h
        obtain ⟨jj, hj1, hj2, hj3, hj4, hj5⟩ := Cm.halves_fit HWn.out HRM.out (by rw [HMl.out, Hlf.out]) HMn.out hpl
        rw [hh] at hj3
        simp only [Option.some.injEq, Prod.mk.injEq] at hj3
        obtain ⟨hA, hk, hB⟩ := hj3
        have HwA : Hid (Cm.wrong A = 0) := by show _ = _; rw [hA]; exact hj4
        have HwB : Hid (Cm.wrong B = 0) := by show _ = _; rw [hB]; exact hj5
        have HlA : Hid (A.leaf = lf) := by show _ = _; rw [hA, Cm.cutL_leaf, HMl.out]
        have HlB : Hid (B.leaf = lf) := by show _ = _; rw [hB, Cm.cutR_leaf, HMl.out]
        have HJd : Hid (Cm.joined A key B = MM) := by show _ = _; rw [hA, hB, hk]; exact Cm.joined_cut HRM.out hj1 hj2
        have HJo : Hid (Cm.join A key B = if Cm.wrong MM = 0 then (MM, 0) else (Cm.none, Cm.wrong MM)) := by show _ = _; rw [hA, hB, hk]; exact Cm.join_cut HRM.out hj1 hj2
        have HB0 : Hid (lf = true → 0 < B.items.length ∧ (B.items.getD 0 Cm.zero).key = key) := fun h => by
          have hlm : MM.leaf = true := by rw [HMl.out]; exact h
          have hp := (Cm.places_lt (m := MM) hj1 hj2).1
          rw [hB, Cm.cutR_items_leaf MM jj hlm, hk]
          refine ⟨by rw [List.length_drop]; omega, ?_⟩
          rw [Cm.getD_drop, Nat.add_zero]
        clear hA hk hB hj1 hj2 hj4 hj5 hh hpl
        obtain ⟨a1, c1, rfl, -⟩ := h1.its
        obtain ⟨a2, c2, rfl, -⟩ := h2.ints
        obtain ⟨b1, d1, rfl, -⟩ := h3.its
        obtain ⟨b2, d2, rfl, -⟩ := h4.ints
        have hY : Below w9.heap.size w9 ((w9.alloc (.cells #[.bool lf, .slice a1 A.items.length c1, .slice a2 A.kids.length c2] 28)).alloc (.cells #[.bool lf, .slice b1 B.items.length d1, .slice b2 B.kids.length d2] 28)) := ((Below.refl w9.heap.size w9).alloc (Nat.le_refl _) _).alloc (by simp) _
        have hq1 : ((w9.alloc (.cells #[.bool lf, .slice a1 A.items.length c1, .slice a2 A.kids.length c2] 28)).alloc (.cells #[.bool lf, .slice b1 B.items.length d1, .slice b2 B.kids.length d2] 28)).heap[w9.heap.size]? = some (.cells #[.bool lf, .slice a1 A.items.length c1, .slice a2 A.kids.length c2] 28 (0, 0)) := k_al (heap_alloc_new w9 _) _
        have hq2 : ((w9.alloc (.cells #[.bool lf, .slice a1 A.items.length c1, .slice a2 A.kids.length c2] 28)).alloc (.cells #[.bool lf, .slice b1 B.items.length d1, .slice b2 B.kids.length d2] 28)).heap[w9.heap.size + 1]? = some (.cells #[.bool lf, .slice b1 B.items.length d1, .slice b2 B.kids.length d2] 28 (0, 0)) := by have := heap_alloc_new (w9.alloc (.cells #[.bool lf, .slice a1 A.items.length c1, .slice a2 A.kids.length c2] 28)) (.cells #[.bool lf, .slice b1 B.items.length d1, .slice b2 B.kids.length d2] 28); simpa using this
        have hMY := hM9.below hY
        have hiA := (h1.its.below hY (Nat.le_refl _)).mono hY.size
        have hkA := (h2.ints.below hY (Nat.le_refl _)).mono hY.size
        have hiB := (h3.its.below hY (Nat.le_refl _)).mono hY.size
        have hkB := (h4.ints.below hY (Nat.le_refl _)).mono hY.size
        rw [HlA.out, HlB.out]
        clear h1 h2 h3 h4 hM9 hY hb
        go_upto_region 18 with fail
        generalize ((w9.alloc (.cells #[.bool lf, .slice a1 A.items.length c1, .slice a2 A.kids.length c2] 28)).alloc (.cells #[.bool lf, .slice b1 B.items.length d1, .slice b2 B.kids.length d2] 28)) = Y at *
        generalize w9.heap.size = qa at *
        have HJi : Hid (A.items ++ (if lf = true then [] else [⟨key, .empty, 0, 0⟩]) ++ B.items = LI) := by show _ = _; have h := congrArg Cm.Nd.items HJd.out; rw [HMi.out] at h; rw [← h]; unfold Cm.joined; rw [HlA.out]
        have HJk : Hid (A.kids ++ B.kids = LK) := by show _ = _; have h := congrArg Cm.Nd.kids HJd.out; rw [HMk.out] at h; rw [← h]; rfl
        have HsA : Hid (A.items.length ≤ 301 ∧ B.items.length ≤ 301 ∧ A.kids.length ≤ 301 ∧ B.kids.length ≤ 301) := by
          have g1 := congrArg List.length HJi.out
          have g2 := congrArg List.length HJk.out
          simp only [List.length_append] at g1 g2
          have g3 := HLKl.out
          have g4 := HLl.out
          have g5 := HLn.out
          exact ⟨by omega, by omega, by omega, by omega⟩
        have HSX : Hid (∀ X : World, Below Y.heap.size Y X → X.cell? ⟨qa, 0, none⟩ = some (.bool lf) ∧ X.cell? ⟨qa, 1, none⟩ = some (.slice a1 A.items.length c1) ∧ X.cell? ⟨qa, 2, none⟩ = some (.slice a2 A.kids.length c2) ∧ X.cell? ⟨qa + 1, 0, none⟩ = some (.bool lf) ∧ X.cell? ⟨qa + 1, 1, none⟩ = some (.slice b1 B.items.length d1) ∧ X.cell? ⟨qa + 1, 2, none⟩ = some (.slice b2 B.kids.length d2) ∧ X.cell? ⟨q, 0, none⟩ = some (.bool lf) ∧ X.cell? ⟨q, 1, none⟩ = some (.slice a6 LI.length c6) ∧ X.cell? ⟨q, 2, none⟩ = some (.slice a7 LK.length c7)) := fun X h => by
          obtain ⟨f0, f1, f2⟩ := cells3_of ((h.block _ (lt_of_heap hq1)).trans hq1)
          obtain ⟨f3, f4, f5⟩ := cells3_of ((h.block _ (lt_of_heap hq2)).trans hq2)
          obtain ⟨f6, f7, f8⟩ := cells3_of ((h.block _ (lt_of_heap hMY.bx)).trans hMY.bx)
          exact ⟨f0, f1, f2, f3, f4, f5, f6, f7, f8⟩
        have HNA : Hid (∀ X : World, Below Y.heap.size Y X → NdS X Y.heap.size (.agg #[.bool lf, .slice a1 A.items.length c1, .slice a2 A.kids.length c2]) A) := fun X h => ⟨_, _, by rw [HlA.out], hiA.below h (Nat.le_refl _), hkA.below h (Nat.le_refl _)⟩
        have HNB : Hid (∀ X : World, Below Y.heap.size Y X → NdS X Y.heap.size (.agg #[.bool lf, .slice b1 B.items.length d1, .slice b2 B.kids.length d2]) B) := fun X h => ⟨_, _, by rw [HlB.out], hiB.below h (Nat.le_refl _), hkB.below h (Nat.le_refl _)⟩
        have HMX : Hid (∀ X : World, Below Y.heap.size Y X → MvS W0 X q lf (.slice a6 LI.length c6) (.slice a7 LK.length c7) LI LK) := fun X h => hMY.below h
        have HCa : Hid (∀ X : World, Below Y.heap.size Y X → Calls Try.prog 13 #[.agg #[.bool lf, .slice a1 A.items.length c1, .slice a2 A.kids.length c2]] X fun e w' => e = .returned (.int .i64 0) ∧ Below X.heap.size X w') := fun X h => by
          have hc := Check_any A _ _ X (HNA.out X h) h.size (by have := HsA.out; omega) (by have := HsA.out; omega)
          rw [HwA.out] at hc
          exact hc
        have HCb : Hid (∀ X : World, Below Y.heap.size Y X → Calls Try.prog 13 #[.agg #[.bool lf, .slice b1 B.items.length d1, .slice b2 B.kids.length d2]] X fun e w' => e = .returned (.int .i64 0) ∧ Below X.heap.size X w') := fun X h => by
          have hc := Check_any B _ _ X (HNB.out X h) h.size (by have := HsA.out; omega) (by have := HsA.out; omega)
          rw [HwB.out] at hc
          exact hc
        have HCc : Hid (∀ X : World, Below Y.heap.size Y X → Calls Try.prog 23 #[.slice (some ⟨X.heap.size, 0, none⟩) 2 2] (X.alloc (.cells #[.slice a2 A.kids.length c2, .slice b2 B.kids.length d2] 26)) fun e w' => ∃ ad c, e = .returned (.slice ad LK.length c) ∧ Ints w' w'.heap.size (.slice ad LK.length c) LK ∧ Below (X.alloc (.cells #[.slice a2 A.kids.length c2, .slice b2 B.kids.length d2] 26)).heap.size (X.alloc (.cells #[.slice a2 A.kids.length c2, .slice b2 B.kids.length d2] 26)) w') := fun X h => by
          have ha := h.alloc h.size (.cells #[.slice a2 A.kids.length c2, .slice b2 B.kids.length d2] 26)
          have hc := ConcatN_any [A.kids, B.kids] Y.heap.size X.heap.size 0 2 (X.alloc (.cells #[.slice a2 A.kids.length c2, .slice b2 B.kids.length d2] 26)) (lst2N (heap_alloc_new X (.cells #[.slice a2 A.kids.length c2, .slice b2 B.kids.length d2] 26)) (hkA.below ha (Nat.le_refl _)) (hkB.below ha (Nat.le_refl _))) (by simp) ha.size (by simp) (by have := HsA.out; simp; omega)
          refine hc.mono ?_
          rintro e' w' ⟨v', rfl, ho, hb⟩
          have ho : OwnN w' (X.alloc (.cells #[.slice a2 A.kids.length c2, .slice b2 B.kids.length d2] 26)).heap.size v' LK := by rw [← HJk.out]; simpa using ho
          obtain ⟨ad', c', rfl, -⟩ := ho.ints
          exact ⟨ad', c', rfl, ho.ints, hb⟩
        have HCe : Hid (∀ (X : World) (va : Value), Below Y.heap.size Y X → Ints X X.heap.size va LK → Calls Try.prog 22 #[va, .slice a7 LK.length c7] X fun e w' => e = .returned (.bool true) ∧ Below X.heap.size X w') := fun X va h hv => by
          refine (EqualN_any LK LK va _ _ _ X hv (HMX.out X h).ok.ints (by have := HLKl.out; omega)).mono ?_
          rintro e' w' ⟨rfl, qq, rfl⟩
          exact ⟨by rw [decide_eq_true rfl], rfl, rfl, rfl, Nat.le_refl _, fun _ _ => rfl⟩
        have Hq1 : Hid _ := hq1
        have Hq2 : Hid _ := hq2
        have HIA : Hid (∀ X : World, Below Y.heap.size Y X → Its X Y.heap.size (.slice a1 A.items.length c1) A.items) := fun X h => hiA.below h (Nat.le_refl _)
        have HIB : Hid (∀ X : World, Below Y.heap.size Y X → Its X Y.heap.size (.slice b1 B.items.length d1) B.items) := fun X h => hiB.below h (Nat.le_refl _)
        clear hq1 hq2 hMY hiA hkA hiB hkB
        go_cut [113] (fun pc X => pc = .bool false ∧ Below Y.heap.size Y X)
        case first =>
          have J0 : Below Y.heap.size Y Y.drew := ⟨rfl, rfl, rfl, Nat.le_refl _, fun _ _ => rfl⟩
          refine wp_region_held_drew (S := fun X : World => X.cell? ⟨qa, 0, none⟩ = some (.bool lf) ∧ X.cell? ⟨qa, 1, none⟩ = some (.slice a1 A.items.length c1) ∧ X.cell? ⟨qa, 2, none⟩ = some (.slice a2 A.kids.length c2) ∧ X.cell? ⟨qa + 1, 0, none⟩ = some (.bool lf) ∧ X.cell? ⟨qa + 1, 1, none⟩ = some (.slice b1 B.items.length d1) ∧ X.cell? ⟨qa + 1, 2, none⟩ = some (.slice b2 B.kids.length d2) ∧ X.cell? ⟨q, 0, none⟩ = some (.bool lf) ∧ X.cell? ⟨q, 1, none⟩ = some (.slice a6 LI.length c6) ∧ X.cell? ⟨q, 2, none⟩ = some (.slice a7 LK.length c7)) (by as_aux_lemma => kernel_rfl) (HSX.out _ J0) (fun hHeld => ?_)
          refine wpAnyH_take (i := 0) (v := ?_) rfl (by as_aux_lemma => kernel_rfl) (by as_aux_lemma => kernel_rfl) (by as_aux_lemma => kernel_rfl) (fun _ _ _ h => h) (Or.inl ⟨(by simp [Region.wanted]), ?_⟩) (hHeld) ?_
          rotate_left
          · (intro w hSw; (try dsimp only at hSw); ((go_simp) <;> (with_reducible rfl)))
          try simp only [Act.put, List.setIfInBounds_toArray]
          refine wpAnyH_ready (rs := [1]) (by as_aux_lemma => kernel_rfl) (by simp) ?_
          refine AllReadyH.cons rfl (fun K hK => ?_) AllReadyH.nil
          go_simp
          refine (HCa.out _ J0).mono ?_
          rintro e w10 ⟨rfl, hb⟩
          have J10 : Below Y.heap.size Y w10 := J0.trans (hb.mono J0.size)
          clear hb
          try go_wp2_with fail
          refine hK.out _ _ (HSX.out _ J10) (fun hHeld => ?_)
          clear hK K
          try simp only [Act.put, List.setIfInBounds_toArray, List.set_cons_zero, List.set_cons_succ]
          refine wpAnyH_take (i := 2) (v := ?_) rfl (by as_aux_lemma => kernel_rfl) (by as_aux_lemma => kernel_rfl) (by as_aux_lemma => kernel_rfl) (fun _ _ _ h => h) (Or.inl ⟨(by simp [Region.wanted]), ?_⟩) (hHeld) ?_
          rotate_left
          · (intro w hSw; (try dsimp only at hSw); ((go_simp) <;> (with_reducible rfl)))
          try simp only [Act.put, List.setIfInBounds_toArray]
          refine wpAnyH_take (i := 3) (v := ?_) rfl (by as_aux_lemma => kernel_rfl) (by as_aux_lemma => kernel_rfl) (by as_aux_lemma => kernel_rfl) (fun _ _ _ h => h) (Or.inl ⟨(by simp [Region.wanted]), ?_⟩) (hHeld) ?_
          rotate_left
          · (intro w hSw; (try dsimp only at hSw); ((go_simp) <;> (with_reducible rfl)))
          try simp only [Act.put]
          refine wpAnyH_take (i := 4) (v := ?_) rfl (by as_aux_lemma => kernel_rfl) (by as_aux_lemma => kernel_rfl) (by as_aux_lemma => kernel_rfl) (fun _ _ _ h => h) (Or.inl ⟨(by simp [Region.wanted, yielded]), ?_⟩) (hHeld) ?_
          rotate_left
          · (intro w hSw; (try dsimp only at hSw); ((go_simp) <;> (with_reducible rfl)))
          try simp only [Act.put]
          refine wpAnyH_ready (rs := [5]) (by as_aux_lemma => kernel_rfl) (by simp) ?_
          refine AllReadyH.cons rfl (fun K hK => ?_) AllReadyH.nil
          go_simp
          refine (HCb.out _ J10).mono ?_
          rintro e w11 ⟨rfl, hb⟩
          have J11 : Below Y.heap.size Y w11 := J10.trans (hb.mono J10.size)
          clear hb
          try go_wp2_with fail
          refine hK.out _ _ (HSX.out _ J11) (fun hHeld => ?_)
          clear hK K
          try simp only [Act.put, List.setIfInBounds_toArray, List.set_cons_zero, List.set_cons_succ]
          refine wpAnyH_take (i := 6) (v := ?_) rfl (by as_aux_lemma => kernel_rfl) (by as_aux_lemma => kernel_rfl) (by as_aux_lemma => kernel_rfl) (fun _ _ _ h => h) (Or.inl ⟨(by simp [Region.wanted, yielded]), ?_⟩) (hHeld) ?_
          rotate_left
          · (intro w hSw; (try dsimp only at hSw); ((go_simp) <;> (with_reducible rfl)))
          try simp only [Act.put, List.setIfInBounds_toArray]
          refine wpAnyH_take (i := 7) (v := ?_) rfl (by as_aux_lemma => kernel_rfl) (by as_aux_lemma => kernel_rfl) (by as_aux_lemma => kernel_rfl) (fun _ _ _ h => h) (Or.inl ⟨(by simp [Region.wanted]), ?_⟩) (hHeld) ?_
          rotate_left
          · (intro w hSw; (try dsimp only at hSw); ((go_simp) <;> (with_reducible rfl)))
          try simp only [Act.put]
          refine wpAnyH_take (i := 8) (v := ?_) rfl (by as_aux_lemma => kernel_rfl) (by as_aux_lemma => kernel_rfl) (by as_aux_lemma => kernel_rfl) (fun _ _ _ h => h) (Or.inl ⟨(by simp [Region.wanted]), ?_⟩) (hHeld) ?_
          rotate_left
          · (intro w hSw; (try dsimp only at hSw); ((go_simp) <;> (with_reducible rfl)))
          try simp only [Act.put]
          refine wpAnyH_take (i := 9) (v := ?_) rfl (by as_aux_lemma => kernel_rfl) (by as_aux_lemma => kernel_rfl) (by as_aux_lemma => kernel_rfl) (fun _ _ _ h => h) (Or.inl ⟨(by simp [Region.wanted, yielded]), ?_⟩) (hHeld) ?_
          rotate_left
          · (intro w hSw; (try dsimp only at hSw); ((go_simp) <;> (with_reducible rfl)))
          try simp only [Act.put]
          refine wpAnyH_take (i := 10) (v := ?_) rfl (by as_aux_lemma => kernel_rfl) (by as_aux_lemma => kernel_rfl) (by as_aux_lemma => kernel_rfl) (fun _ _ _ h => h) (Or.inl ⟨(by simp [Region.wanted, yielded]), ?_⟩) (hHeld) ?_
          rotate_left
          · (intro w hSw; (try dsimp only at hSw); ((go_simp) <;> (with_reducible rfl)))
          try simp only [Act.put]
          refine wpAnyH_take (i := 11) (v := ?_) rfl (by as_aux_lemma => kernel_rfl) (by as_aux_lemma => kernel_rfl) (by as_aux_lemma => kernel_rfl) (fun _ _ _ h => h) (Or.inl ⟨(by simp [Region.wanted, yielded]), ?_⟩) (hHeld) ?_
          rotate_left
          · (intro w hSw; (try dsimp only at hSw); ((go_simp) <;> (with_reducible rfl)))
          try simp only [Act.put]
          refine wpAnyH_take (i := 12) (v := ?_) rfl (by as_aux_lemma => kernel_rfl) (by as_aux_lemma => kernel_rfl) (by as_aux_lemma => kernel_rfl) (fun _ _ _ h => h) (Or.inl ⟨(by simp [Region.wanted, yielded]), ?_⟩) (hHeld) ?_
          rotate_left
          · (intro w hSw; (try dsimp only at hSw); ((go_simp) <;> (with_reducible rfl)))
          try simp only [Act.put]
          refine wpAnyH_take (i := 13) (v := ?_) rfl (by as_aux_lemma => kernel_rfl) (by as_aux_lemma => kernel_rfl) (by as_aux_lemma => kernel_rfl) (fun _ _ _ h => h) (Or.inl ⟨(by simp [Region.wanted, yielded]), ?_⟩) (hHeld) ?_
          rotate_left
          · (intro w hSw; (try dsimp only at hSw); ((go_simp) <;> (with_reducible rfl)))
          try simp only [Act.put]
          refine wpAnyH_take (i := 14) (v := ?_) rfl (by as_aux_lemma => kernel_rfl) (by as_aux_lemma => kernel_rfl) (by as_aux_lemma => kernel_rfl) (fun _ _ _ h => h) (Or.inl ⟨(by simp [Region.wanted]), ?_⟩) (hHeld) ?_
          rotate_left
          · (intro w hSw; (try dsimp only at hSw); ((go_simp) <;> (with_reducible rfl)))
          try simp only [Act.put]
          refine wpAnyH_take (i := 15) (v := ?_) rfl (by as_aux_lemma => kernel_rfl) (by as_aux_lemma => kernel_rfl) (by as_aux_lemma => kernel_rfl) (fun _ _ _ h => h) (Or.inl ⟨(by simp [Region.wanted]), ?_⟩) (hHeld) ?_
          rotate_left
          · (intro w hSw; (try dsimp only at hSw); ((go_simp) <;> (with_reducible rfl)))
          try simp only [Act.put]
          refine wpAnyH_take (i := 16) (v := ?_) rfl (by as_aux_lemma => kernel_rfl) (by as_aux_lemma => kernel_rfl) (by as_aux_lemma => kernel_rfl) (fun _ _ _ h => h) (Or.inl ⟨(by simp [Region.wanted, yielded]), ?_⟩) (hHeld) ?_
          rotate_left
          · (intro w hSw; (try dsimp only at hSw); ((go_simp) <;> (with_reducible rfl)))
          try simp only [Act.put]
          refine wpAnyH_take (i := 17) (v := ?_) rfl (by as_aux_lemma => kernel_rfl) (by as_aux_lemma => kernel_rfl) (by as_aux_lemma => kernel_rfl) (fun _ _ _ h => h) (Or.inl ⟨(by simp [Region.wanted, yielded]), ?_⟩) (hHeld) ?_
          rotate_left
          · (intro w hSw; (try dsimp only at hSw); ((go_simp) <;> (with_reducible rfl)))
          try simp only [Act.put]
          refine wpAnyH_take (i := 18) (v := ?_) rfl (by as_aux_lemma => kernel_rfl) (by as_aux_lemma => kernel_rfl) (by as_aux_lemma => kernel_rfl) (fun _ _ _ h => h) (Or.inl ⟨(by simp [Region.wanted, yielded]), ?_⟩) (hHeld) ?_
          rotate_left
          · (intro w hSw; (try dsimp only at hSw); ((go_simp) <;> (with_reducible rfl)))
          try simp only [Act.put]
          refine wpAnyH_take (i := 19) (v := ?_) rfl (by as_aux_lemma => kernel_rfl) (by as_aux_lemma => kernel_rfl) (by as_aux_lemma => kernel_rfl) (fun _ _ _ h => h) (Or.inl ⟨(by simp [Region.wanted, yielded]), ?_⟩) (hHeld) ?_
          rotate_left
          · (intro w hSw; (try dsimp only at hSw); ((go_simp) <;> (with_reducible rfl)))
          try simp only [Act.put]
          refine wpAnyH_take (i := 20) (v := ?_) rfl (by as_aux_lemma => kernel_rfl) (by as_aux_lemma => kernel_rfl) (by as_aux_lemma => kernel_rfl) (fun _ _ _ h => h) (Or.inl ⟨(by simp [Region.wanted, yielded]), ?_⟩) (hHeld) ?_
          rotate_left
          · (intro w hSw; (try dsimp only at hSw); ((go_simp) <;> (with_reducible rfl)))
          try simp only [Act.put]
          refine wpAnyH_take (i := 21) (v := ?_) rfl (by as_aux_lemma => kernel_rfl) (by as_aux_lemma => kernel_rfl) (by as_aux_lemma => kernel_rfl) (fun _ _ _ h => h) (Or.inl ⟨(by simp [Region.wanted]), ?_⟩) (hHeld) ?_
          rotate_left
          · (intro w hSw; (try dsimp only at hSw); ((go_simp) <;> (with_reducible rfl)))
          try simp only [Act.put]
          refine wpAnyH_take (i := 22) (v := ?_) rfl (by as_aux_lemma => kernel_rfl) (by as_aux_lemma => kernel_rfl) (by as_aux_lemma => kernel_rfl) (fun _ _ _ h => h) (Or.inl ⟨(by simp [Region.wanted]), ?_⟩) (hHeld) ?_
          rotate_left
          · (intro w hSw; (try dsimp only at hSw); ((go_simp) <;> (with_reducible rfl)))
          try simp only [Act.put]
          refine wpAnyH_take (i := 23) (v := ?_) rfl (by as_aux_lemma => kernel_rfl) (by as_aux_lemma => kernel_rfl) (by as_aux_lemma => kernel_rfl) (fun _ _ _ h => h) (Or.inl ⟨(by simp [Region.wanted, yielded]), ?_⟩) (hHeld) ?_
          rotate_left
          · (intro w hSw; (try dsimp only at hSw); ((go_simp) <;> (with_reducible rfl)))
          try simp only [Act.put]
          refine wpAnyH_take (i := 24) (v := ?_) rfl (by as_aux_lemma => kernel_rfl) (by as_aux_lemma => kernel_rfl) (by as_aux_lemma => kernel_rfl) (fun _ _ _ h => h) (Or.inl ⟨(by simp [Region.wanted, yielded]), ?_⟩) (hHeld) ?_
          rotate_left
          · (intro w hSw; (try dsimp only at hSw); ((go_simp) <;> (with_reducible rfl)))
          try simp only [Act.put]
          refine wpAnyH_take (i := 25) (v := ?_) rfl (by as_aux_lemma => kernel_rfl) (by as_aux_lemma => kernel_rfl) (by as_aux_lemma => kernel_rfl) (fun _ _ _ h => h) (Or.inl ⟨(by simp [Region.wanted, yielded]), ?_⟩) (hHeld) ?_
          rotate_left
          · (intro w hSw; (try dsimp only at hSw); ((go_simp) <;> (with_reducible rfl)))
          try simp only [Act.put]
          refine wpAnyH_take (i := 26) (v := ?_) rfl (by as_aux_lemma => kernel_rfl) (by as_aux_lemma => kernel_rfl) (by as_aux_lemma => kernel_rfl) (fun _ _ _ h => h) (Or.inl ⟨(by simp [Region.wanted, yielded]), ?_⟩) (hHeld) ?_
          rotate_left
          · (intro w hSw; (try dsimp only at hSw); ((go_simp) <;> (with_reducible rfl)))
          try simp only [Act.put]
          refine wpAnyH_take (i := 29) (v := ?_) rfl (by as_aux_lemma => kernel_rfl) (by as_aux_lemma => kernel_rfl) (by as_aux_lemma => kernel_rfl) (fun _ _ _ h => h) (Or.inl ⟨(by simp [Region.wanted, yielded]), ?_⟩) (hHeld) ?_
          rotate_left
          · (intro w hSw; (try dsimp only at hSw); ((go_simp) <;> (with_reducible rfl)))
          try simp only [Act.put]
          refine wpAnyH_take (i := 30) (v := ?_) rfl (by as_aux_lemma => kernel_rfl) (by as_aux_lemma => kernel_rfl) (by as_aux_lemma => kernel_rfl) (fun _ _ _ h => h) (Or.inl ⟨(by simp [Region.wanted, yielded]), ?_⟩) (hHeld) ?_
          rotate_left
          · (intro w hSw; (try dsimp only at hSw); ((go_simp) <;> (with_reducible rfl)))
          try simp only [Act.put]
          refine wpAnyH_ready (rs := [27]) (by as_aux_lemma => kernel_rfl) (by simp) ?_
          refine AllReadyH.cons rfl (fun K hK => ?_) AllReadyH.nil
          go_simp
          refine hK.out _ _ (HSX.out _ (J11.alloc J11.size (.cells #[.slice a2 A.kids.length c2, .slice b2 B.kids.length d2] 26))) (fun hHeld => ?_)
          clear hK K
          try simp only [Act.put, List.setIfInBounds_toArray, List.set_cons_zero, List.set_cons_succ]
          have J12 := J11.alloc J11.size (.cells #[.slice a2 A.kids.length c2, .slice b2 B.kids.length d2] 26)
          refine wpAnyH_ready (rs := [28]) (by as_aux_lemma => kernel_rfl) (by simp) ?_
          refine AllReadyH.cons rfl (fun K hK => ?_) AllReadyH.nil
          go_simp
          refine (HCc.out _ J11).mono ?_
          rintro e w13 ⟨ad13, c13, rfl, hi13, hb⟩
          have J13 : Below Y.heap.size Y w13 := J12.trans (hb.mono J12.size)
          clear hb
          try go_wp2_with fail
          refine hK.out _ _ (HSX.out _ J13) (fun hHeld => ?_)
          clear hK K
          try simp only [Act.put, List.setIfInBounds_toArray, List.set_cons_zero, List.set_cons_succ]
          refine wpAnyH_ready (rs := [31]) (by as_aux_lemma => kernel_rfl) (by simp) ?_
          refine AllReadyH.cons rfl (fun K hK => ?_) AllReadyH.nil
          go_simp
          refine (HCe.out _ _ J13 hi13).mono ?_
          rintro e w14 ⟨rfl, hb⟩
          have J14 : Below Y.heap.size Y w14 := J13.trans (hb.mono J13.size)
          clear hb
          try go_wp2_with fail
          refine hK.out _ _ (HSX.out _ J14) (fun hHeld => ?_)
          clear hK K
          try simp only [Act.put, List.setIfInBounds_toArray, List.set_cons_zero, List.set_cons_succ]
          refine wpAnyH_take (i := 32) (v := ?_) rfl (by as_aux_lemma => kernel_rfl) (by as_aux_lemma => kernel_rfl) (by as_aux_lemma => kernel_rfl) (fun _ _ _ h => h) (Or.inl ⟨(by simp [Region.wanted, yielded]), ?_⟩) (hHeld) ?_
          rotate_left
          · (intro w hSw; (try dsimp only at hSw); ((go_simp) <;> (with_reducible rfl)))
          try simp only [Act.put, List.setIfInBounds_toArray]
          refine wpAnyH_ready (rs := [33]) (by as_aux_lemma => kernel_rfl) (by simp) ?_
          refine AllReadyH.cons rfl (fun K hK => ?_) AllReadyH.nil
          go_simp
          refine hK.out _ _ (HSX.out _ J14) (fun hHeld => ?_)
          clear hK K
          try simp only [Act.put, List.setIfInBounds_toArray, List.set_cons_zero, List.set_cons_succ]
          refine wpAnyH_done (by as_aux_lemma => kernel_rfl) ?_ _
          go_wp2
          go_meet
          exact ⟨rfl, J14⟩
        case rest =>
          obtain ⟨rfl, J15⟩ := hcut
          clear HSX HCa HCb HCc HCe
          go_upto_region 20 with fail
          obtain ⟨p0, p1, p2⟩ := cells3_of (HMX.out _ J15).bx
          have hq1 := (J15.block _ (lt_of_heap Hq1.out)).trans Hq1.out
          obtain ⟨r0, r1, r2⟩ := cells3_of hq1
          go_wp2_with fail
          refine (CloneC_any A.items _ _ _ (HIA.out _ J15) J15.size (by have := HsA.out; omega)).mono ?_
          rintro e16 w16 ⟨v16, rfl, ho16, hb⟩
          have J16 := J15.trans (hb.mono J15.size)
          have ho16 := OwnC.low ho16 J15.size
          clear J15 hb p0 p1 p2 hq1 r0 r1 r2
          obtain ⟨g16, k16, rfl, -⟩ := ho16.its
          obtain ⟨p0, p1, p2⟩ := cells3_of (HMX.out _ J16).bx
          go_upto_region 21 with fail
          go_upto_if 119 with fail
          go_cut [15] (fun pa X => ∃ (AL : List Cm.It) (g : Option Addr) (k : Nat), pa = .slice g AL.length k ∧ OwnC X Y.heap.size (.slice g AL.length k) AL ∧ Below Y.heap.size Y X ∧ AL = A.items ++ (if lf = true then [] else [⟨key, .empty, 0, 0⟩]))
          case first =>
            cases lf with
            | true =>
              go_wp2_with fail
              go_meet
              exact ⟨A.items, g16, k16, rfl, ho16, J16, by simp⟩
            | false =>
              have Hl9 : Hid (A.items.length + [(Cm.It.mk key ⟨#[]⟩ 0 0)].length ≤ 1099511627) := by show _ ≤ _; have := HsA.out; simp only [List.length_cons, List.length_nil]; omega
              have hoa := OwnC.alloc ho16 (.cells #[.string key, .string ⟨#[]⟩, .int .i64 0, .int .i64 0] 24)
              have Ja := J16.alloc J16.size (.cells #[.string key, .string ⟨#[]⟩, .int .i64 0, .int .i64 0] 24)
              have hLt : Its (w16.alloc (.cells #[.string key, .string ⟨#[]⟩, .int .i64 0, .int .i64 0] 24)) (w16.heap.size + 1) (.slice (some ⟨w16.heap.size, 0, none⟩) 1 1) [(Cm.It.mk key ⟨#[]⟩ 0 0)] := its_lit w16 (Cm.It.mk key ⟨#[]⟩ 0 0)
              go_wp2_with (at_builtin; go_must (refine wpList_append_its rfl _ _ rfl Y.heap.size (w16.heap.size + 1) _ _ A.items [(Cm.It.mk key ⟨#[]⟩ 0 0)] rfl hoa rfl hLt Hl9 Ja.size ?_))
              intro v17 w17 h1 h2
              have J17 := Ja.grown h2 Ja.size fun g e => (World.ownsRow.lt hoa g e).1
              obtain ⟨g17, k17, rfl, -⟩ := h1.its
              obtain ⟨AL, hAL⟩ : ∃ AL, A.items ++ [(Cm.It.mk key ⟨#[]⟩ 0 0)] = AL := ⟨_, rfl⟩
              rw [hAL] at h1 ⊢
              have HAL : Hid _ := hAL
              have H1 : Hid _ := h1
              have H17 : Hid _ := J17
              clear hAL h1 h2 hoa Ja hLt ho16 J16 J17 p0 p1 p2
              go_wp2_with fail
              go_meet
              exact ⟨AL, g17, k17, rfl, H1.out, H17.out, by rw [if_neg (by simp)]; exact HAL.out.symm⟩
          case rest =>
            obtain ⟨AL, g18, k18, rfl, hoL, J18, hAL⟩ := hcut
            have HAL : Hid _ := hAL
            clear hAL ho16 J16 p0 p1 p2
            have hq2 := (J18.block _ (lt_of_heap Hq2.out)).trans Hq2.out
            obtain ⟨r0, r1, r2⟩ := cells3_of hq2
            have hIB := HIB.out _ J18
            have HALl : Hid (AL.length ≤ 400) := by
              show _ ≤ _
              have g1 := HsA.out
              rw [HAL.out, List.length_append]
              split <;> simp <;> omega
            have Hl2 : Hid (AL.length + B.items.length ≤ 1099511627) := by show _ ≤ _; have := HALl.out; have := HsA.out; omega
            go_wp2_with (at_builtin; go_must (refine wpList_append_its rfl _ _ rfl Y.heap.size Y.heap.size _ _ AL B.items rfl hoL rfl hIB Hl2 J18.size ?_))
            intro v19 w19 h1 h2
            have J19 := J18.grown h2 J18.size fun g e => (World.ownsRow.lt hoL g e).1
            have h1 : OwnC w19 Y.heap.size v19 LI := by
              have e : AL ++ B.items = LI := by rw [HAL.out]; exact HJi.out
              rw [e] at h1; exact h1
            obtain ⟨g19, k19, rfl, -⟩ := h1.its
            clear hIB hq2 r0 r1 r2 hoL J18 h2
            go_upto_region 24 with fail
            go_cut [146] (fun pc X => pc = .bool false ∧ Below Y.heap.size Y X)
            case first =>
              obtain ⟨p0, p1, p2⟩ := cells3_of (HMX.out _ J19).bx
              go_wp2_with fail
              refine (EqualC_any LI LI _ _ _ _ w19 h1.its (HMX.out _ J19).oi.its (by have := HLl.out; have := HLn.out; omega)).mono ?_
              rintro e20 w20 ⟨rfl, qq, rfl⟩
              rw [decide_eq_true rfl]
              have J20 : Below Y.heap.size Y (w19.drewN qq) := ⟨J19.os, J19.tape, J19.output, J19.size, J19.block⟩
              clear h1 J19 p0 p1 p2
              obtain ⟨p0, p1, p2⟩ := cells3_of (HMX.out _ J20).bx
              have hq2 := (J20.block _ (lt_of_heap Hq2.out)).trans Hq2.out
              obtain ⟨r0, r1, r2⟩ := cells3_of hq2
              have hIB := HIB.out _ J20
              cases lf with
              | false =>
                clear hIB hq2
                go_wp2_with fail
                go_meet
                exact ⟨rfl, J20⟩
              | true =>
                obtain ⟨hB0, hBk⟩ := HB0.out rfl
                obtain ⟨ad20, c20, hv20, -, -, hcs⟩ := hIB
                simp only [Value.slice.injEq, true_and] at hv20
                obtain ⟨rfl, rfl⟩ := hv20
                obtain ⟨g20, o20, rfl, -, hce⟩ := hcs (by intro h; rw [h] at hB0; simp at hB0)
                have hkey := (hce 0 hB0).1
                rw [hBk, Nat.zero_mul, Nat.add_zero] at hkey
                have hB0' : (0 : Int) < (B.items.length : Int) := by omega
                have hbne : (key.toList != key.toList) = false := by simp
                clear hce hcs hq2 hBk hB0
                go_wp2_with fail
                go_meet
                exact ⟨rfl, J20⟩
            case rest =>
              obtain ⟨rfl, J21⟩ := hcut
              clear h1 J19
              have hq1 := (J21.block _ (lt_of_heap Hq1.out)).trans Hq1.out
              have hq2 := (J21.block _ (lt_of_heap Hq2.out)).trans Hq2.out
              obtain ⟨s0, s1, s2⟩ := cells3_of hq1
              obtain ⟨r0, r1, r2⟩ := cells3_of hq2
              go_wp2_with fail
              refine (Join_any A B key _ _ Y.heap.size _ (HNA.out _ J21) (HNB.out _ J21) J21.size (by have := HsA.out; omega) (by have := HsA.out; omega) (by have := HsA.out; omega) (by have := HsA.out; omega)).mono ?_
              rintro e22 w22 ⟨hJS, hb⟩
              obtain ⟨NN, t1, u1, t2, u2, ec, rfl, ho, hk, hje⟩ := join_vals hJS
              have J22 := J21.trans (hb.mono J21.size)
              clear hJS hb hq1 hq2 s0 s1 s2 r0 r1 r2 J21
              rw [HJo.out] at hje
              have J23 := J22.alloc J22.size (.cells #[.bool NN.leaf, .slice t1 NN.items.length u1, .slice t2 NN.kids.length u2] 28)
              have hfin := (HZ.out _ (HMX.out _ J23).be).2.2.1
              have hwi := HRM.out
              by_cases hw3 : (Cm.wrong MM : Int) = 3
              · have hn0 : ¬ Cm.wrong MM = 0 := by omega
                rw [if_neg hn0] at hje
                simp only [Prod.mk.injEq] at hje
                obtain ⟨rfl, rfl⟩ := hje
                have hwb : ((Cm.wrong MM : Int) == 3) = true := by simpa using hw3
                clear hn0 hwi ho hk
                go_wp2
                go_ret
                exact ⟨rfl, hfin⟩
              · have hw0 : Cm.wrong MM = 0 := by
                  unfold Cm.wrong at hw3 ⊢
                  rw [if_pos hwi] at hw3 ⊢
                  split
                  · rename_i h; rw [if_pos h] at hw3; exact absurd rfl hw3
                  · rfl
                rw [if_pos hw0] at hje
                simp only [Prod.mk.injEq] at hje
                obtain ⟨rfl, rfl⟩ := hje
                have hw0i : (Cm.wrong MM : Int) = 0 := by rw [hw0]; rfl
                have hbx := heap_alloc_new w22 (.cells #[.bool MM.leaf, .slice t1 MM.items.length u1, .slice t2 MM.kids.length u2] 28)
                have hba := (Below.refl w22.heap.size w22).alloc (Nat.le_refl _) (.cells #[.bool MM.leaf, .slice t1 MM.items.length u1, .slice t2 MM.kids.length u2] 28)
                have hnd : NdS (w22.alloc (.cells #[.bool MM.leaf, .slice t1 MM.items.length u1, .slice t2 MM.kids.length u2] 28)) (w22.alloc (.cells #[.bool MM.leaf, .slice t1 MM.items.length u1, .slice t2 MM.kids.length u2] 28)).heap.size (.agg #[.bool MM.leaf, .slice t1 MM.items.length u1, .slice t2 MM.kids.length u2]) MM := (NdS.below ⟨_, _, rfl, ho.its, hk.ints⟩ hba (Nat.le_refl _)).mono hba.size
                clear hw3 hwi ho hk hba J22
                go_upto_region 29 with fail
                generalize w22.alloc (.cells #[.bool MM.leaf, .slice t1 MM.items.length u1, .slice t2 MM.kids.length u2] 28) = Z at *
                generalize w22.heap.size = qz at *
                obtain ⟨z0, z1, z2⟩ := cells3_of hbx
                obtain ⟨p0, p1, p2⟩ := cells3_of (HMX.out _ J23).bx
                go_wp2_with fail
                refine (same_any MM MM _ _ Z.heap.size Z hnd (HNM.out _ (HMX.out _ J23)) (Nat.le_refl _) (by have := HLn.out; have := HLl.out; rw [HMi.out]; omega) (by have := HLKl.out; rw [HMk.out]; omega)).mono ?_
                rintro e24 w24 ⟨rfl, hb⟩
                rw [decide_eq_true rfl]
                have hfin2 := (HZ.out _ (HMX.out _ (J23.trans (hb.mono J23.size))).be).2.2.1
                clear hb hnd hbx z0 z1 z2 p0 p1 p2 hfin
                go_wp2
                go_ret
                exact ⟨rfl, hfin2⟩

end Go.Proofs.Ytplfcpbjlhobeaa
