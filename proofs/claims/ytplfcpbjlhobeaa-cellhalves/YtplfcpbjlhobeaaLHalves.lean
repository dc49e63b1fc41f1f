/-
  THE WALK OF CellHalves.
-/
import Derived.Test.YtplfcpbjlhobeaaDWorks
import Derived.Test.YtplfcpbjlhobeaaDHalf
import Derived.Test.YtplfcpbjlhobeaaDJoinL
import Derived.Test.YtplfcpbjlhobeaaRSame
import Derived.Test.YtplfcpbjlhobeaaRSmall
import Derived.Test.YtplfcpbjlhobeaaRCopied
import Derived.Test.YtplfcpbjlhobeaaRHalf
import Derived.Test.YtplfcpbjlhobeaaRJoin
import Derived.Test.YtplfcpbjlhobeaaCClear
namespace Go.Proofs.Ytplfcpbjlhobeaa
open Go.RowKit

theorem Cm.none_not : ¬ Cm.Right Cm.none := by decide

/-- the halves, as values and in their variables -/
structure HvS (U X : World) (n A B : Cm.Nd) (qa qb : Nat) (a1 : Option Addr) (c1 : Nat) (a2 : Option Addr) (c2 : Nat) (k : ByteArray) (b1 : Option Addr) (d1 : Nat) (b2 : Option Addr) (d2 : Nat) (ec : Nat) : Prop where
  be : Below U.heap.size U X
  ba : X.heap[qa]? = some (.cells #[.bool A.leaf, .slice a1 A.items.length c1, .slice a2 A.kids.length c2] 28 (0, 0))
  bb : X.heap[qb]? = some (.cells #[.bool B.leaf, .slice b1 B.items.length d1, .slice b2 B.kids.length d2] 28 (0, 0))
  r1 : Room X U.heap.size 24 4 (.slice a1 A.items.length c1)
  r2 : Room X U.heap.size 3 1 (.slice a2 A.kids.length c2)
  r3 : Room X U.heap.size 24 4 (.slice b1 B.items.length d1)
  n1 : NdS X X.heap.size (.agg #[.bool A.leaf, .slice a1 A.items.length c1, .slice a2 A.kids.length c2]) A
  n2 : NdS X X.heap.size (.agg #[.bool B.leaf, .slice b1 B.items.length d1, .slice b2 B.kids.length d2]) B
  rel : (¬ Cm.Right n ∧ ec = 2 ∧ k = ⟨#[]⟩ ∧ A = Cm.none ∧ B = Cm.none) ∨ (Cm.Right n ∧ Cm.half n = .none ∧ ec = 4 ∧ k = ⟨#[]⟩ ∧ A = Cm.none ∧ B = Cm.none) ∨ (Cm.Right n ∧ Cm.half n = some (A, k, B) ∧ ec = 0)
  sm : A.items.length ≤ 1000000 ∧ A.kids.length ≤ 1000000 ∧ B.items.length ≤ 1000000 ∧ B.kids.length ≤ 1000000
theorem HvS.below {U X X' : World} {n A B : Cm.Nd} {qa qb : Nat} {a1 : Option Addr} {c1 : Nat} {a2 : Option Addr} {c2 : Nat} {k : ByteArray} {b1 : Option Addr} {d1 : Nat} {b2 : Option Addr} {d2 : Nat} {ec : Nat} (h : HvS U X n A B qa qb a1 c1 a2 c2 k b1 d1 b2 d2 ec) (hb : Below X.heap.size X X') : HvS U X' n A B qa qb a1 c1 a2 c2 k b1 d1 b2 d2 ec :=
  ⟨h.be.trans (hb.mono h.be.size), (hb.block _ (lt_of_heap h.ba)).trans h.ba, (hb.block _ (lt_of_heap h.bb)).trans h.bb, h.r1.below hb, h.r2.below hb, h.r3.below hb, (h.n1.below hb (Nat.le_refl _)).mono hb.size, (h.n2.below hb (Nat.le_refl _)).mono hb.size, h.rel, h.sm⟩
theorem half_small {n A B : Cm.Nd} {k : ByteArray} (h : Cm.half n = some (A, k, B)) : A.items.length ≤ n.items.length ∧ A.kids.length ≤ n.kids.length ∧ B.items.length ≤ n.items.length ∧ B.kids.length ≤ n.kids.length := by
  unfold Cm.half at h
  split at h
  · cases h
  · simp only [Option.some.injEq, Prod.mk.injEq] at h
    obtain ⟨rfl, -, rfl⟩ := h
    unfold Cm.cutL Cm.cutR
    split <;> simp <;> omega

/-- what Half answers, as values -/
theorem half_gen {w w' : World} {n : Cm.Nd} {e : Ending} (h : HalfS w w' n e) : ∃ (A B : Cm.Nd) (a1 : Option Addr) (c1 : Nat) (a2 : Option Addr) (c2 : Nat) (k : ByteArray) (b1 : Option Addr) (d1 : Nat) (b2 : Option Addr) (d2 : Nat) (ec : Nat),
    e = .returned (.tuple #[.agg #[.bool A.leaf, .slice a1 A.items.length c1, .slice a2 A.kids.length c2], .string k, .agg #[.bool B.leaf, .slice b1 B.items.length d1, .slice b2 B.kids.length d2], .int .i64 (ec : Int)]) ∧
    Room w' w.heap.size 24 4 (.slice a1 A.items.length c1) ∧ Room w' w.heap.size 3 1 (.slice a2 A.kids.length c2) ∧ Room w' w.heap.size 24 4 (.slice b1 B.items.length d1) ∧
    NdS w' w'.heap.size (.agg #[.bool A.leaf, .slice a1 A.items.length c1, .slice a2 A.kids.length c2]) A ∧ NdS w' w'.heap.size (.agg #[.bool B.leaf, .slice b1 B.items.length d1, .slice b2 B.kids.length d2]) B ∧
    ((¬ Cm.Right n ∧ ec = 2 ∧ k = ⟨#[]⟩ ∧ A = Cm.none ∧ B = Cm.none) ∨ (Cm.Right n ∧ Cm.half n = .none ∧ ec = 4 ∧ k = ⟨#[]⟩ ∧ A = Cm.none ∧ B = Cm.none) ∨ (Cm.Right n ∧ Cm.half n = some (A, k, B) ∧ ec = 0)) := by
  rcases h with ⟨hr, rfl⟩ | ⟨hr, hh, rfl⟩ | ⟨hr, A, k, B, vai, vak, vbi, vbk, hh, rfl, h1, h2, h3, h4⟩
  · exact ⟨Cm.none, Cm.none, none, 0, none, 0, _, none, 0, none, 0, 2, rfl, Room.nil _ _ _ _, Room.nil _ _ _ _, Room.nil _ _ _ _, ⟨_, _, rfl, Its.nil _ _, Ints.nil _ _⟩, ⟨_, _, rfl, Its.nil _ _, Ints.nil _ _⟩, .inl ⟨hr, rfl, rfl, rfl, rfl⟩⟩
  · exact ⟨Cm.none, Cm.none, none, 0, none, 0, _, none, 0, none, 0, 4, rfl, Room.nil _ _ _ _, Room.nil _ _ _ _, Room.nil _ _ _ _, ⟨_, _, rfl, Its.nil _ _, Ints.nil _ _⟩, ⟨_, _, rfl, Its.nil _ _, Ints.nil _ _⟩, .inr (.inl ⟨hr, hh, rfl, rfl, rfl, rfl⟩)⟩
  · have r1 := Room.of h1
    have r2 := Room.of h2
    have r3 := Room.of h3
    have i1 := h1.its
    have i2 := h2.ints
    have i3 := h3.its
    have i4 := h4.ints
    obtain ⟨a1, c1, rfl, -⟩ := id i1
    obtain ⟨a2, c2, rfl, -⟩ := id i2
    obtain ⟨b1, d1, rfl, -⟩ := id i3
    obtain ⟨b2, d2, rfl, -⟩ := id i4
    exact ⟨A, B, a1, c1, a2, c2, k, b1, d1, b2, d2, 0, rfl, r1, r2, r3, ⟨_, _, rfl, i1, i2⟩, ⟨_, _, rfl, i3, i4⟩, .inr (.inr ⟨hr, hh, rfl⟩)⟩

/-- what Join answers, as values -/
theorem join_gen {w w' : World} {a b : Cm.Nd} {key : ByteArray} {e : Ending} (h : JoinS w w' a key b e) : ∃ (N : Cm.Nd) (a1 : Option Addr) (c1 : Nat) (a2 : Option Addr) (c2 : Nat) (ec : Nat),
    e = .returned (.tuple #[.agg #[.bool N.leaf, .slice a1 N.items.length c1, .slice a2 N.kids.length c2], .int .i64 (ec : Int)]) ∧ OwnC w' w.heap.size (.slice a1 N.items.length c1) N.items ∧ OwnN w' w.heap.size (.slice a2 N.kids.length c2) N.kids ∧ Cm.join a key b = (N, ec) := by
  rcases h with ⟨hm, rfl⟩ | ⟨hm, hf, rfl⟩ | ⟨hm, hf, vi, vk, rfl, h1, h2⟩
  · exact ⟨Cm.none, none, 0, none, 0, 2, rfl, OwnC.nil _ _, OwnN.nil _ _, by unfold Cm.join; rw [if_neg hm]⟩
  · refine ⟨Cm.none, none, 0, none, 0, 3, rfl, OwnC.nil _ _, OwnN.nil _ _, ?_⟩
    have hw : Cm.wrong (Cm.joined a key b) = 3 := by unfold Cm.wrong; rw [if_pos (Cm.right_joined hm), if_pos hf]
    unfold Cm.join; rw [if_pos hm, if_neg (by rw [hw]; simp), hw]
  · have hw : Cm.wrong (Cm.joined a key b) = 0 := by unfold Cm.wrong; rw [if_pos (Cm.right_joined hm), if_neg hf]
    obtain ⟨a1, c1, rfl, -⟩ := h1.its
    obtain ⟨a2, c2, rfl, -⟩ := h2.ints
    exact ⟨Cm.joined a key b, a1, c1, a2, c2, 0, rfl, h1, h2, by unfold Cm.join; rw [if_pos hm, if_pos hw]⟩
theorem join_small (a b : Cm.Nd) (key : ByteArray) : (Cm.join a key b).1.items.length ≤ a.items.length + b.items.length + 1 ∧ (Cm.join a key b).1.kids.length ≤ a.kids.length + b.kids.length := by
  unfold Cm.join
  split
  · split
    · unfold Cm.joined
      simp only [List.length_append]
      refine ⟨?_, Nat.le_refl _⟩
      split <;> simp <;> omega
    · simp [Cm.none]
  · simp [Cm.none]
/-- the joined node, in its variable -/
structure JvS (U X : World) (N : Cm.Nd) (q : Nat) (a1 : Option Addr) (c1 : Nat) (a2 : Option Addr) (c2 : Nat) : Prop where
  be : Below U.heap.size U X
  bx : X.heap[q]? = some (.cells #[.bool N.leaf, .slice a1 N.items.length c1, .slice a2 N.kids.length c2] 28 (0, 0))
  oi : OwnC X U.heap.size (.slice a1 N.items.length c1) N.items
  ok : OwnN X U.heap.size (.slice a2 N.kids.length c2) N.kids
theorem JvS.below {U X X' : World} {N : Cm.Nd} {q : Nat} {a1 : Option Addr} {c1 : Nat} {a2 : Option Addr} {c2 : Nat} (h : JvS U X N q a1 c1 a2 c2) (hb : Below X.heap.size X X') : JvS U X' N q a1 c1 a2 c2 :=
  ⟨h.be.trans (hb.mono h.be.size), (hb.block _ (lt_of_heap h.bx)).trans h.bx, h.oi.below hb (Nat.le_refl _), h.ok.below hb (Nat.le_refl _)⟩

set_option maxRecDepth 100000 in
set_option maxHeartbeats 8000000 in
theorem halves_walk (v : Value) (n : Cm.Nd) (u : Value) (m : Cm.Nd) (key : ByteArray) (w : World) (hv : NdS w w.heap.size v n) (hu : NdS w w.heap.size u m) :
    Calls Try.prog 4 #[v, u, .string key] w fun e w' => e = .returned (.bool true) ∧ Below w.heap.size w w' := by
  have HN : Hid (∀ W : World, Below w.heap.size w W → NdS W w.heap.size v n) := fun W h => hv.below h (Nat.le_refl _)
  have HM : Hid (∀ W : World, Below w.heap.size w W → NdS W w.heap.size u m) := fun W h => hu.below h (Nat.le_refl _)
  obtain ⟨vi, vk, rfl, ⟨ad, c, rfl, -⟩, ⟨kd, d, rfl, -⟩⟩ := hv
  obtain ⟨ui, uk, rfl, ⟨bd, e, rfl, -⟩, ⟨ld, f, rfl, -⟩⟩ := hu
  go_enter Try.func4, Try.ntmps4
  go_wp2_with fail
  have hN0 : (((w.alloc (.cells #[.bool n.leaf, .slice ad n.items.length c, .slice kd n.kids.length d] 28)).alloc (.cells #[.bool m.leaf, .slice bd m.items.length e, .slice ld m.kids.length f] 28))).heap[w.heap.size]? = some (.cells #[.bool n.leaf, .slice ad n.items.length c, .slice kd n.kids.length d] 28 (0, 0)) := k_al (heap_alloc_new w _) _
  have hM0 : (((w.alloc (.cells #[.bool n.leaf, .slice ad n.items.length c, .slice kd n.kids.length d] 28)).alloc (.cells #[.bool m.leaf, .slice bd m.items.length e, .slice ld m.kids.length f] 28))).heap[w.heap.size + 1]? = some (.cells #[.bool m.leaf, .slice bd m.items.length e, .slice ld m.kids.length f] 28 (0, 0)) := by have := heap_alloc_new (w.alloc (.cells #[.bool n.leaf, .slice ad n.items.length c, .slice kd n.kids.length d] 28)) (.cells #[.bool m.leaf, .slice bd m.items.length e, .slice ld m.kids.length f] 28); simpa using this
  have hB0 : Below w.heap.size w (((w.alloc (.cells #[.bool n.leaf, .slice ad n.items.length c, .slice kd n.kids.length d] 28)).alloc (.cells #[.bool m.leaf, .slice bd m.items.length e, .slice ld m.kids.length f] 28))) := ((Below.refl w.heap.size w).alloc (Nat.le_refl _) _).alloc (by simp) _
  generalize ((w.alloc (.cells #[.bool n.leaf, .slice ad n.items.length c, .slice kd n.kids.length d] 28)).alloc (.cells #[.bool m.leaf, .slice bd m.items.length e, .slice ld m.kids.length f] 28)) = W0 at *
  have HZ : Hid (∀ X : World, Below W0.heap.size W0 X → X.heap[w.heap.size]? = some (.cells #[.bool n.leaf, .slice ad n.items.length c, .slice kd n.kids.length d] 28 (0, 0)) ∧ X.heap[w.heap.size + 1]? = some (.cells #[.bool m.leaf, .slice bd m.items.length e, .slice ld m.kids.length f] 28 (0, 0)) ∧ Below w.heap.size w X ∧ w.heap.size + 2 ≤ X.heap.size) := fun X h => by
    have h1 := lt_of_heap hM0
    have h2 := h.size
    exact ⟨(h.block _ (by omega)).trans hN0, (h.block _ (by omega)).trans hM0, hB0.trans (h.mono (by omega)), by omega⟩
  clear hN0 hM0 hB0
  have J0 := Below.refl W0.heap.size W0
  refine (works_any _).mono ?_
  rintro e1 w1 ⟨rfl, hb⟩
  have J1 := J0.trans (hb.mono J0.size)
  clear J0 hb
  obtain ⟨qn, qm, hbe, hsz⟩ := HZ.out _ J1
  obtain ⟨n0, n1, n2⟩ := cells3_of qn
  obtain ⟨m0, m1, m2⟩ := cells3_of qm
  go_wp2_with fail
  refine (long_any n _ _ _ (HN.out _ hbe)).mono ?_
  rintro e2 w2 ⟨rfl, hb⟩
  have J2 := J1.trans (hb.mono J1.size)
  clear J1 hb qn qm hbe hsz n0 n1 n2 m0 m1 m2
  obtain ⟨qn, qm, hbe, hsz⟩ := HZ.out _ J2
  obtain ⟨n0, n1, n2⟩ := cells3_of qn
  obtain ⟨m0, m1, m2⟩ := cells3_of qm
  by_cases hln : 300 < n.items.length ∨ 300 < n.kids.length
  · rw [decide_eq_true hln]
    go_wp2
    go_ret
    exact ⟨rfl, hbe⟩
  rw [decide_eq_false hln]
  have HLn : Hid (n.items.length ≤ 300 ∧ n.kids.length ≤ 300) := ⟨by omega, by omega⟩
  clear hln
  go_wp2_with fail
  refine (long_any m _ _ _ (HM.out _ hbe)).mono ?_
  rintro e3 w3 ⟨rfl, hb⟩
  have J3 := J2.trans (hb.mono J2.size)
  clear J2 hb qn qm hbe hsz n0 n1 n2 m0 m1 m2
  obtain ⟨qn, qm, hbe, hsz⟩ := HZ.out _ J3
  obtain ⟨n0, n1, n2⟩ := cells3_of qn
  obtain ⟨m0, m1, m2⟩ := cells3_of qm
  by_cases hlm : 300 < m.items.length ∨ 300 < m.kids.length
  · rw [decide_eq_true hlm]
    go_wp2
    go_ret
    exact ⟨rfl, hbe⟩
  rw [decide_eq_false hlm]
  have HLm : Hid (m.items.length ≤ 300 ∧ m.kids.length ≤ 300) := ⟨by omega, by omega⟩
  clear hlm
  go_wp2_with fail
  refine (copied_any n _ _ _ (HN.out _ hbe) (by omega) (by have := HLn.out; omega) (by have := HLn.out; omega)).mono ?_
  rintro e4 w4 ⟨vi4, vk4, rfl, ho4, hk4, hb⟩
  have J4 := J3.trans (hb.mono J3.size)
  clear J3 qn qm hbe hsz n0 n1 n2 m0 m1 m2
  obtain ⟨ai, ci, rfl, -⟩ := ho4.its
  obtain ⟨aj, cj, rfl, -⟩ := hk4.ints
  have HIn : Hid (NdS w4 w4.heap.size (.agg #[.bool n.leaf, .slice ai n.items.length ci, .slice aj n.kids.length cj]) n) := ⟨_, _, rfl, ho4.its, hk4.ints⟩
  clear ho4 hk4 hb
  obtain ⟨qn, qm, hbe, hsz⟩ := HZ.out _ J4
  obtain ⟨n0, n1, n2⟩ := cells3_of qn
  obtain ⟨m0, m1, m2⟩ := cells3_of qm
  go_upto_region 6 with fail
  have HU : Hid (∀ X : World, Below (w4.alloc (.cells #[.bool n.leaf, .slice ai n.items.length ci, .slice aj n.kids.length cj] 28)).heap.size (w4.alloc (.cells #[.bool n.leaf, .slice ai n.items.length ci, .slice aj n.kids.length cj] 28)) X → X.heap[w.heap.size]? = some (.cells #[.bool n.leaf, .slice ad n.items.length c, .slice kd n.kids.length d] 28 (0, 0)) ∧ X.heap[w.heap.size + 1]? = some (.cells #[.bool m.leaf, .slice bd m.items.length e, .slice ld m.kids.length f] 28 (0, 0)) ∧ X.heap[w4.heap.size]? = some (.cells #[.bool n.leaf, .slice ai n.items.length ci, .slice aj n.kids.length cj] 28 (0, 0)) ∧ Below w.heap.size w X ∧ NdS X (w4.alloc (.cells #[.bool n.leaf, .slice ai n.items.length ci, .slice aj n.kids.length cj] 28)).heap.size (.agg #[.bool n.leaf, .slice ai n.items.length ci, .slice aj n.kids.length cj]) n) := fun X h => by
    have h2 := h.size
    have hq := heap_alloc_new w4 (.cells #[.bool n.leaf, .slice ai n.items.length ci, .slice aj n.kids.length cj] 28)
    have ha := (Below.refl w4.heap.size w4).alloc (Nat.le_refl _) (.cells #[.bool n.leaf, .slice ai n.items.length ci, .slice aj n.kids.length cj] 28)
    have hz := HZ.out X (J4.trans ((ha.trans (h.mono (by simp))).mono J4.size))
    exact ⟨hz.1, hz.2.1, (h.block _ (lt_of_heap hq)).trans hq, hz.2.2.1, ((HIn.out.alloc (Nat.le_refl _) _).below h (by simp)).mono (by simp)⟩
  have hs4 : w.heap.size + 2 ≤ w4.heap.size := hsz
  have hs5 : (w4.alloc (.cells #[.bool n.leaf, .slice ai n.items.length ci, .slice aj n.kids.length cj] 28)).heap.size = w4.heap.size + 1 := by simp
  clear HIn J4 HZ qn qm hbe hsz n0 n1 n2 m0 m1 m2
  generalize w4.alloc (.cells #[.bool n.leaf, .slice ai n.items.length ci, .slice aj n.kids.length cj] 28) = U at *
  generalize w4.heap.size = qi at *
  have J5 := Below.refl U.heap.size U
  go_cut [8, 9, 10, 11] (fun pa pk pb pe X => ∃ A B qa qb a1 c1 a2 c2 k b1 d1 b2 d2 ec, pa = .pointer (some ⟨qa, 0, none⟩) ∧ pk = .string k ∧ pb = .pointer (some ⟨qb, 0, none⟩) ∧ pe = .int .i64 ((ec : Nat) : Int) ∧ HvS U X n A B qa qb a1 c1 a2 c2 k b1 d1 b2 d2 ec)
  case first =>
    obtain ⟨qn, qm, qin, hbe, hnd⟩ := HU.out _ J5
    obtain ⟨i0, i1, i2⟩ := cells3_of qin
    go_wp2_with fail
    refine (Half_any n _ U.heap.size U hnd (Nat.le_refl _) (by have := HLn.out; omega) (by have := HLn.out; omega)).mono ?_
    rintro e5 w5 ⟨hHS, hb5⟩
    obtain ⟨A, B, a1, c1, a2, c2, k, b1, d1, b2, d2, ec, rfl, r1, r2, r3, j1, j2, hrel⟩ := half_gen hHS
    have hsm : A.items.length ≤ 1000000 ∧ A.kids.length ≤ 1000000 ∧ B.items.length ≤ 1000000 ∧ B.kids.length ≤ 1000000 := by
      have := HLn.out
      rcases hrel with ⟨-, -, -, rfl, rfl⟩ | ⟨-, -, -, -, rfl, rfl⟩ | ⟨-, hh, -⟩
      · simp [Cm.none]
      · simp [Cm.none]
      · have := half_small hh; omega
    have hq1 : ((w5.alloc (.cells #[.bool A.leaf, .slice a1 A.items.length c1, .slice a2 A.kids.length c2] 28)).alloc (.cells #[.bool B.leaf, .slice b1 B.items.length d1, .slice b2 B.kids.length d2] 28)).heap[w5.heap.size]? = some (.cells #[.bool A.leaf, .slice a1 A.items.length c1, .slice a2 A.kids.length c2] 28 (0, 0)) := k_al (heap_alloc_new w5 _) _
    have hq2 : ((w5.alloc (.cells #[.bool A.leaf, .slice a1 A.items.length c1, .slice a2 A.kids.length c2] 28)).alloc (.cells #[.bool B.leaf, .slice b1 B.items.length d1, .slice b2 B.kids.length d2] 28)).heap[w5.heap.size + 1]? = some (.cells #[.bool B.leaf, .slice b1 B.items.length d1, .slice b2 B.kids.length d2] 28 (0, 0)) := by have := heap_alloc_new (w5.alloc (.cells #[.bool A.leaf, .slice a1 A.items.length c1, .slice a2 A.kids.length c2] 28)) (.cells #[.bool B.leaf, .slice b1 B.items.length d1, .slice b2 B.kids.length d2] 28); simpa using this
    have hb6 := ((Below.refl w5.heap.size w5).alloc (Nat.le_refl _) (.cells #[.bool A.leaf, .slice a1 A.items.length c1, .slice a2 A.kids.length c2] 28)).alloc (by simp) (.cells #[.bool B.leaf, .slice b1 B.items.length d1, .slice b2 B.kids.length d2] 28)
    have HV : Hid (HvS U ((w5.alloc (.cells #[.bool A.leaf, .slice a1 A.items.length c1, .slice a2 A.kids.length c2] 28)).alloc (.cells #[.bool B.leaf, .slice b1 B.items.length d1, .slice b2 B.kids.length d2] 28)) n A B w5.heap.size (w5.heap.size + 1) a1 c1 a2 c2 k b1 d1 b2 d2 ec) :=
      ⟨hb5.trans (hb6.mono hb5.size), hq1, hq2, r1.below hb6, r2.below hb6, r3.below hb6, (j1.below hb6 (Nat.le_refl _)).mono hb6.size, (j2.below hb6 (Nat.le_refl _)).mono hb6.size, hrel, hsm⟩
    clear hq1 hq2 hb6 r1 r2 r3 j1 j2 hrel hsm hHS hb5 hnd qin qn qm i0 i1 i2
    go_wp2_with fail
    go_meet
    exact ⟨A, B, _, _, a1, c1, a2, c2, k, b1, d1, b2, d2, ec, rfl, rfl, rfl, rfl, HV.out⟩
  case rest =>
    obtain ⟨A, B, qa, qb, a1, c1, a2, c2, k, b1, d1, b2, d2, ec, rfl, rfl, rfl, rfl, hV⟩ := hcut
    clear J5
    obtain ⟨qn, qm, qin, hbe, hnd⟩ := HU.out _ hV.be
    obtain ⟨n0, n1, n2⟩ := cells3_of qn
    go_wp2_with fail
    refine (Right_any n _ _ _ (HN.out _ hbe) hbe.size (by have := HLn.out; omega) (by have := HLn.out; omega)).mono ?_
    rintro e7 w7 ⟨rfl, hb⟩
    have hV7 := hV.below hb
    clear hV hb qn qm qin hbe hnd n0 n1 n2
    go_upto_if 38 with fail
    go_cut [11] (fun pe X => pe = .int .i64 ((ec : Nat) : Int) ∧ HvS U X n A B qa qb a1 c1 a2 c2 k b1 d1 b2 d2 ec)
    case first =>
      obtain ⟨qn, qm, qin, hbe, hnd⟩ := HU.out _ hV7.be
      obtain ⟨n0, n1, n2⟩ := cells3_of qn
      obtain ⟨p0, p1, p2⟩ := cells3_of hV7.ba
      obtain ⟨s0, s1, s2⟩ := cells3_of hV7.bb
      clear qn qm qin hnd
      by_cases hR : Cm.Right n
      · rw [decide_eq_true hR]
        go_wp2_with fail
        refine (RHalf_any n _ _ _ (HN.out _ hbe) hbe.size (by have := HLn.out; omega) hR).mono ?_
        rintro e8 w8 ⟨hres, hb⟩
        have hV8 := hV7.below hb
        clear hV7 n0 n1 n2 p0 p1 p2 s0 s1 s2
        rcases hres with ⟨hnone, rfl⟩ | ⟨A', k', B', va, vb, hsome, rfl, hA', hB'⟩
        · have hrel := hV8.rel
          rcases hrel with ⟨h, -⟩ | ⟨-, -, rfl, rfl, rfl, rfl⟩ | ⟨-, h, -⟩
          · exact absurd hR h
          · clear hb hnone
            go_upto_region 11 with fail
            have hq1 : ((w8.alloc (.cells #[.bool false, .slice none 0 0, .slice none 0 0] 28)).alloc (.cells #[.bool false, .slice none 0 0, .slice none 0 0] 28)).heap[w8.heap.size]? = some (.cells #[.bool false, .slice none 0 0, .slice none 0 0] 28 (0, 0)) := k_al (heap_alloc_new w8 _) _
            have hq2 : ((w8.alloc (.cells #[.bool false, .slice none 0 0, .slice none 0 0] 28)).alloc (.cells #[.bool false, .slice none 0 0, .slice none 0 0] 28)).heap[w8.heap.size + 1]? = some (.cells #[.bool false, .slice none 0 0, .slice none 0 0] 28 (0, 0)) := by have := heap_alloc_new (w8.alloc (.cells #[.bool false, .slice none 0 0, .slice none 0 0] 28)) (.cells #[.bool false, .slice none 0 0, .slice none 0 0] 28); simpa using this
            have hb9 : Below w8.heap.size w8 ((w8.alloc (.cells #[.bool false, .slice none 0 0, .slice none 0 0] 28)).alloc (.cells #[.bool false, .slice none 0 0, .slice none 0 0] 28)) := ((Below.refl w8.heap.size w8).alloc (Nat.le_refl _) (.cells #[.bool false, .slice none 0 0, .slice none 0 0] 28)).alloc (by simp) (.cells #[.bool false, .slice none 0 0, .slice none 0 0] 28)
            have hV9 := hV8.below hb9
            have hcC : NdS ((w8.alloc (.cells #[.bool false, .slice none 0 0, .slice none 0 0] 28)).alloc (.cells #[.bool false, .slice none 0 0, .slice none 0 0] 28)) ((w8.alloc (.cells #[.bool false, .slice none 0 0, .slice none 0 0] 28)).alloc (.cells #[.bool false, .slice none 0 0, .slice none 0 0] 28)).heap.size (.agg #[.bool false, .slice none 0 0, .slice none 0 0]) Cm.none := ⟨_, _, rfl, Its.nil _ _, Ints.nil _ _⟩
            have hcD : NdS ((w8.alloc (.cells #[.bool false, .slice none 0 0, .slice none 0 0] 28)).alloc (.cells #[.bool false, .slice none 0 0, .slice none 0 0] 28)) ((w8.alloc (.cells #[.bool false, .slice none 0 0, .slice none 0 0] 28)).alloc (.cells #[.bool false, .slice none 0 0, .slice none 0 0] 28)).heap.size (.agg #[.bool false, .slice none 0 0, .slice none 0 0]) Cm.none := ⟨_, _, rfl, Its.nil _ _, Ints.nil _ _⟩
            clear hV8 hb9
            generalize ((w8.alloc (.cells #[.bool false, .slice none 0 0, .slice none 0 0] 28)).alloc (.cells #[.bool false, .slice none 0 0, .slice none 0 0] 28)) = Y at *
            generalize w8.heap.size = qc at *
            obtain ⟨p0, p1, p2⟩ := cells3_of hV9.ba
            obtain ⟨s0, s1, s2⟩ := cells3_of hV9.bb
            obtain ⟨x0, x1, x2⟩ := cells3_of hq1
            go_wp2_with fail
            refine (Same_any Cm.none Cm.none _ _ Y.heap.size Y hV9.n1 hcC (Nat.le_refl _) hV9.sm.1 hV9.sm.2.1).mono ?_
            rintro e9 w9 ⟨rfl, hb⟩
            rw [decide_eq_true rfl]
            have hV10 := hV9.below hb
            have hq3 := (hb.block _ (lt_of_heap hq2)).trans hq2
            have hcD' := (hcD.below hb (Nat.le_refl _)).mono hb.size
            clear hV9 hq1 hq2 hcC hcD hb p0 p1 p2 s0 s1 s2 x0 x1 x2
            obtain ⟨s0, s1, s2⟩ := cells3_of hV10.bb
            obtain ⟨x0, x1, x2⟩ := cells3_of hq3
            go_wp2_with fail
            refine (Same_any Cm.none Cm.none _ _ w9.heap.size w9 hV10.n2 hcD' (Nat.le_refl _) hV10.sm.2.2.1 hV10.sm.2.2.2).mono ?_
            rintro e10 w10 ⟨rfl, hb⟩
            rw [decide_eq_true rfl]
            have hV11 := hV10.below hb
            clear hV10 hq3 hcD' hb s0 s1 s2 x0 x1 x2
            go_wp2_with fail
            go_meet
            exact ⟨rfl, hV11⟩
          · rw [hnone] at h; cases h
        · have hrel := hV8.rel
          rcases hrel with ⟨h, -⟩ | ⟨-, h, -⟩ | ⟨-, h, rfl⟩
          · exact absurd hR h
          · rw [hsome] at h; cases h
          · rw [hsome] at h
            simp only [Option.some.injEq, Prod.mk.injEq] at h
            obtain ⟨rfl, rfl, rfl⟩ := h
            have hA8 := hA'.below (hb.mono hbe.size) (Nat.le_refl _)
            have hB8 := hB'.below (hb.mono hbe.size) (Nat.le_refl _)
            obtain ⟨vx1, vx2, rfl, ⟨x1, z1, rfl, -⟩, ⟨x2, z2, rfl, -⟩⟩ := id hA'
            obtain ⟨vy1, vy2, rfl, ⟨y1, t1, rfl, -⟩, ⟨y2, t2, rfl, -⟩⟩ := id hB'
            clear hA' hB' hsome
            have hw8 : w.heap.size ≤ w8.heap.size := Nat.le_trans hbe.size hb.size
            go_upto_region 11 with fail
            have hq1 : ((w8.alloc (.cells #[.bool A'.leaf, .slice x1 A'.items.length z1, .slice x2 A'.kids.length z2] 28)).alloc (.cells #[.bool B'.leaf, .slice y1 B'.items.length t1, .slice y2 B'.kids.length t2] 28)).heap[w8.heap.size]? = some (.cells #[.bool A'.leaf, .slice x1 A'.items.length z1, .slice x2 A'.kids.length z2] 28 (0, 0)) := k_al (heap_alloc_new w8 _) _
            have hq2 : ((w8.alloc (.cells #[.bool A'.leaf, .slice x1 A'.items.length z1, .slice x2 A'.kids.length z2] 28)).alloc (.cells #[.bool B'.leaf, .slice y1 B'.items.length t1, .slice y2 B'.kids.length t2] 28)).heap[w8.heap.size + 1]? = some (.cells #[.bool B'.leaf, .slice y1 B'.items.length t1, .slice y2 B'.kids.length t2] 28 (0, 0)) := by have := heap_alloc_new (w8.alloc (.cells #[.bool A'.leaf, .slice x1 A'.items.length z1, .slice x2 A'.kids.length z2] 28)) (.cells #[.bool B'.leaf, .slice y1 B'.items.length t1, .slice y2 B'.kids.length t2] 28); simpa using this
            have hb9 : Below w8.heap.size w8 ((w8.alloc (.cells #[.bool A'.leaf, .slice x1 A'.items.length z1, .slice x2 A'.kids.length z2] 28)).alloc (.cells #[.bool B'.leaf, .slice y1 B'.items.length t1, .slice y2 B'.kids.length t2] 28)) := ((Below.refl w8.heap.size w8).alloc (Nat.le_refl _) (.cells #[.bool A'.leaf, .slice x1 A'.items.length z1, .slice x2 A'.kids.length z2] 28)).alloc (by simp) (.cells #[.bool B'.leaf, .slice y1 B'.items.length t1, .slice y2 B'.kids.length t2] 28)
            have hV9 := hV8.below hb9
            have hcC : NdS ((w8.alloc (.cells #[.bool A'.leaf, .slice x1 A'.items.length z1, .slice x2 A'.kids.length z2] 28)).alloc (.cells #[.bool B'.leaf, .slice y1 B'.items.length t1, .slice y2 B'.kids.length t2] 28)) ((w8.alloc (.cells #[.bool A'.leaf, .slice x1 A'.items.length z1, .slice x2 A'.kids.length z2] 28)).alloc (.cells #[.bool B'.leaf, .slice y1 B'.items.length t1, .slice y2 B'.kids.length t2] 28)).heap.size (.agg #[.bool A'.leaf, .slice x1 A'.items.length z1, .slice x2 A'.kids.length z2]) A' := (hA8.below (hb9.mono hw8) (Nat.le_refl _)).mono (Nat.le_trans hw8 hb9.size)
            have hcD : NdS ((w8.alloc (.cells #[.bool A'.leaf, .slice x1 A'.items.length z1, .slice x2 A'.kids.length z2] 28)).alloc (.cells #[.bool B'.leaf, .slice y1 B'.items.length t1, .slice y2 B'.kids.length t2] 28)) ((w8.alloc (.cells #[.bool A'.leaf, .slice x1 A'.items.length z1, .slice x2 A'.kids.length z2] 28)).alloc (.cells #[.bool B'.leaf, .slice y1 B'.items.length t1, .slice y2 B'.kids.length t2] 28)).heap.size (.agg #[.bool B'.leaf, .slice y1 B'.items.length t1, .slice y2 B'.kids.length t2]) B' := (hB8.below (hb9.mono hw8) (Nat.le_refl _)).mono (Nat.le_trans hw8 hb9.size)
            clear hV8 hb9
            generalize ((w8.alloc (.cells #[.bool A'.leaf, .slice x1 A'.items.length z1, .slice x2 A'.kids.length z2] 28)).alloc (.cells #[.bool B'.leaf, .slice y1 B'.items.length t1, .slice y2 B'.kids.length t2] 28)) = Y at *
            generalize w8.heap.size = qc at *
            obtain ⟨p0, p1, p2⟩ := cells3_of hV9.ba
            obtain ⟨s0, s1, s2⟩ := cells3_of hV9.bb
            obtain ⟨x0, x1, x2⟩ := cells3_of hq1
            go_wp2_with fail
            refine (Same_any A' A' _ _ Y.heap.size Y hV9.n1 hcC (Nat.le_refl _) hV9.sm.1 hV9.sm.2.1).mono ?_
            rintro e9 w9 ⟨rfl, hb⟩
            rw [decide_eq_true rfl]
            have hV10 := hV9.below hb
            have hq3 := (hb.block _ (lt_of_heap hq2)).trans hq2
            have hcD' := (hcD.below hb (Nat.le_refl _)).mono hb.size
            clear hV9 hq1 hq2 hcC hcD hb p0 p1 p2 s0 s1 s2 x0 x1 x2
            obtain ⟨s0, s1, s2⟩ := cells3_of hV10.bb
            obtain ⟨x0, x1, x2⟩ := cells3_of hq3
            go_wp2_with fail
            refine (Same_any B' B' _ _ w9.heap.size w9 hV10.n2 hcD' (Nat.le_refl _) hV10.sm.2.2.1 hV10.sm.2.2.2).mono ?_
            rintro e10 w10 ⟨rfl, hb⟩
            rw [decide_eq_true rfl]
            have hV11 := hV10.below hb
            clear hV10 hq3 hcD' hb s0 s1 s2 x0 x1 x2
            go_wp2_with fail
            go_meet
            exact ⟨rfl, hV11⟩
      · rw [decide_eq_false hR]
        have hrel := hV7.rel
        rcases hrel with ⟨-, rfl, rfl, rfl, rfl⟩ | ⟨h, -⟩ | ⟨h, -⟩
        · go_wp2_with fail
          refine (Same_any Cm.none Cm.none _ _ w7.heap.size w7 hV7.n1 ⟨_, _, rfl, Its.nil _ _, Ints.nil _ _⟩ (Nat.le_refl _) hV7.sm.1 hV7.sm.2.1).mono ?_
          rintro e9 w9 ⟨rfl, hb⟩
          rw [decide_eq_true rfl]
          have hV10 := hV7.below hb
          clear hV7 hb p0 p1 p2 s0 s1 s2
          obtain ⟨s0, s1, s2⟩ := cells3_of hV10.bb
          go_wp2_with fail
          refine (Same_any Cm.none Cm.none _ _ w9.heap.size w9 hV10.n2 ⟨_, _, rfl, Its.nil _ _, Ints.nil _ _⟩ (Nat.le_refl _) hV10.sm.2.2.1 hV10.sm.2.2.2).mono ?_
          rintro e10 w10 ⟨rfl, hb⟩
          rw [decide_eq_true rfl]
          have hV11 := hV10.below hb
          clear hV10 hb s0 s1 s2
          go_wp2_with fail
          go_meet
          exact ⟨rfl, hV11⟩
        · exact absurd h hR
        · exact absurd h hR
    case rest =>
      obtain ⟨rfl, hV⟩ := hcut
      clear hV7
      obtain ⟨X1, hcl1, hC1⟩ := clear_C 0 hV.r1
      obtain ⟨X2, hcl2, hC2⟩ := clear_C 0 (hC1.room _ _ _ _ hV.r3)
      obtain ⟨X3, hcl3, hC3⟩ := clear_N 0 (hC2.room _ _ _ _ (hC1.room _ _ _ _ hV.r2))
      obtain ⟨p0, p1, p2⟩ := cells3_of hV.ba
      obtain ⟨s0, s1, s2⟩ := cells3_of (hC1.box _ _ _ _ hV.bb (by decide))
      obtain ⟨t0, t1, t2⟩ := cells3_of (hC2.box _ _ _ _ (hC1.box _ _ _ _ hV.ba (by decide)) (by decide))
      have J3 : Below U.heap.size U X3 := ((hV.be.trans hC1.be).trans hC2.be).trans hC3.be
      obtain ⟨qn, qm, qin, hbe, hnd⟩ := HU.out _ J3
      obtain ⟨n0, n1, n2⟩ := cells3_of qn
      obtain ⟨i0, i1, i2⟩ := cells3_of qin
      go_wp2_with fail
      have hwU : w.heap.size ≤ U.heap.size := by omega
      refine (Same_any n n _ _ U.heap.size X3 hnd ((HN.out _ hbe).mono hwU) J3.size (by have := HLn.out; omega) (by have := HLn.out; omega)).mono ?_
      rintro e12 w12 ⟨rfl, hb⟩
      rw [decide_eq_true rfl]
      have J12 := J3.trans (hb.mono J3.size)
      clear hV hcl1 hC1 hcl2 hC2 hcl3 hC3 p0 p1 p2 s0 s1 s2 t0 t1 t2 J3 qn qm qin hbe hnd n0 n1 n2 i0 i1 i2 hb
      go_upto_region 18 with fail
      have HSX : Hid (∀ X : World, Below U.heap.size U X → X.cell? ⟨qi, 0, none⟩ = some (.bool n.leaf) ∧ X.cell? ⟨qi, 1, none⟩ = some (.slice ai n.items.length ci) ∧ X.cell? ⟨qi, 2, none⟩ = some (.slice aj n.kids.length cj) ∧ X.cell? ⟨w.heap.size + 1, 0, none⟩ = some (.bool m.leaf) ∧ X.cell? ⟨w.heap.size + 1, 1, none⟩ = some (.slice bd m.items.length e) ∧ X.cell? ⟨w.heap.size + 1, 2, none⟩ = some (.slice ld m.kids.length f)) := fun X h => by
        obtain ⟨-, qm, qin, -, -⟩ := HU.out X h
        obtain ⟨i0, i1, i2⟩ := cells3_of qin
        obtain ⟨m0, m1, m2⟩ := cells3_of qm
        exact ⟨i0, i1, i2, m0, m1, m2⟩
      have HC : Hid (∀ X : World, Below U.heap.size U X → Calls Try.prog 16 #[.agg #[.bool m.leaf, .slice bd m.items.length e, .slice ld m.kids.length f]] X fun e w' => ∃ vi vk, e = .returned (.agg #[.bool m.leaf, vi, vk]) ∧ OwnC w' X.heap.size vi m.items ∧ OwnN w' X.heap.size vk m.kids ∧ Below X.heap.size X w') := fun X h => by
        have hbe := (HU.out X h).2.2.2.1
        exact copied_any m _ _ X (HM.out X hbe) hbe.size (by have := HLm.out; omega) (by have := HLm.out; omega)
      have HJ : Hid (∀ (X : World) (v : Value), Below U.heap.size U X → NdS X X.heap.size v m → Calls Try.prog 11 #[.agg #[.bool n.leaf, .slice ai n.items.length ci, .slice aj n.kids.length cj], .string key, v] X fun e w' => JoinS X w' n key m e ∧ Below X.heap.size X w') := fun X v h hv =>
        Join_any n m key _ v X.heap.size X ((HU.out X h).2.2.2.2.mono h.size) hv (Nat.le_refl _) (by have := HLn.out; omega) (by have := HLm.out; omega) (by have := HLn.out; omega) (by have := HLm.out; omega)
      go_cut [16, 11] (fun px pe X => ∃ N q a1 c1 a2 c2 ec2, px = .pointer (some ⟨q, 0, none⟩) ∧ pe = .int .i64 ((ec2 : Nat) : Int) ∧ JvS U X N q a1 c1 a2 c2 ∧ Cm.join n key m = (N, ec2))
      case first =>
        have JD : Below U.heap.size U w12.drew := ⟨J12.os, J12.tape, J12.output, J12.size, J12.block⟩
        clear J12
        refine wp_region_held_drew (S := fun X : World => X.cell? ⟨qi, 0, none⟩ = some (.bool n.leaf) ∧ X.cell? ⟨qi, 1, none⟩ = some (.slice ai n.items.length ci) ∧ X.cell? ⟨qi, 2, none⟩ = some (.slice aj n.kids.length cj) ∧ X.cell? ⟨w.heap.size + 1, 0, none⟩ = some (.bool m.leaf) ∧ X.cell? ⟨w.heap.size + 1, 1, none⟩ = some (.slice bd m.items.length e) ∧ X.cell? ⟨w.heap.size + 1, 2, none⟩ = some (.slice ld m.kids.length f)) (by kernel_rfl) (HSX.out _ JD) (fun hHeld => ?_)
        refine wpAnyH_take (i := 0) (v := ?_) rfl (by kernel_rfl) (by kernel_rfl) (by kernel_rfl) (fun _ _ _ h => h) (Or.inl ⟨(by simp [Region.wanted]), ?_⟩) (hHeld) ?_
        rotate_left
        · (intro w hSw; (try dsimp only at hSw); ((go_simp) <;> (with_reducible rfl)))
        try simp only [Act.put, List.setIfInBounds_toArray]
        refine wpAnyH_take (i := 1) (v := ?_) rfl (by kernel_rfl) (by kernel_rfl) (by kernel_rfl) (fun _ _ _ h => h) (Or.inl ⟨(by simp [Region.wanted]), ?_⟩) (hHeld) ?_
        rotate_left
        · (intro w hSw; (try dsimp only at hSw); ((go_simp) <;> (with_reducible rfl)))
        try simp only [Act.put]
        refine wpAnyH_take (i := 2) (v := ?_) rfl (by kernel_rfl) (by kernel_rfl) (by kernel_rfl) (fun _ _ _ h => h) (Or.inl ⟨(by simp [Region.wanted]), ?_⟩) (hHeld) ?_
        rotate_left
        · (intro w hSw; (try dsimp only at hSw); ((go_simp) <;> (with_reducible rfl)))
        try simp only [Act.put]
        refine wpAnyH_ready (rs := [3, 8]) (by kernel_rfl) (by simp) ?_
        refine AllReadyH.cons rfl (fun K hK => ?_) (AllReadyH.cons rfl (fun K hK => ?_) AllReadyH.nil)
        · go_simp
          refine (HC.out _ JD).mono ?_
          rintro e13 w13 ⟨vi13, vk13, rfl, ho, hk, hb⟩
          obtain ⟨g1, h1, rfl, -⟩ := ho.its
          obtain ⟨g2, h2, rfl, -⟩ := hk.ints
          have J13 := JD.trans (hb.mono JD.size)
          have HM13 : Hid (∀ X : World, Below w13.heap.size w13 X → NdS X X.heap.size (.agg #[.bool m.leaf, .slice g1 m.items.length h1, .slice g2 m.kids.length h2]) m) := fun X h => (NdS.below ⟨_, _, rfl, ho.its, hk.ints⟩ h (Nat.le_refl _)).mono h.size
          clear ho hk
          try go_wp2_with fail
          refine hK.out _ _ (HSX.out _ J13) (fun hHeld => ?_)
          clear hK K
          try simp only [Act.put, List.setIfInBounds_toArray, List.set_cons_zero, List.set_cons_succ]
          refine wpAnyH_ready (rs := [4, 8]) (by kernel_rfl) (by simp) ?_
          refine AllReadyH.cons rfl (fun K hK => ?_) (AllReadyH.cons rfl (fun K hK => ?_) AllReadyH.nil)
          · go_simp
            refine (HJ.out _ _ J13 (HM13.out _ (Below.refl _ _))).mono ?_
            rintro e14 w14 ⟨hJS, hb14⟩
            obtain ⟨N, a1, c1, a2, c2, ec2, rfl, ho, hk, hje⟩ := join_gen hJS
            have J14 := J13.trans (hb14.mono J13.size)
            have HO : Hid _ := OwnC.low ho (J13.size)
            have HK : Hid _ := OwnN.low hk (J13.size)
            have Hje : Hid _ := hje
            clear ho hk hje hJS
            try go_wp2_with fail
            refine hK.out _ _ (HSX.out _ J14) (fun hHeld => ?_)
            clear hK K
            try simp only [Act.put, List.setIfInBounds_toArray, List.set_cons_zero, List.set_cons_succ]
            refine wpAnyH_take (i := 5) (v := ?_) rfl (by kernel_rfl) (by kernel_rfl) (by kernel_rfl) (fun _ _ _ h => h) (Or.inl ⟨(by simp [Region.wanted]), ?_⟩) (hHeld) ?_
            rotate_left
            · (intro w hSw; (try dsimp only at hSw); ((go_simp) <;> (with_reducible rfl)))
            try simp only [Act.put, List.setIfInBounds_toArray]
            refine wpAnyH_take (i := 6) (v := ?_) rfl (by kernel_rfl) (by kernel_rfl) (by kernel_rfl) (fun _ _ _ h => h) (Or.inl ⟨(by simp [Region.wanted]), ?_⟩) (hHeld) ?_
            rotate_left
            · (intro w hSw; (try dsimp only at hSw); ((go_simp) <;> (with_reducible rfl)))
            try simp only [Act.put]
            refine wpAnyH_take (i := 7) (v := ?_) rfl (by kernel_rfl) (by kernel_rfl) (by kernel_rfl) (fun _ _ _ h => h) (Or.inl ⟨(by simp [Region.wanted]), ?_⟩) (hHeld) ?_
            rotate_left
            · (intro w hSw; (try dsimp only at hSw); ((go_simp) <;> (with_reducible rfl)))
            try simp only [Act.put]
            refine wpAnyH_ready (rs := [8]) (by kernel_rfl) (by simp) ?_
            refine AllReadyH.cons rfl (fun K hK => ?_) AllReadyH.nil
            go_simp
            refine hK.out _ _ (HSX.out _ (J14.alloc J14.size (.cells #[.bool false, .slice none 0 0, .slice none 0 0] 28))) (fun hHeld => ?_)
            clear hK K
            try simp only [Act.put, List.setIfInBounds_toArray, List.set_cons_zero, List.set_cons_succ]
            have HF : Hid (JvS U (w14.alloc (.cells #[.bool N.leaf, .slice a1 N.items.length c1, .slice a2 N.kids.length c2] 28)) N w14.heap.size a1 c1 a2 c2) := ⟨J14.alloc J14.size _, heap_alloc_new w14 _, HO.out.alloc _, HK.out.alloc _⟩
            refine wpAnyH_ready (rs := [9]) (by kernel_rfl) (by simp) ?_
            refine AllReadyH.cons rfl (fun K hK => ?_) AllReadyH.nil
            go_simp
            refine hK.out _ _ (HSX.out _ HF.out.be) (fun hHeld => ?_)
            clear hK K
            try simp only [Act.put, List.setIfInBounds_toArray, List.set_cons_zero, List.set_cons_succ]
            refine wpAnyH_ready (rs := [10]) (by kernel_rfl) (by simp) ?_
            refine AllReadyH.cons rfl (fun K hK => ?_) AllReadyH.nil
            go_simp
            refine hK.out _ _ (HSX.out _ HF.out.be) (fun hHeld => ?_)
            clear hK K
            try simp only [Act.put, List.setIfInBounds_toArray, List.set_cons_zero, List.set_cons_succ]
            refine wpAnyH_done (by kernel_rfl) ?_ _
            go_wp2
            go_meet
            exact ⟨N, _, a1, c1, a2, c2, ec2, rfl, rfl, HF.out, Hje.out⟩
          · go_simp
            refine hK.out _ _ (HSX.out _ (J13.alloc J13.size (.cells #[.bool false, .slice none 0 0, .slice none 0 0] 28))) (fun hHeld => ?_)
            clear hK K
            try simp only [Act.put, List.setIfInBounds_toArray, List.set_cons_zero, List.set_cons_succ]
            have JA := J13.alloc J13.size (.cells #[.bool false, .slice none 0 0, .slice none 0 0] 28)
            have hz13 := heap_alloc_new w13 (.cells #[.bool false, .slice none 0 0, .slice none 0 0] 28)
            have hbA := (Below.refl w13.heap.size w13).alloc (Nat.le_refl _) (.cells #[.bool false, .slice none 0 0, .slice none 0 0] 28)
            have hq : U.heap.size ≤ w13.heap.size := J13.size
            refine wpAnyH_ready (rs := [4]) (by kernel_rfl) (by simp) ?_
            refine AllReadyH.cons rfl (fun K hK => ?_) AllReadyH.nil
            go_simp
            refine (HJ.out _ _ JA (HM13.out _ hbA)).mono ?_
            rintro e14 w14 ⟨hJS, hb14⟩
            obtain ⟨N, a1, c1, a2, c2, ec2, rfl, ho, hk, hje⟩ := join_gen hJS
            have J14 := JA.trans (hb14.mono JA.size)
            have HO : Hid _ := OwnC.low ho (JA.size)
            have HK : Hid _ := OwnN.low hk (JA.size)
            have Hje : Hid _ := hje
            clear ho hk hje hJS
            try go_wp2_with fail
            have hz14 := (hb14.block _ (lt_of_heap hz13)).trans hz13
            refine hK.out _ _ (HSX.out _ J14) (fun hHeld => ?_)
            clear hK K
            try simp only [Act.put, List.setIfInBounds_toArray, List.set_cons_zero, List.set_cons_succ]
            refine wpAnyH_take (i := 5) (v := ?_) rfl (by kernel_rfl) (by kernel_rfl) (by kernel_rfl) (fun _ _ _ h => h) (Or.inl ⟨(by simp [Region.wanted]), ?_⟩) (hHeld) ?_
            rotate_left
            · (intro w hSw; (try dsimp only at hSw); ((go_simp) <;> (with_reducible rfl)))
            try simp only [Act.put, List.setIfInBounds_toArray]
            refine wpAnyH_take (i := 6) (v := ?_) rfl (by kernel_rfl) (by kernel_rfl) (by kernel_rfl) (fun _ _ _ h => h) (Or.inl ⟨(by simp [Region.wanted]), ?_⟩) (hHeld) ?_
            rotate_left
            · (intro w hSw; (try dsimp only at hSw); ((go_simp) <;> (with_reducible rfl)))
            try simp only [Act.put]
            refine wpAnyH_take (i := 7) (v := ?_) rfl (by kernel_rfl) (by kernel_rfl) (by kernel_rfl) (fun _ _ _ h => h) (Or.inl ⟨(by simp [Region.wanted]), ?_⟩) (hHeld) ?_
            rotate_left
            · (intro w hSw; (try dsimp only at hSw); ((go_simp) <;> (with_reducible rfl)))
            try simp only [Act.put]
            obtain ⟨z0, z1, z2⟩ := cells3_of hz14
            have zf := fun j => frozen_of_row w14 (w13.heap.size) j _ _ hz14
            have JF : Below U.heap.size U (((w14.setCell ⟨w13.heap.size, 0, none⟩ (.bool N.leaf)).setCell ⟨w13.heap.size, 1, none⟩ (.slice a1 N.items.length c1)).setCell ⟨w13.heap.size, 2, none⟩ (.slice a2 N.kids.length c2)) := ((J14.setCell (by show U.heap.size ≤ w13.heap.size; exact hq) _).setCell (by show U.heap.size ≤ w13.heap.size; exact hq) _).setCell (by show U.heap.size ≤ w13.heap.size; exact hq) _
            have HF : Hid (JvS U (((w14.setCell ⟨w13.heap.size, 0, none⟩ (.bool N.leaf)).setCell ⟨w13.heap.size, 1, none⟩ (.slice a1 N.items.length c1)).setCell ⟨w13.heap.size, 2, none⟩ (.slice a2 N.kids.length c2)) N (w13.heap.size) a1 c1 a2 c2) := ⟨JF, heap_set3 hz14 _ _ _, own_stR HO.out hz14 (by decide) _ _ _, own_stR HK.out hz14 (by decide) _ _ _⟩
            refine wpAnyH_ready (rs := [9]) (by kernel_rfl) (by simp) ?_
            refine AllReadyH.cons rfl (fun K hK => ?_) AllReadyH.nil
            go_simp
            refine hK.out _ _ (HSX.out _ JF) (fun hHeld => ?_)
            clear hK K
            try simp only [Act.put, List.setIfInBounds_toArray, List.set_cons_zero, List.set_cons_succ]
            clear z0 z1 z2 zf
            generalize ((w14.setCell ⟨w13.heap.size, 0, none⟩ (.bool N.leaf)).setCell ⟨w13.heap.size, 1, none⟩ (.slice a1 N.items.length c1)).setCell ⟨w13.heap.size, 2, none⟩ (.slice a2 N.kids.length c2) = XF at *
            refine wpAnyH_ready (rs := [10]) (by kernel_rfl) (by simp) ?_
            refine AllReadyH.cons rfl (fun K hK => ?_) AllReadyH.nil
            go_simp
            refine hK.out _ _ (HSX.out _ JF) (fun hHeld => ?_)
            clear hK K
            try simp only [Act.put, List.setIfInBounds_toArray, List.set_cons_zero, List.set_cons_succ]
            refine wpAnyH_done (by kernel_rfl) ?_ _
            go_wp2
            go_meet
            exact ⟨N, _, a1, c1, a2, c2, ec2, rfl, rfl, HF.out, Hje.out⟩
        · go_simp
          refine hK.out _ _ (HSX.out _ (JD.alloc JD.size (.cells #[.bool false, .slice none 0 0, .slice none 0 0] 28))) (fun hHeld => ?_)
          clear hK K
          try simp only [Act.put, List.setIfInBounds_toArray, List.set_cons_zero, List.set_cons_succ]
          have JA := JD.alloc JD.size (.cells #[.bool false, .slice none 0 0, .slice none 0 0] 28)
          have hz12 : (w12.drew.alloc (.cells #[.bool false, .slice none 0 0, .slice none 0 0] 28)).heap[w12.heap.size]? = some (.cells #[.bool false, .slice none 0 0, .slice none 0 0] 28 (0, 0)) := heap_alloc_new w12.drew (.cells #[.bool false, .slice none 0 0, .slice none 0 0] 28)
          have hq : U.heap.size ≤ w12.heap.size := JD.size
          refine wpAnyH_ready (rs := [3]) (by kernel_rfl) (by simp) ?_
          refine AllReadyH.cons rfl (fun K hK => ?_) AllReadyH.nil
          go_simp
          refine (HC.out _ JA).mono ?_
          rintro e13 w13 ⟨vi13, vk13, rfl, ho, hk, hb⟩
          obtain ⟨g1, h1, rfl, -⟩ := ho.its
          obtain ⟨g2, h2, rfl, -⟩ := hk.ints
          have J13 := JA.trans (hb.mono JA.size)
          have HM13 : Hid (∀ X : World, Below w13.heap.size w13 X → NdS X X.heap.size (.agg #[.bool m.leaf, .slice g1 m.items.length h1, .slice g2 m.kids.length h2]) m) := fun X h => (NdS.below ⟨_, _, rfl, ho.its, hk.ints⟩ h (Nat.le_refl _)).mono h.size
          clear ho hk
          try go_wp2_with fail
          have hz13 := (hb.block _ (lt_of_heap hz12)).trans hz12
          refine hK.out _ _ (HSX.out _ J13) (fun hHeld => ?_)
          clear hK K
          try simp only [Act.put, List.setIfInBounds_toArray, List.set_cons_zero, List.set_cons_succ]
          refine wpAnyH_ready (rs := [4]) (by kernel_rfl) (by simp) ?_
          refine AllReadyH.cons rfl (fun K hK => ?_) AllReadyH.nil
          go_simp
          refine (HJ.out _ _ J13 (HM13.out _ (Below.refl _ _))).mono ?_
          rintro e14 w14 ⟨hJS, hb14⟩
          obtain ⟨N, a1, c1, a2, c2, ec2, rfl, ho, hk, hje⟩ := join_gen hJS
          have J14 := J13.trans (hb14.mono J13.size)
          have HO : Hid _ := OwnC.low ho (J13.size)
          have HK : Hid _ := OwnN.low hk (J13.size)
          have Hje : Hid _ := hje
          clear ho hk hje hJS
          try go_wp2_with fail
          have hz14 := (hb14.block _ (lt_of_heap hz13)).trans hz13
          refine hK.out _ _ (HSX.out _ J14) (fun hHeld => ?_)
          clear hK K
          try simp only [Act.put, List.setIfInBounds_toArray, List.set_cons_zero, List.set_cons_succ]
          refine wpAnyH_take (i := 5) (v := ?_) rfl (by kernel_rfl) (by kernel_rfl) (by kernel_rfl) (fun _ _ _ h => h) (Or.inl ⟨(by simp [Region.wanted]), ?_⟩) (hHeld) ?_
          rotate_left
          · (intro w hSw; (try dsimp only at hSw); ((go_simp) <;> (with_reducible rfl)))
          try simp only [Act.put, List.setIfInBounds_toArray]
          refine wpAnyH_take (i := 6) (v := ?_) rfl (by kernel_rfl) (by kernel_rfl) (by kernel_rfl) (fun _ _ _ h => h) (Or.inl ⟨(by simp [Region.wanted]), ?_⟩) (hHeld) ?_
          rotate_left
          · (intro w hSw; (try dsimp only at hSw); ((go_simp) <;> (with_reducible rfl)))
          try simp only [Act.put]
          refine wpAnyH_take (i := 7) (v := ?_) rfl (by kernel_rfl) (by kernel_rfl) (by kernel_rfl) (fun _ _ _ h => h) (Or.inl ⟨(by simp [Region.wanted]), ?_⟩) (hHeld) ?_
          rotate_left
          · (intro w hSw; (try dsimp only at hSw); ((go_simp) <;> (with_reducible rfl)))
          try simp only [Act.put]
          obtain ⟨z0, z1, z2⟩ := cells3_of hz14
          have zf := fun j => frozen_of_row w14 (w12.heap.size) j _ _ hz14
          have JF : Below U.heap.size U (((w14.setCell ⟨w12.heap.size, 0, none⟩ (.bool N.leaf)).setCell ⟨w12.heap.size, 1, none⟩ (.slice a1 N.items.length c1)).setCell ⟨w12.heap.size, 2, none⟩ (.slice a2 N.kids.length c2)) := ((J14.setCell (by show U.heap.size ≤ w12.heap.size; exact hq) _).setCell (by show U.heap.size ≤ w12.heap.size; exact hq) _).setCell (by show U.heap.size ≤ w12.heap.size; exact hq) _
          have HF : Hid (JvS U (((w14.setCell ⟨w12.heap.size, 0, none⟩ (.bool N.leaf)).setCell ⟨w12.heap.size, 1, none⟩ (.slice a1 N.items.length c1)).setCell ⟨w12.heap.size, 2, none⟩ (.slice a2 N.kids.length c2)) N (w12.heap.size) a1 c1 a2 c2) := ⟨JF, heap_set3 hz14 _ _ _, own_stR HO.out hz14 (by decide) _ _ _, own_stR HK.out hz14 (by decide) _ _ _⟩
          refine wpAnyH_ready (rs := [9]) (by kernel_rfl) (by simp) ?_
          refine AllReadyH.cons rfl (fun K hK => ?_) AllReadyH.nil
          go_simp
          refine hK.out _ _ (HSX.out _ JF) (fun hHeld => ?_)
          clear hK K
          try simp only [Act.put, List.setIfInBounds_toArray, List.set_cons_zero, List.set_cons_succ]
          clear z0 z1 z2 zf
          generalize ((w14.setCell ⟨w12.heap.size, 0, none⟩ (.bool N.leaf)).setCell ⟨w12.heap.size, 1, none⟩ (.slice a1 N.items.length c1)).setCell ⟨w12.heap.size, 2, none⟩ (.slice a2 N.kids.length c2) = XF at *
          refine wpAnyH_ready (rs := [10]) (by kernel_rfl) (by simp) ?_
          refine AllReadyH.cons rfl (fun K hK => ?_) AllReadyH.nil
          go_simp
          refine hK.out _ _ (HSX.out _ JF) (fun hHeld => ?_)
          clear hK K
          try simp only [Act.put, List.setIfInBounds_toArray, List.set_cons_zero, List.set_cons_succ]
          refine wpAnyH_done (by kernel_rfl) ?_ _
          go_wp2
          go_meet
          exact ⟨N, _, a1, c1, a2, c2, ec2, rfl, rfl, HF.out, Hje.out⟩
      case rest =>
        obtain ⟨N, q, a1', c1', a2', c2', ec2, rfl, rfl, hJv, hje⟩ := hcut
        clear J12
        have Hje : Hid _ := hje
        obtain ⟨qn, qm, qin, hbe, hnd⟩ := HU.out _ hJv.be
        obtain ⟨n0, n1, n2⟩ := cells3_of qn
        obtain ⟨m0, m1, m2⟩ := cells3_of qm
        go_wp2_with fail
        refine (RJoin_any n m key _ _ _ _ (HN.out _ hbe) (HM.out _ hbe) hbe.size (by have := HLn.out; omega) (by have := HLm.out; omega) (by have := HLn.out; omega) (by have := HLm.out; omega)).mono ?_
        rintro e15 w15 ⟨vn, rfl, hN15, hb⟩
        rw [hje] at hN15 ⊢
        have hJ15 := hJv.below hb
        clear hJv hb hje qn qm qin hbe hnd n0 n1 n2 m0 m1 m2 HSX HC HJ
        obtain ⟨vy1, vy2, rfl, ⟨y1, t1, rfl, -⟩, ⟨y2, t2, rfl, -⟩⟩ := id hN15
        go_upto_region 20 with fail
        have hq16 := heap_alloc_new w15 (.cells #[.bool N.leaf, .slice y1 N.items.length t1, .slice y2 N.kids.length t2] 28)
        have hb16 : Below w15.heap.size w15 (w15.alloc (.cells #[.bool N.leaf, .slice y1 N.items.length t1, .slice y2 N.kids.length t2] 28)) := (Below.refl w15.heap.size w15).alloc (Nat.le_refl _) _
        have hJ16 := hJ15.below hb16
        have hN16 : NdS (w15.alloc (.cells #[.bool N.leaf, .slice y1 N.items.length t1, .slice y2 N.kids.length t2] 28)) (w15.alloc (.cells #[.bool N.leaf, .slice y1 N.items.length t1, .slice y2 N.kids.length t2] 28)).heap.size (.agg #[.bool N.leaf, .slice y1 N.items.length t1, .slice y2 N.kids.length t2]) N := (hN15.below hb16 (Nat.le_refl _)).mono hb16.size
        clear hJ15 hb16 hN15
        generalize w15.alloc (.cells #[.bool N.leaf, .slice y1 N.items.length t1, .slice y2 N.kids.length t2] 28) = Y at *
        generalize w15.heap.size = qy at *
        obtain ⟨x0, x1, x2⟩ := cells3_of hJ16.bx
        obtain ⟨v0, v1, v2⟩ := cells3_of hq16
        have hsm : N.items.length ≤ 1000000 ∧ N.kids.length ≤ 1000000 := by
          have h := join_small n m key
          rw [Hje.out] at h
          have h1 := HLn.out
          have h2 := HLm.out
          simp only at h
          omega
        go_wp2_with fail
        refine (Same_any N N _ _ Y.heap.size Y ⟨_, _, rfl, hJ16.oi.its, hJ16.ok.ints⟩ hN16 (Nat.le_refl _) hsm.1 hsm.2).mono ?_
        rintro e17 w17 ⟨rfl, hb⟩
        rw [decide_eq_true rfl]
        have hJ17 := hJ16.below hb
        clear hJ16 hb hN16 hq16 x0 x1 x2 v0 v1 v2 hsm
        obtain ⟨X1, hcl1, hC1⟩ := clear_C 0 (Room.of hJ17.oi)
        obtain ⟨X2, hcl2, hC2⟩ := clear_N 0 (hC1.room _ _ _ _ (Room.of hJ17.ok))
        obtain ⟨p0, p1, p2⟩ := cells3_of hJ17.bx
        obtain ⟨s0, s1, s2⟩ := cells3_of (hC1.box _ _ _ _ hJ17.bx (by decide))
        have J3 : Below U.heap.size U X2 := (hJ17.be.trans hC1.be).trans hC2.be
        obtain ⟨qn, qm, qin, hbe, hnd⟩ := HU.out _ J3
        obtain ⟨n0, n1, n2⟩ := cells3_of qn
        obtain ⟨i0, i1, i2⟩ := cells3_of qin
        go_wp2_with fail
        refine (Same_any n n _ _ U.heap.size X2 hnd ((HN.out _ hbe).mono hwU) J3.size (by have := HLn.out; omega) (by have := HLn.out; omega)).mono ?_
        rintro e18 w18 ⟨rfl, hb⟩
        rw [decide_eq_true rfl]
        have hfin := (HU.out _ (J3.trans (hb.mono J3.size))).2.2.2.1
        clear hcl1 hC1 hcl2 hC2 p0 p1 p2 s0 s1 s2 J3 qn qm qin hbe hnd n0 n1 n2 i0 i1 i2 hb hJ17
        go_wp2
        go_ret
        exact ⟨rfl, hfin⟩

end Go.Proofs.Ytplfcpbjlhobeaa
