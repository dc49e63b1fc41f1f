/-
  THE WALKS OF joined, Join.
-/
import Derived.Test.YtplfcpbjlhobeaaDHalf
import Derived.Test.YtplfcpbjlhobeaaDConcat
import Derived.Test.YtplfcpbjlhobeaaDParts
namespace Go.Proofs.Ytplfcpbjlhobeaa
open Go.RowKit

/-- joined's variables: both nodes, the place of the result -/
structure JInv (w wr : World) (lf : Bool) (ia ka ib kb : Value) : Prop where
  na : wr.heap[w.heap.size]? = some (.cells #[.bool lf, ia, ka] 28 (0, 0))
  nb : wr.heap[w.heap.size + 1]? = some (.cells #[.bool lf, ib, kb] 28 (0, 0))
  res : wr.heap[w.heap.size + 2]? = some (.cells #[.bool false, .slice none 0 0, .slice none 0 0] 28 (0, 0))
  be : Below w.heap.size w wr
theorem JInv.below {w wr w' : World} {lf : Bool} {ia ka ib kb : Value} (h : JInv w wr lf ia ka ib kb) (hb : Below wr.heap.size wr w') : JInv w w' lf ia ka ib kb :=
  ⟨(hb.block _ (lt_of_heap h.na)).trans h.na, (hb.block _ (lt_of_heap h.nb)).trans h.nb, (hb.block _ (lt_of_heap h.res)).trans h.res, h.be.trans (hb.mono h.be.size)⟩
theorem JInv.alloc {w wr : World} {lf : Bool} {ia ka ib kb : Value} (h : JInv w wr lf ia ka ib kb) (o : Obj) : JInv w (wr.alloc o) lf ia ka ib kb := h.below ((Below.refl _ wr).alloc (Nat.le_refl _) o)
theorem JInv.drew {w wr : World} {lf : Bool} {ia ka ib kb : Value} (h : JInv w wr lf ia ka ib kb) : JInv w wr.drew lf ia ka ib kb := ⟨h.na, h.nb, h.res, ⟨h.be.os, h.be.tape, h.be.output, h.be.size, h.be.block⟩⟩
theorem JInv.S {w wr : World} {lf : Bool} {ia ka ib kb : Value} (h : JInv w wr lf ia ka ib kb) : (wr.cell? ⟨w.heap.size, 0, none⟩ = some (.bool lf) ∧ wr.cell? ⟨w.heap.size, 1, none⟩ = some ia ∧ wr.cell? ⟨w.heap.size, 2, none⟩ = some ka ∧ wr.cell? ⟨w.heap.size + 1, 0, none⟩ = some (.bool lf) ∧ wr.cell? ⟨w.heap.size + 1, 1, none⟩ = some ib ∧ wr.cell? ⟨w.heap.size + 1, 2, none⟩ = some kb) := by
  obtain ⟨a0, a1, a2⟩ := cells3_of h.na
  obtain ⟨b0, b1, b2⟩ := cells3_of h.nb
  exact ⟨a0, a1, a2, b0, b1, b2⟩
theorem JInv.st {w wr : World} {lf : Bool} {ia ka ib kb : Value} (h : JInv w wr lf ia ka ib kb) (u0 u1 u2 : Value) : ((((wr.setCell ⟨w.heap.size + 2, 0, none⟩ u0).setCell ⟨w.heap.size + 2, 1, none⟩ u1).setCell ⟨w.heap.size + 2, 2, none⟩ u2).cell? ⟨w.heap.size, 0, none⟩ = some (.bool lf) ∧ (((wr.setCell ⟨w.heap.size + 2, 0, none⟩ u0).setCell ⟨w.heap.size + 2, 1, none⟩ u1).setCell ⟨w.heap.size + 2, 2, none⟩ u2).cell? ⟨w.heap.size, 1, none⟩ = some ia ∧ (((wr.setCell ⟨w.heap.size + 2, 0, none⟩ u0).setCell ⟨w.heap.size + 2, 1, none⟩ u1).setCell ⟨w.heap.size + 2, 2, none⟩ u2).cell? ⟨w.heap.size, 2, none⟩ = some ka ∧ (((wr.setCell ⟨w.heap.size + 2, 0, none⟩ u0).setCell ⟨w.heap.size + 2, 1, none⟩ u1).setCell ⟨w.heap.size + 2, 2, none⟩ u2).cell? ⟨w.heap.size + 1, 0, none⟩ = some (.bool lf) ∧ (((wr.setCell ⟨w.heap.size + 2, 0, none⟩ u0).setCell ⟨w.heap.size + 2, 1, none⟩ u1).setCell ⟨w.heap.size + 2, 2, none⟩ u2).cell? ⟨w.heap.size + 1, 1, none⟩ = some ib ∧ (((wr.setCell ⟨w.heap.size + 2, 0, none⟩ u0).setCell ⟨w.heap.size + 2, 1, none⟩ u1).setCell ⟨w.heap.size + 2, 2, none⟩ u2).cell? ⟨w.heap.size + 1, 2, none⟩ = some kb) := by
  obtain ⟨a0, a1, a2⟩ := cells3_of (k_st (q := w.heap.size + 2) h.na (by omega) u0 u1 u2)
  obtain ⟨b0, b1, b2⟩ := cells3_of (k_st (q := w.heap.size + 2) h.nb (by omega) u0 u1 u2)
  exact ⟨a0, a1, a2, b0, b1, b2⟩

/-- what joined answers -/
def JoinedS (w w' : World) (a : Cm.Nd) (key : ByteArray) (b : Cm.Nd) (e : Ending) : Prop :=
  ∃ vi vk, e = .returned (.agg #[.bool a.leaf, vi, vk]) ∧ OwnC w' w.heap.size vi (Cm.joined a key b).items ∧ OwnN w' w.heap.size vk (Cm.joined a key b).kids ∧ Below w.heap.size w w'

theorem lst2C {X : World} {b B : Nat} {t : TypeId} {ad bd : Option Addr} {ca cb : Nat} {l m : List Cm.It} (h : X.heap[b]? = some (.cells #[.slice ad l.length ca, .slice bd m.length cb] t (0, 0))) (h1 : Its X B (.slice ad l.length ca) l) (h2 : Its X B (.slice bd m.length cb) m) : LstC X B b 0 [l, m] := by
  intro j hj
  have hj2 : j = 0 ∨ j = 1 := by simp only [List.length_cons, List.length_nil] at hj; omega
  rcases hj2 with rfl | rfl
  · exact ⟨ad, ca, by rw [cell_of_row X b _ _ t _ h]; rfl, h1⟩
  · exact ⟨bd, cb, by rw [cell_of_row X b _ _ t _ h]; rfl, h2⟩
theorem lst3C {X : World} {b B : Nat} {t : TypeId} {ad bd cd : Option Addr} {ca cb cc : Nat} {l m n : List Cm.It} (h : X.heap[b]? = some (.cells #[.slice ad l.length ca, .slice bd m.length cb, .slice cd n.length cc] t (0, 0))) (h1 : Its X B (.slice ad l.length ca) l) (h2 : Its X B (.slice bd m.length cb) m) (h3 : Its X B (.slice cd n.length cc) n) : LstC X B b 0 [l, m, n] := by
  intro j hj
  have hj2 : j = 0 ∨ j = 1 ∨ j = 2 := by simp only [List.length_cons, List.length_nil] at hj; omega
  rcases hj2 with rfl | rfl | rfl
  · exact ⟨ad, ca, by rw [cell_of_row X b _ _ t _ h]; rfl, h1⟩
  · exact ⟨bd, cb, by rw [cell_of_row X b _ _ t _ h]; rfl, h2⟩
  · exact ⟨cd, cc, by rw [cell_of_row X b _ _ t _ h]; rfl, h3⟩
theorem lst2N {X : World} {b B : Nat} {t : TypeId} {ad bd : Option Addr} {ca cb : Nat} {l m : List Int} (h : X.heap[b]? = some (.cells #[.slice ad l.length ca, .slice bd m.length cb] t (0, 0))) (h1 : Ints X B (.slice ad l.length ca) l) (h2 : Ints X B (.slice bd m.length cb) m) : LstN X B b 0 [l, m] := by
  intro j hj
  have hj2 : j = 0 ∨ j = 1 := by simp only [List.length_cons, List.length_nil] at hj; omega
  rcases hj2 with rfl | rfl
  · exact ⟨ad, ca, by rw [cell_of_row X b _ _ t _ h]; rfl, h1⟩
  · exact ⟨bd, cb, by rw [cell_of_row X b _ _ t _ h]; rfl, h2⟩
theorem its_one {X : World} {b : Nat} (x : Cm.It) (h : X.heap[b]? = some (.cells #[.string x.key, .string x.val, .int .i64 x.page, .int .i64 x.len] 24 (0, 0))) : Its X X.heap.size (.slice (some ⟨b, 0, none⟩) 1 1) [x] := by
  refine ⟨_, 1, rfl, Nat.le_refl _, (fun h => by cases h), fun _ => ⟨b, 0, rfl, lt_of_heap h, fun j hj => ?_⟩⟩
  have hj0 : j = 0 := by simpa using hj
  subst hj0
  refine ⟨?_, ?_, ?_, ?_⟩ <;> (rw [cell_of_row X b _ _ _ _ h]; rfl)
theorem heap_al_at (W : World) (o : Obj) (k : Nat) (hk : W.heap.size = k) : (W.alloc o).heap[k]? = some o := by subst hk; exact heap_alloc_new W o
theorem joined_fin {w W : World} {a b : Cm.Nd} {key : ByteArray} {lf : Bool} {ia ka ib kb vi vk : Value} (hl : a.leaf = lf) (h : JInv w W lf ia ka ib kb) (ho : OwnC W (w.heap.size + 3) vi (Cm.joined a key b).items) (hk : OwnN W (w.heap.size + 3) vk (Cm.joined a key b).kids) :
    JoinedS w (((W.setCell ⟨w.heap.size + 2, 0, none⟩ (.bool lf)).setCell ⟨w.heap.size + 2, 1, none⟩ vi).setCell ⟨w.heap.size + 2, 2, none⟩ vk) a key b (.returned (.agg #[.bool lf, vi, vk])) := by
  have c2 : w.heap.size ≤ w.heap.size + 2 := by omega
  have c3 : w.heap.size + 2 < w.heap.size + 3 := by omega
  refine ⟨vi, vk, by rw [hl], OwnC.low (OwnC.set (OwnC.set (OwnC.set ho c3) c3) c3) (by omega), OwnN.low (OwnN.set (OwnN.set (OwnN.set hk c3) c3) c3) (by omega), ((h.be.setCell c2 _).setCell c2 _).setCell c2 _⟩

set_option maxRecDepth 100000 in
set_option maxHeartbeats 8000000 in
theorem joined_any (a b : Cm.Nd) (key : ByteArray) (va vb : Value) (B : Nat) (w : World) (ha : NdS w B va a) (hb : NdS w B vb b) (hB : B ≤ w.heap.size) (hla : a.items.length ≤ 1000000) (hlb : b.items.length ≤ 1000000) (hka : a.kids.length ≤ 1000010) (hkb : b.kids.length ≤ 1000010) (hna : a.leaf = true → a.kids = []) (hnb : b.leaf = true → b.kids = []) (hlf : a.leaf = b.leaf) :
    Calls Try.prog 38 #[va, .string key, vb] w fun e w' => JoinedS w w' a key b e := by
  obtain ⟨vai, vak, rfl, hIa, hKa⟩ := ha
  obtain ⟨vbi, vbk, rfl, hIb, hKb⟩ := hb
  have HIa : Hid (∀ X : World, Below w.heap.size w X → Its X B vai a.items) := fun X h => hIa.below h hB
  have HIb : Hid (∀ X : World, Below w.heap.size w X → Its X B vbi b.items) := fun X h => hIb.below h hB
  have HKa : Hid (∀ X : World, Below w.heap.size w X → Ints X B vak a.kids) := fun X h => hKa.below h hB
  have HKb : Hid (∀ X : World, Below w.heap.size w X → Ints X B vbk b.kids) := fun X h => hKb.below h hB
  obtain ⟨ad, ca, rfl, -⟩ := hIa
  obtain ⟨bd, cb, rfl, -⟩ := hIb
  obtain ⟨kd, da, rfl, -⟩ := hKa
  obtain ⟨ld, db, rfl, -⟩ := hKb
  rw [← hlf] at hnb
  rw [← hlf]
  obtain ⟨lf, hle⟩ : ∃ lf, a.leaf = lf := ⟨_, rfl⟩
  rw [hle] at hna hnb
  rw [hle]
  have HFin : Hid (∀ (W : World) (vi vk : Value), JInv w W lf (.slice ad a.items.length ca) (.slice kd a.kids.length da) (.slice bd b.items.length cb) (.slice ld b.kids.length db) → OwnC W (w.heap.size + 3) vi (Cm.joined a key b).items → OwnN W (w.heap.size + 3) vk (Cm.joined a key b).kids →
      JoinedS w (((W.setCell ⟨w.heap.size + 2, 0, none⟩ (.bool lf)).setCell ⟨w.heap.size + 2, 1, none⟩ vi).setCell ⟨w.heap.size + 2, 2, none⟩ vk) a key b (.returned (.agg #[.bool lf, vi, vk]))) := fun W vi vk h ho hk => joined_fin hle h ho hk
  have HJ0 : Hid (JInv w (((w.alloc (.cells #[.bool lf, .slice ad a.items.length ca, .slice kd a.kids.length da] 28)).alloc (.cells #[.bool lf, .slice bd b.items.length cb, .slice ld b.kids.length db] 28)).alloc (.cells #[.bool false, .slice none 0 0, .slice none 0 0] 28)) lf (.slice ad a.items.length ca) (.slice kd a.kids.length da) (.slice bd b.items.length cb) (.slice ld b.kids.length db)) := by
    have b1 := heap_alloc_new w (.cells #[.bool lf, .slice ad a.items.length ca, .slice kd a.kids.length da] 28)
    have e1 := (Below.refl w.heap.size w).alloc (Nat.le_refl _) (.cells #[.bool lf, .slice ad a.items.length ca, .slice kd a.kids.length da] 28)
    have s1 : (w.alloc (.cells #[.bool lf, .slice ad a.items.length ca, .slice kd a.kids.length da] 28)).heap.size = w.heap.size + 1 := by simp
    generalize w.alloc (.cells #[.bool lf, .slice ad a.items.length ca, .slice kd a.kids.length da] 28) = W1 at *
    have b2 := heap_alloc_new W1 (.cells #[.bool lf, .slice bd b.items.length cb, .slice ld b.kids.length db] 28)
    have s2 : (W1.alloc (.cells #[.bool lf, .slice bd b.items.length cb, .slice ld b.kids.length db] 28)).heap.size = w.heap.size + 2 := by simp [s1]
    have b3 := heap_alloc_new (W1.alloc (.cells #[.bool lf, .slice bd b.items.length cb, .slice ld b.kids.length db] 28)) (.cells #[.bool false, .slice none 0 0, .slice none 0 0] 28)
    rw [s2] at b3
    rw [s1] at b2
    exact ⟨k_al (k_al b1 _) _, k_al b2 _, b3, (e1.alloc (by omega) _).alloc (by rw [s2]; omega) _⟩
  go_enter Try.func38, Try.ntmps38
  go_upto_region 1 with fail
  generalize ((w.alloc (.cells #[.bool lf, .slice ad a.items.length ca, .slice kd a.kids.length da] 28)).alloc (.cells #[.bool lf, .slice bd b.items.length cb, .slice ld b.kids.length db] 28)).alloc (.cells #[.bool false, .slice none 0 0, .slice none 0 0] 28) = W at *
  rw [show w.heap.size + 1 + 1 = w.heap.size + 2 by omega]
  have J := HJ0.out
  obtain ⟨n0, n1, n2⟩ := cells3_of J.na
  obtain ⟨m0, m1, m2⟩ := cells3_of J.nb
  clear HJ0
  cases lf with
  | true =>
    have hka0 := hna rfl
    have hkb0 := hnb rfl
    have HCC : Hid (∀ (X : World) (b7 : Nat), JInv w X true (.slice ad a.items.length ca) (.slice kd a.kids.length da) (.slice bd b.items.length cb) (.slice ld b.kids.length db) → X.heap[b7]? = some (.cells #[.slice ad a.items.length ca, .slice bd b.items.length cb] 25 (0, 0)) →
        Calls Try.prog 61 #[.slice (some ⟨b7, 0, none⟩) 2 2] X fun e w' => ∃ v', e = .returned v' ∧ OwnC w' X.heap.size v' (Cm.joined a key b).items ∧ Below X.heap.size X w') := fun X b7 h h7 => by
      have := ConcatC_any [a.items, b.items] B b7 0 2 X (lst2C h7 (HIa.out X h.be) (HIb.out X h.be)) (lt_of_heap h7) (Nat.le_trans hB h.be.size) (by simp) (by simp; omega)
      simpa [Cm.joined, hle] using this
    have HKn : Hid ((Cm.joined a key b).kids = []) := by show _ = _; simp [Cm.joined, hka0, hkb0]
    clear hna hnb hle
    go_wp2_with fail
    refine (HCC.out _ _ (J.alloc _) (heap_al_at _ _ _ rfl)).mono ?_
    rintro e w8 ⟨v8, rfl, ho8, hb8⟩
    have J8 := (J.alloc (.cells #[.slice ad a.items.length ca, .slice bd b.items.length cb] 25)).below hb8
    have ho8_0 := OwnC.low ho8 (show w.heap.size + 3 ≤ (W.alloc (.cells #[.slice ad a.items.length ca, .slice bd b.items.length cb] 25)).heap.size by have := lt_of_heap J.res; simp; omega)
    obtain ⟨a8, c8, rfl, -⟩ := ho8.its
    have HF := HFin.out w8 _ (.slice none 0 0) J8 ho8_0 (by rw [HKn.out]; exact OwnN.nil _ _)
    clear ho8 ho8_0 hb8 n0 n1 n2 m0 m1 m2
    generalize (Cm.joined a key b).items.length = LI at *
    obtain ⟨z0, z1, z2⟩ := cells3_of J8.res
    have zf := fun j => frozen_of_row w8 (w.heap.size + 2) j _ _ J8.res
    obtain ⟨y0, y1, y2⟩ := cells3_of (heap_set3 J8.res (.bool true) (.slice a8 LI c8) (.slice none 0 0))
    clear J J8 HCC HFin
    go_wp2
    simp only [bodyPost, results, Try.results38]
    generalize ((w8.setCell ⟨w.heap.size + 2, 0, none⟩ (.bool true)).setCell ⟨w.heap.size + 2, 1, none⟩ (.slice a8 LI c8)).setCell ⟨w.heap.size + 2, 2, none⟩ (.slice none 0 0) = X2 at *
    simp [go_sem, y0, y1, y2]
    exact HF
  | false =>
    have HCC : Hid (∀ (X : World) (b4 b7 : Nat), JInv w X false (.slice ad a.items.length ca) (.slice kd a.kids.length da) (.slice bd b.items.length cb) (.slice ld b.kids.length db) → X.heap[b4]? = some (.cells #[.string key, .string ⟨#[]⟩, .int .i64 0, .int .i64 0] 24 (0, 0)) → X.heap[b7]? = some (.cells #[.slice ad a.items.length ca, .slice (some ⟨b4, 0, none⟩) 1 1, .slice bd b.items.length cb] 25 (0, 0)) →
        Calls Try.prog 61 #[.slice (some ⟨b7, 0, none⟩) 3 3] X fun e w' => ∃ v', e = .returned v' ∧ OwnC w' X.heap.size v' (Cm.joined a key b).items ∧ Below X.heap.size X w') := fun X b4 b7 h h4 h7 => by
      have hBX := Nat.le_trans hB h.be.size
      have := ConcatC_any [a.items, [⟨key, .empty, 0, 0⟩], b.items] X.heap.size b7 0 3 X (lst3C h7 ((HIa.out X h.be).mono hBX) (its_one ⟨key, .empty, 0, 0⟩ h4) ((HIb.out X h.be).mono hBX)) (lt_of_heap h7) (Nat.le_refl _) (by simp) (by simp; omega)
      simpa [Cm.joined, hle] using this
    have HCN : Hid (∀ (X : World) (b7 : Nat), JInv w X false (.slice ad a.items.length ca) (.slice kd a.kids.length da) (.slice bd b.items.length cb) (.slice ld b.kids.length db) → X.heap[b7]? = some (.cells #[.slice kd a.kids.length da, .slice ld b.kids.length db] 26 (0, 0)) →
        Calls Try.prog 23 #[.slice (some ⟨b7, 0, none⟩) 2 2] X fun e w' => ∃ v', e = .returned v' ∧ OwnN w' X.heap.size v' (Cm.joined a key b).kids ∧ Below X.heap.size X w') := fun X b7 h h7 => by
      have := ConcatN_any [a.kids, b.kids] B b7 0 2 X (lst2N h7 (HKa.out X h.be) (HKb.out X h.be)) (lt_of_heap h7) (Nat.le_trans hB h.be.size) (by simp) (by simp; omega)
      simpa [Cm.joined] using this
    obtain ⟨LI, hLI⟩ : ∃ L, (Cm.joined a key b).items.length = L := ⟨_, rfl⟩
    have HLi : Hid ((Cm.joined a key b).items.length = LI) := hLI
    obtain ⟨LK, hLK⟩ : ∃ L, (Cm.joined a key b).kids.length = L := ⟨_, rfl⟩
    have HLk : Hid ((Cm.joined a key b).kids.length = LK) := hLK
    have Hfin := HFin
    clear hLI hLK hna hnb hle HFin
    have HJ : Hid (JInv w W false (.slice ad a.items.length ca) (.slice kd a.kids.length da) (.slice bd b.items.length cb) (.slice ld b.kids.length db)) := J
    clear J
    go_upto_region 3 with fail
    refine wp_region_held_drew (S := fun W : World => W.cell? ⟨w.heap.size, 0, none⟩ = some (.bool false) ∧ W.cell? ⟨w.heap.size, 1, none⟩ = some (.slice ad a.items.length ca) ∧ W.cell? ⟨w.heap.size, 2, none⟩ = some (.slice kd a.kids.length da) ∧ W.cell? ⟨w.heap.size + 1, 0, none⟩ = some (.bool false) ∧ W.cell? ⟨w.heap.size + 1, 1, none⟩ = some (.slice bd b.items.length cb) ∧ W.cell? ⟨w.heap.size + 1, 2, none⟩ = some (.slice ld b.kids.length db)) (by kernel_rfl) HJ.out.S (fun hHeld => ?_)
    have JD := HJ.out.drew
    clear n0 n1 n2 m0 m1 m2
    refine wpAnyH_take (i := 0) (v := ?_) rfl (by kernel_rfl) (by kernel_rfl) (by kernel_rfl) (fun _ _ _ h => h) (Or.inl ⟨(by simp [Region.wanted]), ?_⟩) (hHeld) ?_
    rotate_left
    · (intro w hSw; (try dsimp only at hSw); ((go_simp) <;> (with_reducible rfl)))
    try simp only [Act.put, List.setIfInBounds_toArray]
    refine wpAnyH_take (i := 1) (v := ?_) rfl (by kernel_rfl) (by kernel_rfl) (by kernel_rfl) (fun _ _ _ h => h) (Or.inl ⟨(by simp [Region.wanted]), ?_⟩) (hHeld) ?_
    rotate_left
    · (intro w hSw; (try dsimp only at hSw); ((go_simp) <;> (with_reducible rfl)))
    try simp only [Act.put]
    refine wpAnyH_take (i := 2) (v := ?_) rfl (by kernel_rfl) (by kernel_rfl) (by kernel_rfl) (fun _ _ _ h => h) (Or.inl ⟨(by simp [Region.wanted]), ?_⟩) (hHeld) ?_
    rotate_left
    · (intro w hSw; (try dsimp only at hSw); ((go_simp) <;> (with_reducible rfl)))
    try simp only [Act.put]
    refine wpAnyH_take (i := 3) (v := ?_) rfl (by kernel_rfl) (by kernel_rfl) (by kernel_rfl) (fun _ _ _ h => h) (Or.inl ⟨(by simp [Region.wanted]), ?_⟩) (hHeld) ?_
    rotate_left
    · (intro w hSw; (try dsimp only at hSw); ((go_simp) <;> (with_reducible rfl)))
    try simp only [Act.put]
    refine wpAnyH_take (i := 5) (v := ?_) rfl (by kernel_rfl) (by kernel_rfl) (by kernel_rfl) (fun _ _ _ h => h) (Or.inl ⟨(by simp [Region.wanted]), ?_⟩) (hHeld) ?_
    rotate_left
    · (intro w hSw; (try dsimp only at hSw); ((go_simp) <;> (with_reducible rfl)))
    try simp only [Act.put]
    refine wpAnyH_take (i := 6) (v := ?_) rfl (by kernel_rfl) (by kernel_rfl) (by kernel_rfl) (fun _ _ _ h => h) (Or.inl ⟨(by simp [Region.wanted]), ?_⟩) (hHeld) ?_
    rotate_left
    · (intro w hSw; (try dsimp only at hSw); ((go_simp) <;> (with_reducible rfl)))
    try simp only [Act.put]
    refine wpAnyH_take (i := 9) (v := ?_) rfl (by kernel_rfl) (by kernel_rfl) (by kernel_rfl) (fun _ _ _ h => h) (Or.inl ⟨(by simp [Region.wanted]), ?_⟩) (hHeld) ?_
    rotate_left
    · (intro w hSw; (try dsimp only at hSw); ((go_simp) <;> (with_reducible rfl)))
    try simp only [Act.put]
    refine wpAnyH_take (i := 10) (v := ?_) rfl (by kernel_rfl) (by kernel_rfl) (by kernel_rfl) (fun _ _ _ h => h) (Or.inl ⟨(by simp [Region.wanted]), ?_⟩) (hHeld) ?_
    rotate_left
    · (intro w hSw; (try dsimp only at hSw); ((go_simp) <;> (with_reducible rfl)))
    try simp only [Act.put]
    refine wpAnyH_take (i := 11) (v := ?_) rfl (by kernel_rfl) (by kernel_rfl) (by kernel_rfl) (fun _ _ _ h => h) (Or.inl ⟨(by simp [Region.wanted]), ?_⟩) (hHeld) ?_
    rotate_left
    · (intro w hSw; (try dsimp only at hSw); ((go_simp) <;> (with_reducible rfl)))
    try simp only [Act.put]
    refine wpAnyH_take (i := 12) (v := ?_) rfl (by kernel_rfl) (by kernel_rfl) (by kernel_rfl) (fun _ _ _ h => h) (Or.inl ⟨(by simp [Region.wanted]), ?_⟩) (hHeld) ?_
    rotate_left
    · (intro w hSw; (try dsimp only at hSw); ((go_simp) <;> (with_reducible rfl)))
    try simp only [Act.put]
    refine wpAnyH_ready (rs := [4, 13]) (by kernel_rfl) (by simp) ?_
    refine AllReadyH.cons rfl (fun K hK => ?_) (AllReadyH.cons rfl (fun K hK => ?_) AllReadyH.nil)
    · have J1 := JD.alloc (.cells #[.string key, .string ⟨#[]⟩, .int .i64 0, .int .i64 0] 24)
      have h4_1 : ((W.drew).alloc (.cells #[.string key, .string ⟨#[]⟩, .int .i64 0, .int .i64 0] 24)).heap[W.heap.size]? = _ := heap_al_at _ _ _ (by first | rfl | simp)
      go_simp
      refine hK.out _ _ J1.S (fun hHeld => ?_)
      clear hK K
      try simp only [Act.put, List.setIfInBounds_toArray, List.set_cons_zero, List.set_cons_succ]
      refine wpAnyH_ready (rs := [7, 13]) (by kernel_rfl) (by simp) ?_
      refine AllReadyH.cons rfl (fun K hK => ?_) (AllReadyH.cons rfl (fun K hK => ?_) AllReadyH.nil)
      · have J2 := J1.alloc (.cells #[.slice ad a.items.length ca, .slice (some ⟨W.heap.size, 0, none⟩) 1 1, .slice bd b.items.length cb] 25)
        have h7_2 : (((W.drew).alloc (.cells #[.string key, .string ⟨#[]⟩, .int .i64 0, .int .i64 0] 24)).alloc (.cells #[.slice ad a.items.length ca, .slice (some ⟨W.heap.size, 0, none⟩) 1 1, .slice bd b.items.length cb] 25)).heap[W.heap.size + 1]? = _ := heap_al_at _ _ _ (by first | rfl | simp)
        have h4_2 := k_al h4_1 (.cells #[.slice ad a.items.length ca, .slice (some ⟨W.heap.size, 0, none⟩) 1 1, .slice bd b.items.length cb] 25)
        go_simp
        refine hK.out _ _ J2.S (fun hHeld => ?_)
        clear hK K
        try simp only [Act.put, List.setIfInBounds_toArray, List.set_cons_zero, List.set_cons_succ]
        refine wpAnyH_ready (rs := [8, 13]) (by kernel_rfl) (by simp) ?_
        refine AllReadyH.cons rfl (fun K hK => ?_) (AllReadyH.cons rfl (fun K hK => ?_) AllReadyH.nil)
        · go_simp
          refine (HCC.out _ _ _ J2 h4_2 h7_2).mono ?_
          rintro e w8 ⟨v8, rfl, ho8, hb8⟩
          obtain ⟨a8, c8, hv8, -⟩ := ho8.its
          rw [HLi.out] at hv8
          subst hv8
          have J3 := J2.below hb8
          have h4_3 := (hb8.block _ (lt_of_heap h4_2)).trans h4_2
          have h7_3 := (hb8.block _ (lt_of_heap h7_2)).trans h7_2
          have ho8_0 := OwnC.low ho8 (show w.heap.size + 3 ≤ (((W.drew).alloc (.cells #[.string key, .string ⟨#[]⟩, .int .i64 0, .int .i64 0] 24)).alloc (.cells #[.slice ad a.items.length ca, .slice (some ⟨W.heap.size, 0, none⟩) 1 1, .slice bd b.items.length cb] 25)).heap.size by have := lt_of_heap J2.res; omega)
          try go_wp2_with fail
          refine hK.out _ _ J3.S (fun hHeld => ?_)
          clear hK K
          try simp only [Act.put, List.setIfInBounds_toArray, List.set_cons_zero, List.set_cons_succ]
          refine wpAnyH_ready (rs := [13]) (by kernel_rfl) (by simp) ?_
          refine AllReadyH.cons rfl (fun K hK => ?_) AllReadyH.nil
          have J4 := J3.alloc (.cells #[.slice kd a.kids.length da, .slice ld b.kids.length db] 26)
          have h13_4 : ((w8).alloc (.cells #[.slice kd a.kids.length da, .slice ld b.kids.length db] 26)).heap[w8.heap.size]? = _ := heap_al_at _ _ _ (by first | rfl | simp)
          have h4_4 := k_al h4_3 (.cells #[.slice kd a.kids.length da, .slice ld b.kids.length db] 26)
          have h7_4 := k_al h7_3 (.cells #[.slice kd a.kids.length da, .slice ld b.kids.length db] 26)
          go_simp
          refine hK.out _ _ J4.S (fun hHeld => ?_)
          clear hK K
          try simp only [Act.put, List.setIfInBounds_toArray, List.set_cons_zero, List.set_cons_succ]
          refine wpAnyH_ready (rs := [14]) (by kernel_rfl) (by simp) ?_
          refine AllReadyH.cons rfl (fun K hK => ?_) AllReadyH.nil
          go_simp
          refine (HCN.out _ _ J4 h13_4).mono ?_
          rintro e w9 ⟨v9, rfl, ho9, hb9⟩
          obtain ⟨a9, c9, hv9, -⟩ := ho9.ints
          rw [HLk.out] at hv9
          subst hv9
          have J5 := J4.below hb9
          have ho8_2 := OwnC.below (OwnC.alloc ho8_0 (.cells #[.slice kd a.kids.length da, .slice ld b.kids.length db] 26)) hb9 (Nat.le_refl _)
          have ho9_2 := OwnN.low ho9 (show w.heap.size + 3 ≤ ((w8).alloc (.cells #[.slice kd a.kids.length da, .slice ld b.kids.length db] 26)).heap.size by have := lt_of_heap J4.res; omega)
          obtain ⟨z0, z1, z2⟩ := cells3_of J5.res
          have zf := fun j => frozen_of_row w9 (w.heap.size + 2) j _ _ J5.res
          try go_wp2_with fail
          refine hK.out _ _ J5.S (fun hHeld => ?_)
          clear hK K
          try simp only [Act.put, List.setIfInBounds_toArray, List.set_cons_zero, List.set_cons_succ]
          refine wpAnyH_take (i := 15) (v := ?_) rfl (by kernel_rfl) (by kernel_rfl) (by kernel_rfl) (fun _ _ _ h => h) (Or.inl ⟨(by simp [Region.wanted]), ?_⟩) (hHeld) ?_
          rotate_left
          · (intro w hSw; (try dsimp only at hSw); ((go_simp) <;> (with_reducible rfl)))
          try simp only [Act.put, List.setIfInBounds_toArray]
          refine wpAnyH_ready (rs := [16]) (by kernel_rfl) (by simp) ?_
          refine AllReadyH.cons rfl (fun K hK => ?_) AllReadyH.nil
          go_simp
          refine hK.out _ _ (J5.st _ _ _) (fun hHeld => ?_)
          clear hK K
          try simp only [Act.put, List.setIfInBounds_toArray, List.set_cons_zero, List.set_cons_succ]
          refine wpAnyH_done (by kernel_rfl) ?_ _
          go_wp2
          obtain ⟨y0, y1, y2⟩ := cells3_of (heap_set3 J5.res (.bool false) (.slice a8 LI c8) (.slice a9 LK c9))
          have HF := Hfin.out w9 _ _ J5 ho8_2 ho9_2
          simp only [bodyPost, results, Try.results38]
          generalize ((w9.setCell ⟨w.heap.size + 2, 0, none⟩ (.bool false)).setCell ⟨w.heap.size + 2, 1, none⟩ (.slice a8 LI c8)).setCell ⟨w.heap.size + 2, 2, none⟩ (.slice a9 LK c9) = X2 at *
          simp [go_sem, y0, y1, y2]
          exact HF
        · have J3 := J2.alloc (.cells #[.slice kd a.kids.length da, .slice ld b.kids.length db] 26)
          have h13_3 : ((((W.drew).alloc (.cells #[.string key, .string ⟨#[]⟩, .int .i64 0, .int .i64 0] 24)).alloc (.cells #[.slice ad a.items.length ca, .slice (some ⟨W.heap.size, 0, none⟩) 1 1, .slice bd b.items.length cb] 25)).alloc (.cells #[.slice kd a.kids.length da, .slice ld b.kids.length db] 26)).heap[W.heap.size + 1 + 1]? = _ := heap_al_at _ _ _ (by first | rfl | simp)
          have h4_3 := k_al h4_2 (.cells #[.slice kd a.kids.length da, .slice ld b.kids.length db] 26)
          have h7_3 := k_al h7_2 (.cells #[.slice kd a.kids.length da, .slice ld b.kids.length db] 26)
          go_simp
          refine hK.out _ _ J3.S (fun hHeld => ?_)
          clear hK K
          try simp only [Act.put, List.setIfInBounds_toArray, List.set_cons_zero, List.set_cons_succ]
          refine wpAnyH_ready (rs := [8]) (by kernel_rfl) (by simp) ?_
          refine AllReadyH.cons rfl (fun K hK => ?_) AllReadyH.nil
          go_simp
          refine (HCC.out _ _ _ J3 h4_3 h7_3).mono ?_
          rintro e w8 ⟨v8, rfl, ho8, hb8⟩
          obtain ⟨a8, c8, hv8, -⟩ := ho8.its
          rw [HLi.out] at hv8
          subst hv8
          have J4 := J3.below hb8
          have h4_4 := (hb8.block _ (lt_of_heap h4_3)).trans h4_3
          have h7_4 := (hb8.block _ (lt_of_heap h7_3)).trans h7_3
          have h13_4 := (hb8.block _ (lt_of_heap h13_3)).trans h13_3
          have ho8_0 := OwnC.low ho8 (show w.heap.size + 3 ≤ ((((W.drew).alloc (.cells #[.string key, .string ⟨#[]⟩, .int .i64 0, .int .i64 0] 24)).alloc (.cells #[.slice ad a.items.length ca, .slice (some ⟨W.heap.size, 0, none⟩) 1 1, .slice bd b.items.length cb] 25)).alloc (.cells #[.slice kd a.kids.length da, .slice ld b.kids.length db] 26)).heap.size by have := lt_of_heap J3.res; omega)
          try go_wp2_with fail
          refine hK.out _ _ J4.S (fun hHeld => ?_)
          clear hK K
          try simp only [Act.put, List.setIfInBounds_toArray, List.set_cons_zero, List.set_cons_succ]
          refine wpAnyH_ready (rs := [14]) (by kernel_rfl) (by simp) ?_
          refine AllReadyH.cons rfl (fun K hK => ?_) AllReadyH.nil
          go_simp
          refine (HCN.out _ _ J4 h13_4).mono ?_
          rintro e w9 ⟨v9, rfl, ho9, hb9⟩
          obtain ⟨a9, c9, hv9, -⟩ := ho9.ints
          rw [HLk.out] at hv9
          subst hv9
          have J5 := J4.below hb9
          have ho8_2 := OwnC.below ho8_0 hb9 (Nat.le_refl _)
          have ho9_2 := OwnN.low ho9 (show w.heap.size + 3 ≤ (w8).heap.size by have := lt_of_heap J4.res; omega)
          obtain ⟨z0, z1, z2⟩ := cells3_of J5.res
          have zf := fun j => frozen_of_row w9 (w.heap.size + 2) j _ _ J5.res
          try go_wp2_with fail
          refine hK.out _ _ J5.S (fun hHeld => ?_)
          clear hK K
          try simp only [Act.put, List.setIfInBounds_toArray, List.set_cons_zero, List.set_cons_succ]
          refine wpAnyH_take (i := 15) (v := ?_) rfl (by kernel_rfl) (by kernel_rfl) (by kernel_rfl) (fun _ _ _ h => h) (Or.inl ⟨(by simp [Region.wanted]), ?_⟩) (hHeld) ?_
          rotate_left
          · (intro w hSw; (try dsimp only at hSw); ((go_simp) <;> (with_reducible rfl)))
          try simp only [Act.put, List.setIfInBounds_toArray]
          refine wpAnyH_ready (rs := [16]) (by kernel_rfl) (by simp) ?_
          refine AllReadyH.cons rfl (fun K hK => ?_) AllReadyH.nil
          go_simp
          refine hK.out _ _ (J5.st _ _ _) (fun hHeld => ?_)
          clear hK K
          try simp only [Act.put, List.setIfInBounds_toArray, List.set_cons_zero, List.set_cons_succ]
          refine wpAnyH_done (by kernel_rfl) ?_ _
          go_wp2
          obtain ⟨y0, y1, y2⟩ := cells3_of (heap_set3 J5.res (.bool false) (.slice a8 LI c8) (.slice a9 LK c9))
          have HF := Hfin.out w9 _ _ J5 ho8_2 ho9_2
          simp only [bodyPost, results, Try.results38]
          generalize ((w9.setCell ⟨w.heap.size + 2, 0, none⟩ (.bool false)).setCell ⟨w.heap.size + 2, 1, none⟩ (.slice a8 LI c8)).setCell ⟨w.heap.size + 2, 2, none⟩ (.slice a9 LK c9) = X2 at *
          simp [go_sem, y0, y1, y2]
          exact HF
      · have J2 := J1.alloc (.cells #[.slice kd a.kids.length da, .slice ld b.kids.length db] 26)
        have h13_2 : (((W.drew).alloc (.cells #[.string key, .string ⟨#[]⟩, .int .i64 0, .int .i64 0] 24)).alloc (.cells #[.slice kd a.kids.length da, .slice ld b.kids.length db] 26)).heap[W.heap.size + 1]? = _ := heap_al_at _ _ _ (by first | rfl | simp)
        have h4_2 := k_al h4_1 (.cells #[.slice kd a.kids.length da, .slice ld b.kids.length db] 26)
        go_simp
        refine hK.out _ _ J2.S (fun hHeld => ?_)
        clear hK K
        try simp only [Act.put, List.setIfInBounds_toArray, List.set_cons_zero, List.set_cons_succ]
        refine wpAnyH_ready (rs := [7]) (by kernel_rfl) (by simp) ?_
        refine AllReadyH.cons rfl (fun K hK => ?_) AllReadyH.nil
        have J3 := J2.alloc (.cells #[.slice ad a.items.length ca, .slice (some ⟨W.heap.size, 0, none⟩) 1 1, .slice bd b.items.length cb] 25)
        have h7_3 : ((((W.drew).alloc (.cells #[.string key, .string ⟨#[]⟩, .int .i64 0, .int .i64 0] 24)).alloc (.cells #[.slice kd a.kids.length da, .slice ld b.kids.length db] 26)).alloc (.cells #[.slice ad a.items.length ca, .slice (some ⟨W.heap.size, 0, none⟩) 1 1, .slice bd b.items.length cb] 25)).heap[W.heap.size + 1 + 1]? = _ := heap_al_at _ _ _ (by first | rfl | simp)
        have h4_3 := k_al h4_2 (.cells #[.slice ad a.items.length ca, .slice (some ⟨W.heap.size, 0, none⟩) 1 1, .slice bd b.items.length cb] 25)
        have h13_3 := k_al h13_2 (.cells #[.slice ad a.items.length ca, .slice (some ⟨W.heap.size, 0, none⟩) 1 1, .slice bd b.items.length cb] 25)
        go_simp
        refine hK.out _ _ J3.S (fun hHeld => ?_)
        clear hK K
        try simp only [Act.put, List.setIfInBounds_toArray, List.set_cons_zero, List.set_cons_succ]
        refine wpAnyH_ready (rs := [8]) (by kernel_rfl) (by simp) ?_
        refine AllReadyH.cons rfl (fun K hK => ?_) AllReadyH.nil
        go_simp
        refine (HCC.out _ _ _ J3 h4_3 h7_3).mono ?_
        rintro e w8 ⟨v8, rfl, ho8, hb8⟩
        obtain ⟨a8, c8, hv8, -⟩ := ho8.its
        rw [HLi.out] at hv8
        subst hv8
        have J4 := J3.below hb8
        have h4_4 := (hb8.block _ (lt_of_heap h4_3)).trans h4_3
        have h7_4 := (hb8.block _ (lt_of_heap h7_3)).trans h7_3
        have h13_4 := (hb8.block _ (lt_of_heap h13_3)).trans h13_3
        have ho8_0 := OwnC.low ho8 (show w.heap.size + 3 ≤ ((((W.drew).alloc (.cells #[.string key, .string ⟨#[]⟩, .int .i64 0, .int .i64 0] 24)).alloc (.cells #[.slice kd a.kids.length da, .slice ld b.kids.length db] 26)).alloc (.cells #[.slice ad a.items.length ca, .slice (some ⟨W.heap.size, 0, none⟩) 1 1, .slice bd b.items.length cb] 25)).heap.size by have := lt_of_heap J3.res; omega)
        try go_wp2_with fail
        refine hK.out _ _ J4.S (fun hHeld => ?_)
        clear hK K
        try simp only [Act.put, List.setIfInBounds_toArray, List.set_cons_zero, List.set_cons_succ]
        refine wpAnyH_ready (rs := [14]) (by kernel_rfl) (by simp) ?_
        refine AllReadyH.cons rfl (fun K hK => ?_) AllReadyH.nil
        go_simp
        refine (HCN.out _ _ J4 h13_4).mono ?_
        rintro e w9 ⟨v9, rfl, ho9, hb9⟩
        obtain ⟨a9, c9, hv9, -⟩ := ho9.ints
        rw [HLk.out] at hv9
        subst hv9
        have J5 := J4.below hb9
        have ho8_2 := OwnC.below ho8_0 hb9 (Nat.le_refl _)
        have ho9_2 := OwnN.low ho9 (show w.heap.size + 3 ≤ (w8).heap.size by have := lt_of_heap J4.res; omega)
        obtain ⟨z0, z1, z2⟩ := cells3_of J5.res
        have zf := fun j => frozen_of_row w9 (w.heap.size + 2) j _ _ J5.res
        try go_wp2_with fail
        refine hK.out _ _ J5.S (fun hHeld => ?_)
        clear hK K
        try simp only [Act.put, List.setIfInBounds_toArray, List.set_cons_zero, List.set_cons_succ]
        refine wpAnyH_take (i := 15) (v := ?_) rfl (by kernel_rfl) (by kernel_rfl) (by kernel_rfl) (fun _ _ _ h => h) (Or.inl ⟨(by simp [Region.wanted]), ?_⟩) (hHeld) ?_
        rotate_left
        · (intro w hSw; (try dsimp only at hSw); ((go_simp) <;> (with_reducible rfl)))
        try simp only [Act.put, List.setIfInBounds_toArray]
        refine wpAnyH_ready (rs := [16]) (by kernel_rfl) (by simp) ?_
        refine AllReadyH.cons rfl (fun K hK => ?_) AllReadyH.nil
        go_simp
        refine hK.out _ _ (J5.st _ _ _) (fun hHeld => ?_)
        clear hK K
        try simp only [Act.put, List.setIfInBounds_toArray, List.set_cons_zero, List.set_cons_succ]
        refine wpAnyH_done (by kernel_rfl) ?_ _
        go_wp2
        obtain ⟨y0, y1, y2⟩ := cells3_of (heap_set3 J5.res (.bool false) (.slice a8 LI c8) (.slice a9 LK c9))
        have HF := Hfin.out w9 _ _ J5 ho8_2 ho9_2
        simp only [bodyPost, results, Try.results38]
        generalize ((w9.setCell ⟨w.heap.size + 2, 0, none⟩ (.bool false)).setCell ⟨w.heap.size + 2, 1, none⟩ (.slice a8 LI c8)).setCell ⟨w.heap.size + 2, 2, none⟩ (.slice a9 LK c9) = X2 at *
        simp [go_sem, y0, y1, y2]
        exact HF
    · have J1 := JD.alloc (.cells #[.slice kd a.kids.length da, .slice ld b.kids.length db] 26)
      have h13_1 : ((W.drew).alloc (.cells #[.slice kd a.kids.length da, .slice ld b.kids.length db] 26)).heap[W.heap.size]? = _ := heap_al_at _ _ _ (by first | rfl | simp)
      go_simp
      refine hK.out _ _ J1.S (fun hHeld => ?_)
      clear hK K
      try simp only [Act.put, List.setIfInBounds_toArray, List.set_cons_zero, List.set_cons_succ]
      refine wpAnyH_ready (rs := [4]) (by kernel_rfl) (by simp) ?_
      refine AllReadyH.cons rfl (fun K hK => ?_) AllReadyH.nil
      have J2 := J1.alloc (.cells #[.string key, .string ⟨#[]⟩, .int .i64 0, .int .i64 0] 24)
      have h4_2 : (((W.drew).alloc (.cells #[.slice kd a.kids.length da, .slice ld b.kids.length db] 26)).alloc (.cells #[.string key, .string ⟨#[]⟩, .int .i64 0, .int .i64 0] 24)).heap[W.heap.size + 1]? = _ := heap_al_at _ _ _ (by first | rfl | simp)
      have h13_2 := k_al h13_1 (.cells #[.string key, .string ⟨#[]⟩, .int .i64 0, .int .i64 0] 24)
      go_simp
      refine hK.out _ _ J2.S (fun hHeld => ?_)
      clear hK K
      try simp only [Act.put, List.setIfInBounds_toArray, List.set_cons_zero, List.set_cons_succ]
      refine wpAnyH_ready (rs := [7]) (by kernel_rfl) (by simp) ?_
      refine AllReadyH.cons rfl (fun K hK => ?_) AllReadyH.nil
      have J3 := J2.alloc (.cells #[.slice ad a.items.length ca, .slice (some ⟨W.heap.size + 1, 0, none⟩) 1 1, .slice bd b.items.length cb] 25)
      have h7_3 : ((((W.drew).alloc (.cells #[.slice kd a.kids.length da, .slice ld b.kids.length db] 26)).alloc (.cells #[.string key, .string ⟨#[]⟩, .int .i64 0, .int .i64 0] 24)).alloc (.cells #[.slice ad a.items.length ca, .slice (some ⟨W.heap.size + 1, 0, none⟩) 1 1, .slice bd b.items.length cb] 25)).heap[W.heap.size + 1 + 1]? = _ := heap_al_at _ _ _ (by first | rfl | simp)
      have h4_3 := k_al h4_2 (.cells #[.slice ad a.items.length ca, .slice (some ⟨W.heap.size + 1, 0, none⟩) 1 1, .slice bd b.items.length cb] 25)
      have h13_3 := k_al h13_2 (.cells #[.slice ad a.items.length ca, .slice (some ⟨W.heap.size + 1, 0, none⟩) 1 1, .slice bd b.items.length cb] 25)
      go_simp
      refine hK.out _ _ J3.S (fun hHeld => ?_)
      clear hK K
      try simp only [Act.put, List.setIfInBounds_toArray, List.set_cons_zero, List.set_cons_succ]
      refine wpAnyH_ready (rs := [8]) (by kernel_rfl) (by simp) ?_
      refine AllReadyH.cons rfl (fun K hK => ?_) AllReadyH.nil
      go_simp
      refine (HCC.out _ _ _ J3 h4_3 h7_3).mono ?_
      rintro e w8 ⟨v8, rfl, ho8, hb8⟩
      obtain ⟨a8, c8, hv8, -⟩ := ho8.its
      rw [HLi.out] at hv8
      subst hv8
      have J4 := J3.below hb8
      have h4_4 := (hb8.block _ (lt_of_heap h4_3)).trans h4_3
      have h7_4 := (hb8.block _ (lt_of_heap h7_3)).trans h7_3
      have h13_4 := (hb8.block _ (lt_of_heap h13_3)).trans h13_3
      have ho8_0 := OwnC.low ho8 (show w.heap.size + 3 ≤ ((((W.drew).alloc (.cells #[.slice kd a.kids.length da, .slice ld b.kids.length db] 26)).alloc (.cells #[.string key, .string ⟨#[]⟩, .int .i64 0, .int .i64 0] 24)).alloc (.cells #[.slice ad a.items.length ca, .slice (some ⟨W.heap.size + 1, 0, none⟩) 1 1, .slice bd b.items.length cb] 25)).heap.size by have := lt_of_heap J3.res; omega)
      try go_wp2_with fail
      refine hK.out _ _ J4.S (fun hHeld => ?_)
      clear hK K
      try simp only [Act.put, List.setIfInBounds_toArray, List.set_cons_zero, List.set_cons_succ]
      refine wpAnyH_ready (rs := [14]) (by kernel_rfl) (by simp) ?_
      refine AllReadyH.cons rfl (fun K hK => ?_) AllReadyH.nil
      go_simp
      refine (HCN.out _ _ J4 h13_4).mono ?_
      rintro e w9 ⟨v9, rfl, ho9, hb9⟩
      obtain ⟨a9, c9, hv9, -⟩ := ho9.ints
      rw [HLk.out] at hv9
      subst hv9
      have J5 := J4.below hb9
      have ho8_2 := OwnC.below ho8_0 hb9 (Nat.le_refl _)
      have ho9_2 := OwnN.low ho9 (show w.heap.size + 3 ≤ (w8).heap.size by have := lt_of_heap J4.res; omega)
      obtain ⟨z0, z1, z2⟩ := cells3_of J5.res
      have zf := fun j => frozen_of_row w9 (w.heap.size + 2) j _ _ J5.res
      try go_wp2_with fail
      refine hK.out _ _ J5.S (fun hHeld => ?_)
      clear hK K
      try simp only [Act.put, List.setIfInBounds_toArray, List.set_cons_zero, List.set_cons_succ]
      refine wpAnyH_take (i := 15) (v := ?_) rfl (by kernel_rfl) (by kernel_rfl) (by kernel_rfl) (fun _ _ _ h => h) (Or.inl ⟨(by simp [Region.wanted]), ?_⟩) (hHeld) ?_
      rotate_left
      · (intro w hSw; (try dsimp only at hSw); ((go_simp) <;> (with_reducible rfl)))
      try simp only [Act.put, List.setIfInBounds_toArray]
      refine wpAnyH_ready (rs := [16]) (by kernel_rfl) (by simp) ?_
      refine AllReadyH.cons rfl (fun K hK => ?_) AllReadyH.nil
      go_simp
      refine hK.out _ _ (J5.st _ _ _) (fun hHeld => ?_)
      clear hK K
      try simp only [Act.put, List.setIfInBounds_toArray, List.set_cons_zero, List.set_cons_succ]
      refine wpAnyH_done (by kernel_rfl) ?_ _
      go_wp2
      obtain ⟨y0, y1, y2⟩ := cells3_of (heap_set3 J5.res (.bool false) (.slice a8 LI c8) (.slice a9 LK c9))
      have HF := Hfin.out w9 _ _ J5 ho8_2 ho9_2
      simp only [bodyPost, results, Try.results38]
      generalize ((w9.setCell ⟨w.heap.size + 2, 0, none⟩ (.bool false)).setCell ⟨w.heap.size + 2, 1, none⟩ (.slice a8 LI c8)).setCell ⟨w.heap.size + 2, 2, none⟩ (.slice a9 LK c9) = X2 at *
      simp [go_sem, y0, y1, y2]
      exact HF

end Go.Proofs.Ytplfcpbjlhobeaa
