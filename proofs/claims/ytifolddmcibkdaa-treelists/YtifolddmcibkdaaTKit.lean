/-
  TREES IN MEMORY: the document's.
-/
import Derived.Test.YtifolddmcibkdaaTMath
import Derived.Test.YtifolddmcibkdaaStR
import Derived.Test.YtifolddmcibkdaaTurn
namespace Go.Proofs.Ytifolddmcibkdaa
open Go.RowKit

/-- rows of files -/
def FlR : Rc Tm.Fl where
  e := 67
  st := 34
  k := 2
  bytes := 32
  z := .agg #[.string .empty, .string .empty]
  enc f := [.string f.path, .string f.text]
  pos := by decide
  len _ := rfl
  one f u hu := by
    simp only [List.mem_cons, List.not_mem_nil, or_false] at hu
    rcases hu with rfl | rfl <;> rfl
  info := by kernel_rfl
  under := Try.underlying34
  zk := rfl
  small := by decide

/-- block g is the document's tree t; its blocks are S -/
def HasR (w : World) (g : Nat) (t : Tm.T) (S : List Nat) : Prop :=
  ∃ vf vc ty, w.heap[g]? = some (.cells #[vf, vc] ty (0, 0)) ∧ (ty ≠ 9 ∧ ty ≠ 67) ∧ FlR.Own w 0 vf t.files ∧ StR.Own w 0 vc t.chs ∧ S = g :: (vf.ownBlock.toList ++ vc.ownBlock.toList)

theorem Rc.Own.turn {α : Type} {R : Rc α} {w w' : World} {base : Nat} {v : Value} {l : List α} {S : List Nat} (h : R.Own w base v l) (ht : Turn S w w') (hs : ∀ g, v.ownBlock = some g → g ∉ S) : R.Own w' base v l := Row.turn h ht hs
theorem HasR.turn {w w' : World} {g : Nat} {t : Tm.T} {S S' : List Nat} (h : HasR w g t S) (ht : Turn S' w w') (hd : ∀ b ∈ S, b ∉ S') : HasR w' g t S := by
  obtain ⟨vf, vc, ty, hb, hty, hf, hc, rfl⟩ := h
  have hg : g < w.heap.size := (Array.getElem?_eq_some_iff.1 hb).1
  refine ⟨vf, vc, ty, (ht.block g hg (hd g (by simp))).trans hb, hty, hf.turn ht fun b e => hd b (by simp [e]), hc.turn ht fun b e => hd b (by simp [e]), rfl⟩
theorem HasR.below {w w' : World} {g : Nat} {t : Tm.T} {S : List Nat} (h : HasR w g t S) (hb : Below w.heap.size w w') : HasR w' g t S := h.turn (Turn.of_below hb) (by simp)
theorem HasR.keep {w w' : World} {g : Nat} {t : Tm.T} {S : List Nat} (h : HasR w g t S) (hk : ∀ b ∈ S, w'.heap[b]? = w.heap[b]?) : HasR w' g t S := by
  obtain ⟨vf, vc, ty, hb, hty, hf, hc, rfl⟩ := h
  have own : ∀ {e : TypeId} {size n : Nat} {v : Value} {xs : List Value}, w.ownsRow 0 e size v n xs → (∀ g, v.ownBlock = some g → w'.heap[g]? = w.heap[g]?) → w'.ownsRow 0 e size v n xs := fun h hg => by
    refine ⟨h.1, ?_⟩
    rcases h.2 with h | ⟨g, cap, cur, rfl, h2, h3, h4⟩
    · exact .inl h
    · exact .inr ⟨g, cap, cur, rfl, h2, (hg g rfl).trans h3, h4⟩
  exact ⟨vf, vc, ty, (hk g (by simp)).trans hb, hty, own hf fun b e => hk b (by simp [e]), own hc fun b e => hk b (by simp [e]), rfl⟩
theorem HasR.lt {w : World} {g : Nat} {t : Tm.T} {S : List Nat} (h : HasR w g t S) : ∀ b ∈ S, b < w.heap.size := by
  obtain ⟨vf, vc, ty, hb, hty, hf, hc, rfl⟩ := h
  intro b hm
  simp only [List.mem_cons, List.mem_append, Option.mem_toList] at hm
  rcases hm with rfl | h | h
  · exact (Array.getElem?_eq_some_iff.1 hb).1
  · exact (hf.lt b h).2
  · exact (hc.lt b h).2

theorem set_row {w : World} {g j : Nat} {cs : Array Value} {ty : TypeId} {fr : Nat × Nat} (h : w.heap[g]? = some (.cells cs ty fr)) (v : Value) : (w.setCell ⟨g, j, none⟩ v).heap[g]? = some (.cells (cs.setIfInBounds j v) ty fr) := by
  have hlt : g < w.heap.size := (Array.getElem?_eq_some_iff.1 h).1
  simp only [World.setCell]
  rw [Array.getElem?_modify]
  simp [h]

/-- a tree whose files are laid anew, with one change more -/
theorem HasR.after {w w6 w9 : World} {g : Nat} {t : Tm.T} {S : List Nat} {vf vc v3 : Value} {ty : TypeId} {F : List Tm.Fl} {p : ByteArray} {gc cap : Nat}
    (hb : w.heap[g]? = some (.cells #[vf, vc] ty (0, 0))) (hty : ty ≠ 9 ∧ ty ≠ 67) (hc : StR.Own w 0 vc t.chs) (hS : S = g :: (vf.ownBlock.toList ++ vc.ownBlock.toList))
    (hB : Below w.heap.size w w6) (h3 : FlR.Own w6 w.heap.size v3 F) (hg : ((w6.setCell ⟨g, 0, none⟩ v3).alloc (.cells #[.string p] 9)).grownBy w9 vc.ownBlock)
    (h4 : StR.Own w9 0 (.slice (some ⟨gc, 0, none⟩) (t.chs.length + 1) cap) (t.chs ++ [p])) (hat : vc.ownBlock = some gc ∨ gc = ((w6.setCell ⟨g, 0, none⟩ v3).alloc (.cells #[.string p] 9)).heap.size) :
    ∃ S', HasR (w9.setCell ⟨g, 1, none⟩ (.slice (some ⟨gc, 0, none⟩) (t.chs.length + 1) cap)) g ⟨F, t.chs ++ [p]⟩ S' ∧ (∀ b ∈ S', b ∈ S ∨ w.heap.size ≤ b) ∧ Turn S w (w9.setCell ⟨g, 1, none⟩ (.slice (some ⟨gc, 0, none⟩) (t.chs.length + 1) cap)) := by
  have hgl : g < w.heap.size := (Array.getElem?_eq_some_iff.1 hb).1
  have hne : vc.ownBlock ≠ some g := fun e => Row.ne hc hb hty.1 e rfl
  have h3l := h3.lt
  have hcl := hc.lt
  have hz6 := hB.size
  have hz8 : ((w6.setCell ⟨g, 0, none⟩ v3).alloc (.cells #[.string p] 9)).heap.size = w6.heap.size + 1 := by rw [World.size_alloc]; simp [World.setCell]
  have b7 := set_row (j := 0) ((hB.block g hgl).trans hb) v3
  have b9 := (hg.block g (by omega) (fun e => hne e.symm)).trans ((Below.heap_alloc (w6.setCell ⟨g, 0, none⟩ v3) (.cells #[.string p] 9) g (by simp [World.setCell]; omega)).trans b7)
  have b10 := set_row (j := 1) b9 (.slice (some ⟨gc, 0, none⟩) (t.chs.length + 1) cap)
  have hT9 : Turn (g :: vc.ownBlock.toList) w6 w9 := (((Turn.refl _ w6).set (fun _ => by simp) v3).alloc _).grow hg (fun x hx _ => by simp [hx])
  have hTs : Turn [g] w9 (w9.setCell ⟨g, 1, none⟩ (.slice (some ⟨gc, 0, none⟩) (t.chs.length + 1) cap)) := (Turn.refl _ w9).set (fun _ => by simp) _
  have hT10 : Turn (g :: vc.ownBlock.toList) w6 (w9.setCell ⟨g, 1, none⟩ (.slice (some ⟨gc, 0, none⟩) (t.chs.length + 1) cap)) := hT9.trans hTs (fun x hx _ => by simp at hx; simp [hx])
  refine ⟨g :: (v3.ownBlock.toList ++ [gc]), ⟨v3, _, ty, b10, hty, ?_, ?_, rfl⟩, ?_, ?_⟩
  · refine Rc.Own.low (Rc.Own.turn h3 hT10 fun k hk hm => ?_) (Nat.zero_le _)
    have h1 := (h3l k hk).1
    simp only [List.mem_cons, Option.mem_toList] at hm
    rcases hm with rfl | hm
    · omega
    · have := (hcl k hm).2; omega
  · refine Rc.Own.turn h4 hTs fun k hk hm => ?_
    simp only [Value.ownBlock, Option.some.injEq] at hk
    simp only [List.mem_singleton] at hm
    subst hk
    rcases hat with e | e
    · exact hne (by rw [e, hm])
    · omega
  · intro b hm
    simp only [List.mem_cons, List.mem_append, Option.mem_toList, List.not_mem_nil, or_false] at hm
    rcases hm with rfl | hm | rfl
    · left; rw [hS]; simp
    · right; exact (h3l b hm).1
    · rcases hat with e | e
      · left; rw [hS]; simp [e]
      · right; omega
  · refine (Turn.of_below hB).mono (S' := S) (by simp) |>.trans hT10 fun x hx hl => ?_
    rw [hS]
    simp only [List.mem_cons, Option.mem_toList, List.mem_append] at hx ⊢
    rcases hx with h | h
    · exact .inl h
    · exact .inr (.inr h)

theorem HasR.new (w : World) : HasR (w.alloc (.cells #[.slice none 0 0, .slice none 0 0] 37)) w.heap.size Tm.T.zero [w.heap.size] :=
  ⟨_, _, _, heap_alloc_new w _, by decide, Rc.Own.nil _ _, Rc.Own.nil _ _, rfl⟩

end Go.Proofs.Ytifolddmcibkdaa
