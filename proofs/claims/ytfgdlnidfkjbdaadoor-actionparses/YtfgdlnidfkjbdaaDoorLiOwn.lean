/-
  LINES THAT A CALL LAYS ITSELF: rows of its own, each line a row of its own.
-/
import Derived.Test.YtfgdlnidfkjbdaaDoorAWorks
namespace Go.Proofs.YtfgdlnidfkjbdaaDoor
open Go.RowKit

/-- lines, each laid by itself -/
def LiN (w : World) (base : Nat) : List (List (List UInt8)) → List RawT → Prop
  | [], rs => rs = []
  | a :: t, rs => ∃ g cs rs', rs = ⟨some ⟨g, 0, none⟩, a.length, a.length⟩ :: rs' ∧ Rw w g cs 9 ∧ base ≤ g ∧ cs.toList = TxR.vals a ∧ LiN w base t rs'
/-- a row of them -/
def LiO (w : World) (base : Nat) (v : Value) (ls : List (List (List UInt8))) : Prop := ∃ rs, LiR.Own w base v rs ∧ LiN w base ls rs
theorem LiN.len {w : World} {base : Nat} : ∀ {ls : List (List (List UInt8))} {rs : List RawT}, LiN w base ls rs → rs.length = ls.length
  | [], _, h => by rw [h]; rfl
  | _ :: _, _, ⟨_, _, _, h1, _, _, _, h5⟩ => by rw [h1, List.length_cons, LiN.len h5]; rfl
theorem LiN.turn {w w' : World} {base : Nat} {S : List Nat} (hT : Turn S w w') (hS : ∀ x ∈ S, x < base ∨ ∃ cs t, Rw w x cs t ∧ t ≠ 9) : ∀ {ls : List (List (List UInt8))} {rs : List RawT}, LiN w base ls rs → LiN w' base ls rs
  | [], _, h => h
  | _ :: _, _, ⟨g, cs, rs', h1, h2, h3, h4, h5⟩ => by
    refine ⟨g, cs, rs', h1, h2.turn hT fun hx => ?_, h3, h4, LiN.turn hT hS h5⟩
    rcases hS g hx with h | ⟨cs', t, hR, ht⟩
    · omega
    · have e : some (Obj.cells cs' t (0, 0)) = some (Obj.cells cs 9 (0, 0)) := (show _ = _ from hR).symm.trans h2
      simp only [Option.some.injEq, Obj.cells.injEq] at e
      exact ht e.2.1
theorem LiN.app {w : World} {base : Nat} : ∀ {ls ms : List (List (List UInt8))} {rs qs : List RawT}, LiN w base ls rs → LiN w base ms qs → LiN w base (ls ++ ms) (rs ++ qs)
  | [], _, _, _, h, k => by rw [show _ = _ from h]; exact k
  | _ :: _, _, _, _, ⟨g, cs, rs', h1, h2, h3, h4, h5⟩, k => by
    rw [h1]
    exact ⟨g, cs, rs' ++ _, rfl, h2, h3, h4, LiN.app h5 k⟩
theorem LiN.low {w : World} {base base' : Nat} (hb : base' ≤ base) : ∀ {ls : List (List (List UInt8))} {rs : List RawT}, LiN w base ls rs → LiN w base' ls rs
  | [], _, h => h
  | _ :: _, _, ⟨g, cs, rs', h1, h2, h3, h4, h5⟩ => ⟨g, cs, rs', h1, h2, Nat.le_trans hb h3, h4, LiN.low hb h5⟩
theorem LiN.row {w : World} {base : Nat} : ∀ {ls : List (List (List UInt8))} {rs : List RawT}, LiN w base ls rs → LiRow w w.heap.size ls rs
  | [], _, h => h
  | _ :: _, _, ⟨_, _, rs', h1, h2, _, h4, h5⟩ => ⟨_, rs', h1, Rc.ofRw h2 h4 rfl h2.lt, LiN.row h5⟩
theorem LiO.liS {w : World} {base : Nat} {v : Value} {ls : List (List (List UInt8))} (h : LiO w base v ls) : LiS w w.heap.size v ls := by
  obtain ⟨rs, h1, h2⟩ := h
  exact ⟨rs, h1.sl, h2.row⟩
theorem LiO.nil (w : World) (base : Nat) : LiO w base (.slice none 0 0) [] := ⟨[], Rc.Own.nil _ _, rfl⟩
/-- lines stay where blocks below them turn -/
theorem LiO.turn {w w' : World} {base : Nat} {v : Value} {ls : List (List (List UInt8))} {S : List Nat} (h : LiO w base v ls) (hT : Turn S w w') (hS : ∀ x ∈ S, x < base) : LiO w' base v ls := by
  obtain ⟨rs, h1, h2⟩ := h
  exact ⟨rs, Row.turn h1 hT (fun g hg hx => by have := (h1.lt g hg).1; have := hS g hx; omega), h2.turn hT fun x hx => .inl (hS x hx)⟩
theorem LiO.below {w w' : World} {base : Nat} {v : Value} {ls : List (List (List UInt8))} (h : LiO w base v ls) (hb : Below w.heap.size w w') : LiO w' base v ls := h.turn (Turn.of_below hb) (by simp)
/-- the block of a row -/
theorem own_rw {α : Type} {R : Rc α} {w : World} {base : Nat} {v : Value} {l : List α} (h : R.Own w base v l) {g : Nat} (hg : v.ownBlock = some g) : ∃ cs, Rw w g cs R.e := by
  rcases h.2 with ⟨rfl, _⟩ | ⟨g', cap, cur, rfl, _, h3, _⟩
  · cases hg
  · simp only [Value.ownBlock, Option.some.injEq] at hg
    subst hg
    exact ⟨cur, h3⟩
theorem Own.litN {α : Type} {R : Rc α} (w : World) (base n : Nat) (cs : Array Value) (l : List α) (hb : base ≤ w.heap.size) (hn : n = l.length) (hm : n ≤ 1099511627) (hcs : cs.toList = R.vals l) : R.Own (w.alloc (.cells cs R.e)) base (.slice (some ⟨w.heap.size, 0, none⟩) n n) l := by
  subst hn
  have h := World.ownsRow_lit (base := base) (e := R.e) (size := R.k) w cs l.length hb (by unfold maxLen; omega) (by rw [← Array.length_toList, hcs, R.vals_length])
  unfold Rc.Own
  rw [← hcs]
  exact h
/-- a line laid behind others -/
theorem LiN.push {w W' : World} {base n : Nat} {v : Value} {ls : List (List (List UInt8))} {line : List (List UInt8)} {cs : Array Value} {rs : List RawT} (hO : LiR.Own w base v rs) (hN : LiN w base ls rs) (hb : base ≤ w.heap.size) (hcs : cs.toList = TxR.vals line) (hn : n = line.length)
    (hG : ((w.alloc (.cells cs 9)).alloc (.cells #[.slice (some ⟨w.heap.size, 0, none⟩) n n] 32)).grownBy W' v.ownBlock) :
    LiN W' base (ls ++ [line]) (rs ++ [⟨some ⟨w.heap.size, 0, none⟩, n, n⟩]) ∧ Turn v.ownBlock.toList w W' := by
  subst hn
  have hT0 := ((Turn.refl v.ownBlock.toList w).alloc (.cells cs 9)).alloc (.cells #[.slice (some ⟨w.heap.size, 0, none⟩) line.length line.length] 32)
  have hT1 := Turn.of_grown hG
  have hT := hT0.trans hT1 (fun _ hx _ => hx)
  have r0 := (Rw.new w cs 9).alloc (.cells #[.slice (some ⟨w.heap.size, 0, none⟩) line.length line.length] 32)
  have r1 := r0.turn hT1 (fun hx => by
    cases hv : v.ownBlock with
    | none => rw [hv] at hx; simp at hx
    | some g =>
      rw [hv] at hx
      simp only [Option.toList_some, List.mem_cons, List.not_mem_nil, or_false] at hx
      have := (hO.lt g hv).2
      omega)
  refine ⟨(hN.turn hT fun x hx => .inr ?_).app ⟨w.heap.size, cs, [], rfl, r1, hb, hcs, rfl⟩, hT⟩
  cases hv : v.ownBlock with
  | none => rw [hv] at hx; simp at hx
  | some g =>
    rw [hv] at hx
    simp only [Option.toList_some, List.mem_cons, List.not_mem_nil, or_false] at hx
    subst hx
    obtain ⟨cs', h⟩ := own_rw hO hv
    exact ⟨cs', _, h, by decide⟩

end Go.Proofs.YtfgdlnidfkjbdaaDoor
