/-
  WHAT THE LANDED CODE's taker AND ITS CLOSURE DO.
-/
import Derived.Test.YtfgdlnidfkjbdaaDoorALineR
namespace Go.Proofs.YtfgdlnidfkjbdaaDoor
open Go.RowKit

/-- the taker's two boxes: the lines, how many were taken -/
structure TkW (w : World) (B gl gt : Nat) (v : Value) (ls : List (List (List UInt8))) (k : Nat) : Prop where
  lines : Rw w gl #[v] 22
  taken : Rw w gt #[.int .i64 (k : Int)] 3
  lies : LiS w B v ls
  ne : gl ≠ gt
  up : B ≤ gl ∧ B ≤ gt
theorem TkW.below {w w' : World} {B gl gt X : Nat} {v : Value} {ls : List (List (List UInt8))} {k : Nat} (h : TkW w B gl gt v ls k) (hb : Below X w w') (hX : gl < X ∧ gt < X) : TkW w' B gl gt v ls k :=
  ⟨h.lines.below hb hX.1, h.taken.below hb hX.2, h.lies.below hb (by have := h.up; omega), h.ne, h.up⟩
theorem TkW.set {w : World} {B gl gt : Nat} {v : Value} {ls : List (List (List UInt8))} {k : Nat} (h : TkW w B gl gt v ls k) (m : Nat) : TkW (w.setCell ⟨gt, 0, none⟩ (.int .i64 (m : Int))) B gl gt v ls m := by
  refine ⟨h.lines.other _ _ (fun e => h.ne e.symm), h.taken.set 0 _ (by simp), ?_, h.ne, h.up⟩
  exact h.lies.below (B' := B) ((Turn.put1 w gt 0 _).below' (Nat.le_of_lt (Nat.lt_of_le_of_lt h.up.2 h.taken.lt)) (by simp; exact h.up.2)) (Nat.le_refl _)
theorem TkW.turn {w w' : World} {B gl gt : Nat} {S : List Nat} {v : Value} {ls : List (List (List UInt8))} {k : Nat} (h : TkW w B gl gt v ls k) (ht : Turn S w w') (hS : gl ∉ S ∧ gt ∉ S) (hB : ∀ x ∈ S, B ≤ x) : TkW w' B gl gt v ls k :=
  ⟨h.lines.turn ht hS.1, h.taken.turn ht hS.2, h.lies.below (ht.below' (Nat.le_of_lt (Nat.lt_of_le_of_lt h.up.2 h.taken.lt)) hB) (Nat.le_refl _), h.ne, h.up⟩
theorem TkW.drewN {w : World} {B gl gt : Nat} {v : Value} {ls : List (List (List UInt8))} {k : Nat} (h : TkW w B gl gt v ls k) (n : Nat) : TkW (w.drewN n) B gl gt v ls k :=
  ⟨h.lines, h.taken, h.lies.below (below_drewF (Below.refl B w) n) (Nat.le_refl _), h.ne, h.up⟩

set_option maxRecDepth 100000 in
theorem taker_any (v : Value) (ls : List (List (List UInt8))) (B : Nat) (w : World) (hv : LiS w B v ls) (hB : B ≤ w.heap.size) : Calls Tryd.prog 24 #[v] w fun e w' =>
    e = .returned (.func (.func 40) #[] #[.pointer (some ⟨w.heap.size + 1, 0, none⟩), .pointer (some ⟨w.heap.size, 0, none⟩)]) ∧ TkW w' B w.heap.size (w.heap.size + 1) v ls 0 ∧ Below w.heap.size w w' ∧ w'.heap.size = w.heap.size + 2 := by
  obtain ⟨ad, c, rfl, hle⟩ := hv.shape
  obtain ⟨h1, h2, h3, h4⟩ := Rw.two w #[.slice ad ls.length c] #[.int .i64 0] 22 3
  have hT : TkW ((w.alloc (.cells #[.slice ad ls.length c] 22)).alloc (.cells #[.int .i64 0] 3)) B w.heap.size (w.heap.size + 1) (.slice ad ls.length c) ls 0 := ⟨h1, h2, hv.below h3 hB, by omega, hB, by omega⟩
  have HZ : Hid _ := h4
  clear h4 h1 h2
  go_enter Tryd.func24, Tryd.ntmps24
  go_wp2
  go_ret
  exact ⟨rfl, hT, h3, HZ.out⟩

set_option maxRecDepth 100000 in
theorem take_end (gl gt : Nat) (v : Value) (ls : List (List (List UInt8))) (B : Nat) (w : World) (h : TkW w B gl gt v ls ls.length) :
    Calls Tryd.prog 40 #[.pointer (some ⟨gt, 0, none⟩), .pointer (some ⟨gl, 0, none⟩)] w fun e w' => e = .returned (.tuple #[.slice none 0 0, .int .i64 (ls.length : Int), .bool false]) ∧ ∃ n, w' = w.drewN n := by
  obtain ⟨ad, c, rfl, hle⟩ := h.lies.shape
  have c0 : w.cell? ⟨gl, 0, none⟩ = some (.slice ad ls.length c) := h.lines.cell 0
  have c1 : w.cell? ⟨gt, 0, none⟩ = some (.int .i64 (ls.length : Int)) := h.taken.cell 0
  go_enter Tryd.func40, Tryd.ntmps40
  go_wp2
  go_quiet (fail)
  go_wp2
  refine bodyPost_ret (v := .tuple #[.slice none 0 0, .int .i64 (ls.length : Int), .bool false]) (by simp [results, Tryd.results40, go_sem]) rfl ⟨rfl, _, rfl⟩

set_option maxRecDepth 100000 in
theorem take_one (gl gt : Nat) (v : Value) (ls : List (List (List UInt8))) (k B : Nat) (w : World) (h : TkW w B gl gt v ls k) (hk : k < ls.length) (hlen : ls.length ≤ 1099511) :
    Calls Tryd.prog 40 #[.pointer (some ⟨gt, 0, none⟩), .pointer (some ⟨gl, 0, none⟩)] w fun e w' => (∃ a c, e = .returned (.tuple #[.slice a ls[k].length c, .int .i64 (k : Int), .bool true]) ∧ TxR.Sl w' B (.slice a ls[k].length c) ls[k]) ∧ TkW w' B gl gt v ls (k + 1) ∧ Turn [gt] w w' ∧ w'.heap.size = w.heap.size := by
  obtain ⟨g, o, c, aa, ac, rfl, hg, hc0, hs⟩ := h.lies.at hk
  have c0 : w.cell? ⟨gl, 0, none⟩ = some (.slice (some ⟨g, o, none⟩) ls.length c) := h.lines.cell 0
  have c1 : w.cell? ⟨gt, 0, none⟩ = some (.int .i64 (k : Int)) := h.taken.cell 0
  have f1 : w.frozen? ⟨gt, 0, none⟩ = false := h.taken.free 0
  have hup := h.up
  have i1 : ((k : Int) == (ls.length : Int)) = false := by rw [beq_eq_false_iff_ne]; omega
  have i2 : (k : Int) < (ls.length : Int) := by omega
  have hT2 := h.set (k + 1)
  have hTu := Turn.put1 w gt 0 (.int .i64 ((k + 1 : Nat) : Int))
  have hS2 := hs.below (B' := B) (hTu.below' (Nat.le_of_lt (Nat.lt_of_le_of_lt h.up.2 h.taken.lt)) (by simp; exact h.up.2)) (Nat.le_refl _)
  have hz := size_setCell w ⟨gt, 0, none⟩ (.int .i64 ((k + 1 : Nat) : Int))
  have n1 : gl ≠ gt := h.ne
  have n2 : g ≠ gt := by omega
  have HH : Hid _ := h
  clear h
  generalize hn : ls[k].length = n at *
  have HN : Hid _ := hn
  clear hn
  go_enter Tryd.func40, Tryd.ntmps40
  go_wp2
  have e1 : ((k + 1 : Nat) : Int) = (k : Int) + 1 := by omega
  rw [e1] at hT2 hTu hS2 hz
  have d0 : (w.setCell ⟨gt, 0, none⟩ (.int .i64 ((k : Int) + 1))).cell? ⟨gl, 0, none⟩ = some (.slice (some ⟨g, o, none⟩) ls.length c) := hT2.lines.cell 0
  have d1 : (w.setCell ⟨gt, 0, none⟩ (.int .i64 ((k : Int) + 1))).cell? ⟨gt, 0, none⟩ = some (.int .i64 ((k : Int) + 1)) := by rw [← e1]; exact hT2.taken.cell 0
  have d2 : (w.setCell ⟨gt, 0, none⟩ (.int .i64 ((k : Int) + 1))).cell? ⟨g, o + k, none⟩ = some (.slice aa n ac) := (hTu.cell (p := ⟨g, o + k, none⟩) (by have := HH.out.taken.lt; show g < _; omega) (by simp; exact n2)).trans hc0
  generalize w.setCell ⟨gt, 0, none⟩ (.int .i64 ((k : Int) + 1)) = V at hT2 hTu hS2 hz d0 d1 d2 ⊢
  have HZ : Hid _ := hz
  clear e1 c0 c1 f1 hc0 n1 n2 hs hz
  go_quiet (fail)
  go_wp2
  refine bodyPost_ret (v := .tuple #[.slice aa n ac, .int .i64 (k : Int), .bool true]) (by simp [results, Tryd.results40, go_sem]) rfl ⟨⟨_, _, rfl, hS2.below (below_drewF (Below.refl B V) _) (Nat.le_refl _)⟩, hT2.drewN _, hTu.drewN _, HZ.out⟩

end Go.Proofs.YtfgdlnidfkjbdaaDoor
