/-
  A WORD WRITTEN, by a replacer of the call's own.
-/
import Derived.Test.YtppcfidaalejfaaDZRep
namespace Go.Proofs.Ytppcfidaalejfaa
open Go.RowKit

theorem below_alloc1 (w : World) (o : Obj) : Below w.heap.size w (w.alloc o) := (Below.refl w.heap.size w).alloc (Nat.le_refl _) o
/-- a replacer that is made -/
def Tab (w : World) (r b : Nat) (d m : Int) : Prop := Rw w r (rpC d m (.iface 133 (.pointer (some ⟨b, 0, none⟩))) (.slice none 0 0)) 109 ∧ ∃ g tv, RB w b g tv ∧ RepG w g s3 ∧ BR.Own w (r + 1) tv l3
theorem Tab.turn {w w' : World} {r b : Nat} {d m : Int} {S : List Nat} (h : Tab w r b d m) (hT : Turn S w w') (hr : r ∉ S) (hb : b ∉ S) (hu : ∀ x ∈ S, ∀ X, ¬ UpB w x X) (ho : ∀ x ∈ S, x ≤ r) : Tab w' r b d m := by
  obtain ⟨h1, g, tv, h2, h3, h4⟩ := h
  exact ⟨h1.turn hT hr, g, tv, h2.turn hT hb, h3.turn hT hu, Row.turn h4 hT fun x hx hm => by have := (h4.lt x hx).1; have := ho x hm; omega⟩
/-- a cell of the replacer itself is written -/
theorem Tab.set {w : World} {r b : Nat} {d m : Int} (h : Tab w r b d m) (j : Nat) (v : Value) (hj : j < 5) {d' m' : Int} (e : (rpC d m (.iface 133 (.pointer (some ⟨b, 0, none⟩))) (.slice none 0 0)).set j v (by simpa [rpC] using hj) = rpC d' m' (.iface 133 (.pointer (some ⟨b, 0, none⟩))) (.slice none 0 0)) (hb : b ≠ r) : Tab (w.setCell ⟨r, j, none⟩ v) r b d' m' := by
  obtain ⟨h1, g, tv, h2, h3, h4⟩ := h
  have hT := Turn.put1 w r j v
  refine ⟨?_, g, tv, h2.turn hT (by simpa using hb), h3.turn hT (fun x hx X hu => by rw [List.mem_singleton] at hx; subst hx; exact hu.notRw h1 (by decide)), Row.turn h4 hT fun x hx hm => by rw [List.mem_singleton] at hm; have := (h4.lt x hx).1; omega⟩
  have := h1.set j v (by simpa [rpC] using hj)
  rw [e] at this
  exact this

set_option maxRecDepth 100000 in
set_option maxHeartbeats 2000000 in
theorem buildOnce_any (w : World) (r B : Nat) (ad : Option Addr) (c : Nat) (h : Rw w r (rpC 0 1 .nilIface (.slice ad 6 c)) 109) (hS : BR.Sl w B (.slice ad 6 c) rp6) (hB : B ≤ w.heap.size) :
    Calls Try.prog 60 #[.pointer (some ⟨r, 0, none⟩)] w fun e w' => e = .returned (.tuple #[]) ∧ (∃ b, r < b ∧ Tab w' r b 0 1) ∧ Turn [r] w w' := by
  have hbd := build_any w r B ad c (h.cell 4) hS hB
  have hrl := h.lt
  go_enter Try.func60, Try.ntmps60
  go_wp2_with fail
  refine hbd.mono ?_
  rintro e w1 ⟨b, rfl, hb, ⟨g, tv, hRB, hG, hO⟩, hB1⟩
  have h1 := h.below hB1 hrl
  have q3 : w1.cell? ⟨r, 3, none⟩ = some .nilIface := h1.cell 3
  have f3 := h1.free 3
  have q4 : w1.cell? ⟨r, 4, none⟩ = some (.slice ad 6 c) := h1.cell 4
  have f4 := h1.free 4
  have hTb := (Turn.put1 w1 r 3 (.iface 133 (.pointer (some ⟨b, 0, none⟩)))).trans (Turn.put1 (w1.setCell ⟨r, 3, none⟩ (.iface 133 (.pointer (some ⟨b, 0, none⟩)))) r 4 (.slice none 0 0)) (by simp)
  have h3 := (h1.set 3 (.iface 133 (.pointer (some ⟨b, 0, none⟩))) (by simp [rpC])).set 4 (.slice none 0 0) (by simp [rpC])
  have hT0 : Turn [r] w ((w1.setCell ⟨r, 3, none⟩ (.iface 133 (.pointer (some ⟨b, 0, none⟩)))).setCell ⟨r, 4, none⟩ (.slice none 0 0)) := ((Turn.refl [r] w).belowTrans hB1).trans hTb (by simp)
  have hTab : Tab ((w1.setCell ⟨r, 3, none⟩ (.iface 133 (.pointer (some ⟨b, 0, none⟩)))).setCell ⟨r, 4, none⟩ (.slice none 0 0)) r b 0 1 :=
    ⟨h3, g, tv, hRB.turn hTb (by simp; omega), hG.turn hTb (fun x hx X hu => by rw [List.mem_singleton] at hx; subst hx; exact hu.notRw h1 (by decide)), Rc.Own.low (Row.turn hO hTb (fun x hx hm => by rw [List.mem_singleton] at hm; have := (hO.lt x hx).1; omega)) (by omega)⟩
  clear h3 hTb h1 hO hG hRB hB1
  go_wp2
  go_end0
  exact ⟨rfl, ⟨b, by omega, hTab⟩, hT0⟩

set_option maxRecDepth 100000 in
set_option maxHeartbeats 2000000 in
theorem NewReplacer_any (w : World) (v : Value) (B : Nat) (hS : BR.Sl w B v rp6) :
    Calls Try.prog 49 #[v] w fun e w' => ∃ r ad c, e = .returned (.pointer (some ⟨r, 0, none⟩)) ∧ w.heap.size ≤ r ∧ Rw w' r (rpC 0 0 .nilIface (.slice ad 6 c)) 109 ∧ BR.Own w' w.heap.size (.slice ad 6 c) rp6 ∧ Below w.heap.size w w' := by
  obtain ⟨va, vc, rfl, hvc⟩ := hS.shape
  have hS : BR.Sl w B (.slice va 6 vc) rp6 := hS
  have hNil := Rc.Own.nil (R := BR) w w.heap.size
  have HLn : Hid (([] : List (List UInt8)).length + rp6.length ≤ 1099511627) := by show _ ≤ _; decide
  go_enter Try.func49, Try.ntmps49
  go_wp2_with (at_builtin; go_must (refine BR.append_at rfl _ _ rfl w.heap.size B _ _ [] rp6 rfl hNil rfl hS (by decide) HLn (Nat.le_refl _) ?_))
  intro g cap w5 hO5 hg5 hw5 hlt5
  have hO5 : BR.Own w5 w.heap.size (.slice (some ⟨g, 0, none⟩) 6 cap) rp6 := hO5
  have hB5 : Below w.heap.size w w5 := (Below.refl _ _).grown hg5 (Nat.le_refl _) (fun x hx => by simp [Value.ownBlock] at hx)
  have hz := hB5.size
  have hR := Rw.new w5 (rpC 0 0 .nilIface (.slice (some ⟨g, 0, none⟩) 6 cap)) 109
  have hO6 := hO5.alloc (.cells (rpC 0 0 .nilIface (.slice (some ⟨g, 0, none⟩) 6 cap)) 109)
  have hB6 := hB5.alloc hz (.cells (rpC 0 0 .nilIface (.slice (some ⟨g, 0, none⟩) 6 cap)) 109)
  unfold rpC at hR hO6 hB6
  go_wp2
  go_ret
  exact ⟨w5.heap.size, _, _, rfl, hz, hR, hO6, hB6⟩

set_option maxRecDepth 100000 in
set_option maxHeartbeats 2000000 in
theorem Replace_any (w : World) (r B : Nat) (ad : Option Addr) (c : Nat) (s : ByteArray) (h : Rw w r (rpC 0 0 .nilIface (.slice ad 6 c)) 109) (hO : BR.Own w B (.slice ad 6 c) rp6) (hs : s.size ≤ 1000000) :
    Calls Try.prog 50 #[.pointer (some ⟨r, 0, none⟩), .string s] w fun e w' => e = .returned (.string (str (Dp.written (bs s)))) ∧ Turn [r] w w' := by
  have hrl := h.lt
  have h1 : Rw (w.setCell ⟨r, 1, none⟩ (.int .i32 1)) r (rpC 0 1 .nilIface (.slice ad 6 c)) 109 := h.set 1 (.int .i32 1) (by simp [rpC])
  have hT1 := Turn.put1 w r 1 (.int .i32 1)
  have hO1 : BR.Own (w.setCell ⟨r, 1, none⟩ (.int .i32 1)) B (.slice ad 6 c) rp6 := Row.turn hO hT1 (fun x hx hm => by rw [List.mem_singleton] at hm; subst hm; exact Rw.ne_row h hO (by decide) hx rfl)
  have hbo := buildOnce_any (w.setCell ⟨r, 1, none⟩ (.int .i32 1)) r _ ad c h1 hO1.sl (Nat.le_refl _)
  have hdo := sy_do r .nilIface (.slice ad 6 c) w (fun W => (∃ b, r < b ∧ Tab W r b 0 1) ∧ Turn [r] (w.setCell ⟨r, 1, none⟩ (.int .i32 1)) W) h (fun W hW => by
    obtain ⟨⟨b, -, hTb⟩, -⟩ := hW
    exact ⟨_, _, hTb.1⟩) hbo
  clear hbo hO1 h1
  go_enter Try.func50, Try.ntmps50
  go_wp2_with fail
  refine hdo.mono ?_
  rintro e w1 ⟨rfl, w2, ⟨⟨b, hrb, hTb⟩, hT2⟩, rfl⟩
  have hTd : Tab w2.drew r b 0 1 := hTb
  have hTa := hTd.set 0 (.int .u32 1) (by decide) (d' := 1) (m' := 1) rfl (by omega)
  have hTc := hTa.set 1 (.int .i32 0) (by decide) (d' := 1) (m' := 0) rfl (by omega)
  have hT3 : Turn [r] w ((w2.drew.setCell ⟨r, 0, none⟩ (.int .u32 1)).setCell ⟨r, 1, none⟩ (.int .i32 0)) := (((hT1.trans hT2 (by simp)).drew).set (by simp) _).set (by simp) _
  clear hdo hTb hTd hTa hT2
  generalize (w2.drew.setCell ⟨r, 0, none⟩ (.int .u32 1)).setCell ⟨r, 1, none⟩ (.int .i32 0) = W3 at *
  obtain ⟨hq, g, tv, hRB, hG, hOt⟩ := hTc
  have q3 : W3.cell? ⟨r, 3, none⟩ = some (.iface 133 (.pointer (some ⟨b, 0, none⟩))) := hq.cell 3
  have hbr := byteRep_any W3 b s g tv hRB hG hOt.sl hs
  have hm : ∀ (W : World) (a : Addr), (method 294 133 (.pointer (some a)) "Replace").run Try.prog W = .ok (130, .pointer (some a)) W := fun _ _ => by kernel_rfl
  go_wp2_with (go_at_call 130; refine hbr.mono ?_; rintro e w4 ⟨rfl, hB4⟩)
  go_ret
  exact ⟨rfl, hT3.belowTrans hB4⟩

set_option maxRecDepth 100000 in
set_option maxHeartbeats 2000000 in
theorem written_any (w : World) (s : ByteArray) (hs : s.size ≤ 1000000) :
    Calls Try.prog 33 #[.string s] w fun e w' => e = .returned (.string (str (Dp.written (bs s)))) ∧ Below w.heap.size w w' := by
  have hRow : BR.Sl (w.alloc (.cells #[.string ⟨#[32]⟩, .string ⟨#[92, 32]⟩, .string ⟨#[58]⟩, .string ⟨#[92, 58]⟩, .string ⟨#[92]⟩, .string ⟨#[92, 92]⟩] 9)) (w.heap.size + 1) (.slice (some ⟨w.heap.size, 0, none⟩) 6 6) rp6 := by
    refine ⟨some ⟨w.heap.size, 0, none⟩, 6, rfl, by decide, (fun h => by cases h), fun _ => ⟨w.heap.size, 0, rfl, by omega, fun j u hu => ?_⟩⟩
    rw [Nat.zero_add, cell_of_row _ _ _ _ _ _ (heap_alloc_new w _), ← Array.getElem?_toList]
    exact hu
  have hz : (w.alloc (.cells #[.string ⟨#[32]⟩, .string ⟨#[92, 32]⟩, .string ⟨#[58]⟩, .string ⟨#[92, 58]⟩, .string ⟨#[92]⟩, .string ⟨#[92, 92]⟩] 9)).heap.size = w.heap.size + 1 := size_alloc _ _
  have hNR := NewReplacer_any _ _ _ hRow
  have hbn := below_alloc1 w (.cells #[.string ⟨#[32]⟩, .string ⟨#[92, 32]⟩, .string ⟨#[58]⟩, .string ⟨#[92, 58]⟩, .string ⟨#[92]⟩, .string ⟨#[92, 92]⟩] 9)
  go_enter Try.func33, Try.ntmps33
  go_wp2_with fail
  refine hNR.mono ?_
  rintro e w1 ⟨r, ad, c, rfl, hr, hq, hO, hB1⟩
  have hRp := Replace_any w1 r _ ad c s hq hO hs
  have hB0 := hbn.trans (hB1.mono (by omega))
  clear hNR hB1 hbn
  go_wp2_with fail
  refine hRp.mono ?_
  rintro e w2 ⟨rfl, hT2⟩
  go_wp2
  go_ret
  exact ⟨rfl, hT2.bel hB0 (by simp; omega)⟩

end Go.Proofs.Ytppcfidaalejfaa
