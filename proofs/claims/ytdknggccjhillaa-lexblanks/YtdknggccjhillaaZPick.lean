/-
  THE LAW's OWN pick, blank AND behind.
-/
import Derived.Test.YtdknggccjhillaaXBlank
import Derived.Test.YtdknggccjhillaaZWrite
namespace Go.Proofs.Ytdknggccjhillaa
open Go.RowKit

set_option maxRecDepth 100000 in
theorem blank_any (z : Nat) (hz : z ≤ 255) (w : World) : Calls Try.prog 29 #[.int .i64 (z : Int)] w fun e w' => (∃ s, e = .returned (.string s) ∧ Lx.SepOk (bs s) ∧ (bs s).length ≤ 7) ∧ Below w.heap.size w w' := by
  have hr : z % 5 = 0 ∨ z % 5 = 1 ∨ z % 5 = 2 ∨ z % 5 = 3 ∨ z % 5 = 4 := by omega
  have hB := (Below.refl w.heap.size w).alloc (Nat.le_refl _) (.cells #[.string ⟨#[32]⟩, .string ⟨#[32, 32]⟩, .string ⟨#[32, 92, 10]⟩, .string ⟨#[32, 92, 10, 32]⟩, .string ⟨#[32, 92, 10, 32, 32, 92, 10]⟩] 74)
  have b1 : (z : Int) ≤ 255 := by omega
  go_enter Try.func29, Try.ntmps29
  rcases hr with h | h | h | h | h
  · have h' : (z : Int).tmod 5 = 0 := by rw [Int.tmod_eq_emod_of_nonneg (by omega)]; omega
    go_wp2
    go_ret
    exact ⟨⟨⟨#[32]⟩, rfl, Lx.sep0, by decide⟩, hB⟩
  · have h' : (z : Int).tmod 5 = 1 := by rw [Int.tmod_eq_emod_of_nonneg (by omega)]; omega
    go_wp2
    go_ret
    exact ⟨⟨⟨#[32, 32]⟩, rfl, Lx.sep1, by decide⟩, hB⟩
  · have h' : (z : Int).tmod 5 = 2 := by rw [Int.tmod_eq_emod_of_nonneg (by omega)]; omega
    go_wp2
    go_ret
    exact ⟨⟨⟨#[32, 92, 10]⟩, rfl, Lx.sep2, by decide⟩, hB⟩
  · have h' : (z : Int).tmod 5 = 3 := by rw [Int.tmod_eq_emod_of_nonneg (by omega)]; omega
    go_wp2
    go_ret
    exact ⟨⟨⟨#[32, 92, 10, 32]⟩, rfl, Lx.sep3, by decide⟩, hB⟩
  · have h' : (z : Int).tmod 5 = 4 := by rw [Int.tmod_eq_emod_of_nonneg (by omega)]; omega
    go_wp2
    go_ret
    exact ⟨⟨⟨#[32, 92, 10, 32, 32, 92, 10]⟩, rfl, Lx.sep4, by decide⟩, hB⟩
/-- an end of a line: what stands behind its last word, and lines without words -/
def EndOk (s : List UInt8) : Prop := ∃ t e, s = t ++ 10 :: e ∧ Lx.TlOk t ∧ Lx.ElOk e ∧ s.length ≤ 13
set_option maxRecDepth 100000 in
theorem behind_any (z : Nat) (hz : z ≤ 255) (w : World) : Calls Try.prog 30 #[.int .i64 (z : Int)] w fun e w' => (∃ s, e = .returned (.string s) ∧ EndOk (bs s)) ∧ Below w.heap.size w w' := by
  have hr : z % 5 = 0 ∨ z % 5 = 1 ∨ z % 5 = 2 ∨ z % 5 = 3 ∨ z % 5 = 4 := by omega
  have hB := (Below.refl w.heap.size w).alloc (Nat.le_refl _) (.cells #[.string ⟨#[10]⟩, .string ⟨#[32, 35, 32, 34, 97, 58, 32, 92, 120, 10]⟩, .string ⟨#[32, 32, 10, 10]⟩, .string ⟨#[35, 9, 255, 10, 32, 10, 35, 32, 109, 111, 114, 101, 10]⟩, .string ⟨#[32, 10, 9, 10]⟩] 74)
  have b1 : (z : Int) ≤ 255 := by omega
  go_enter Try.func30, Try.ntmps30
  rcases hr with h | h | h | h | h
  · have h' : (z : Int).tmod 5 = 0 := by rw [Int.tmod_eq_emod_of_nonneg (by omega)]; omega
    go_wp2
    go_ret
    exact ⟨⟨⟨#[10]⟩, rfl, [], [], rfl, Lx.tl0, Lx.el0, by decide⟩, hB⟩
  · have h' : (z : Int).tmod 5 = 1 := by rw [Int.tmod_eq_emod_of_nonneg (by omega)]; omega
    go_wp2
    go_ret
    exact ⟨⟨⟨#[32, 35, 32, 34, 97, 58, 32, 92, 120, 10]⟩, rfl, [32, 35, 32, 34, 97, 58, 32, 92, 120], [], rfl, Lx.tl1, Lx.el0, by decide⟩, hB⟩
  · have h' : (z : Int).tmod 5 = 2 := by rw [Int.tmod_eq_emod_of_nonneg (by omega)]; omega
    go_wp2
    go_ret
    exact ⟨⟨⟨#[32, 32, 10, 10]⟩, rfl, [32, 32], [10], rfl, Lx.tl2, Lx.el2, by decide⟩, hB⟩
  · have h' : (z : Int).tmod 5 = 3 := by rw [Int.tmod_eq_emod_of_nonneg (by omega)]; omega
    go_wp2
    go_ret
    exact ⟨⟨⟨#[35, 9, 255, 10, 32, 10, 35, 32, 109, 111, 114, 101, 10]⟩, rfl, [35, 9, 255], [32, 10, 35, 32, 109, 111, 114, 101, 10], rfl, Lx.tl3, Lx.el3, by decide⟩, hB⟩
  · have h' : (z : Int).tmod 5 = 4 := by rw [Int.tmod_eq_emod_of_nonneg (by omega)]; omega
    go_wp2
    go_ret
    exact ⟨⟨⟨#[32, 10, 9, 10]⟩, rfl, [32], [9, 10], rfl, Lx.tl4, Lx.el4, by decide⟩, hB⟩

set_option maxRecDepth 100000 in
theorem pick_any (w : World) (gn gh n : Nat) (ad : Option Addr) (c : Nat) (l : List UInt8) (hn : w.heap[gn]? = some (.cells #[.int .i64 (n : Int)] 3 (0, 0))) (hh : w.heap[gh]? = some (.cells #[.slice ad l.length c] 44 (0, 0))) (hb : Byts w w.heap.size (.slice ad l.length c) l) (hne : gn ≠ gh) (hrow : l ≠ [] → ∀ b o, ad = some ⟨b, o, none⟩ → b ≠ gn) (hnn : n ≤ 1000000000) (_ : l.length ≤ 1000000000) :
    Calls Try.prog 28 #[.pointer (some ⟨gn, 0, none⟩), .pointer (some ⟨gh, 0, none⟩)] w fun e w' => (∃ z : Nat, e = .returned (.int .i64 (z : Int)) ∧ z ≤ 255) ∧ w' = w.setCell ⟨gn, 0, none⟩ (.int .i64 ((n : Int) + 1)) := by
  have c0 : w.cell? ⟨gn, 0, none⟩ = some (.int .i64 (n : Int)) := by simp [World.cell?, hn]
  have f0 : w.frozen? ⟨gn, 0, none⟩ = false := frozen_of_row w gn 0 _ _ hn
  have c1 : w.cell? ⟨gh, 0, none⟩ = some (.slice ad l.length c) := by simp [World.cell?, hh]
  have hne' : gh ≠ gn := fun e => hne e.symm
  go_enter Try.func28, Try.ntmps28
  by_cases hlt : n < l.length
  · have i1 : (n : Int) + 1 ≤ (l.length : Int) := by omega
    have i2 : (n : Int) < (l.length : Int) := by omega
    have i3 : (n : Int) ≤ 1000000000 := by omega
    obtain ⟨ad', c', e, -, -, hc⟩ := hb
    simp only [Value.slice.injEq] at e
    obtain ⟨rfl, -, rfl⟩ := e
    obtain ⟨b, o, rfl, hbl, hcell⟩ := hc (by intro e; rw [e] at hlt; simp at hlt)
    have hbn : b ≠ gn := hrow (by intro e; rw [e] at hlt; simp at hlt) b o rfl
    have q0 := hcell n hlt
    obtain ⟨x, hx⟩ : ∃ x, l.getD n 0 = x := ⟨_, rfl⟩
    rw [hx] at q0
    have hxl : x.toNat < 256 := x.toNat_lt
    clear hx hcell
    go_wp2
    go_ret
    exact ⟨⟨x.toNat, rfl, by omega⟩, rfl⟩
  · have i1 : ¬ (n : Int) + 1 ≤ (l.length : Int) := by omega
    have i3 : (n : Int) ≤ 1000000000 := by omega
    go_wp2
    go_ret
    exact ⟨⟨0, rfl, by omega⟩, rfl⟩

end Go.Proofs.Ytdknggccjhillaa
