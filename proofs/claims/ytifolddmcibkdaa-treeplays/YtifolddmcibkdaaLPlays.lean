/-
  THE WALK OF TreePlays.
-/
import Derived.Test.YtifolddmcibkdaaLDoes
import Derived.Test.YtifolddmcibkdaaLLike
import Derived.Test.YtifolddmcibkdaaLWorks
namespace Go.Proofs.Ytifolddmcibkdaa
open Go.RowKit

set_option maxRecDepth 100000 in
set_option maxHeartbeats 8000000 in
theorem plays_walk (v : Value) (l : List Tm.Op) (B : Nat) (z : Bool) (w : World) (hv : OpR.Sl w B v l) (hB : B ≤ w.heap.size) (hz : Tm.Sized l) :
    Calls Try.prog 3 #[v, .bool z] w fun e w' => e = .returned (.bool true) ∧ Below w.heap.size w w' := by
  obtain ⟨ad, c, rfl, hle⟩ := hv.shape
  go_enter Try.func3, Try.ntmps3
  go_wp2_with fail
  refine (works_true _).mono ?_
  rintro e w1 ⟨rfl, hB1⟩
  go_wp2_with fail
  refine (long_any w1 B _ l (hv.below hB1 hB) hz).mono ?_
  rintro e w2 ⟨_, rfl, ⟨lb, rfl, hlb⟩, hB2⟩
  have hC2 := hB1.trans (hB2.mono hB1.size)
  clear hB1 hB2
  cases lb with
  | true =>
    go_wp2
    go_ret
    exact ⟨rfl, hC2⟩
  | false =>
  obtain ⟨hc, hl2⟩ := hlb rfl
  clear hlb hc hz
  go_wp2_with fail
  refine (New_any _).mono ?_
  rintro e w3 ⟨g, S, rfl, hT, hS, hB3⟩
  have hC3 := hC2.trans (hB3.mono hC2.size)
  have hS' : ∀ b ∈ S, w.heap.size ≤ b := fun b hb => Nat.le_trans hC2.size (hS b hb)
  clear hS hB3 hC2
  have hO : ∃ (g0 r0 : Nat) (W : World), Both w W g0 r0 Tm.T.zero [] ∧ W = (if z = true then (w3.alloc (.cells zeroTree 32)).alloc (.cells #[.slice none 0 0, .slice none 0 0] 37) else w3.alloc (.cells #[.slice none 0 0, .slice none 0 0] 37)) ∧ g0 = (if z = true then w3.heap.size else g) ∧ r0 = (if z = true then w3.heap.size + 1 else w3.heap.size) := by
    cases z with
    | false => exact ⟨g, w3.heap.size, _, Both.new hT hS' hC3, rfl, rfl, rfl⟩
    | true =>
      have h := Both.new (w0 := w) (HasT.zeroed w3) (fun b hb => by rw [List.mem_singleton.1 hb]; exact hC3.size) (hC3.alloc hC3.size _)
      rw [World.size_alloc] at h
      exact ⟨_, _, _, h, rfl, rfl, rfl⟩
  clear hT hS' hC3
  obtain ⟨g0, r0, W, hO, hW, hg, hr⟩ := hO
  cases z with
  | false =>
    have hW' : W = w3.alloc (.cells #[.slice none 0 0, .slice none 0 0] 37) := hW
    have hg' : g0 = g := hg
    have hr' : r0 = w3.heap.size := hr
    clear hW hg hr
    go_wp2_with fail
    rw [← hW', ← hg', ← hr']
    clear hW' hg' hr'
    refine (like_any g0 r0 _ [] W hO Tm.Ok.zero).mono ?_
    rintro e w4 ⟨rfl, hB4⟩
    have hO4 : Both w w4 g0 r0 (Tm.play (l.take 0)) [] := (hO.below hB4).1
    clear hO hB4
    go_wp2_with fail
    go_loopw [7] (fun i wr => ∃ k : Nat, k ≤ l.length ∧ i = .int .i64 (k : Int) ∧ Both w wr g0 r0 (Tm.play (l.take k)) []) (fun i _ => l.length - (intOf i).toNat)
    case atStart => exact ⟨0, Nat.zero_le _, rfl, hO4⟩
    case round =>
      obtain ⟨k, hk, rfl, hOk⟩ := hrel
      have hBk := hOk.base
      obtain ⟨hOkk, hchs⟩ := Tm.play_ok (l.take k) (by rw [List.length_take]; omega)
      rw [List.length_take] at hchs
      by_cases hlt : k < l.length
      · obtain ⟨b, o, c', e, hb, p0, p1, p2, p3⟩ := OpR.at (hv.below hBk hB) k hlt
        simp only [Value.slice.injEq] at e
        obtain ⟨rfl, -, rfl⟩ := e
        have i1 : (k : Int) < (l.length : Int) := by omega
        have HST : Hid _ := Tm.play_take l k hlt
        obtain ⟨hOk1, -⟩ := Tm.play_ok (l.take (k + 1)) (by rw [List.length_take]; omega)
        rw [HST.out] at hOk1
        generalize l.getD k Tm.noOp = op at *
        generalize Tm.play (l.take k) = t at *
        go_wp2_with fail
        refine (does_any g0 r0 t [] op _ hOk hOkk (by omega)).mono ?_
        rintro e w5 ⟨rfl, hO5, -⟩
        clear p0 p1 p2 p3 hOk
        by_cases h100 : (l.length : Int) ≤ 100
        · go_wp2_with fail
          refine (like_any g0 r0 _ [] _ hO5 hOk1).mono ?_
          rintro e w6 ⟨rfl, hB6⟩
          have hO6 := (hO5.below hB6).1
          go_wp2
          exact ⟨⟨k + 1, by omega, by go_num, by rw [HST.out]; exact hO6⟩, by simp [intOf]; omega⟩
        · go_wp2
          exact ⟨⟨k + 1, by omega, by go_num, by rw [HST.out]; exact hO5⟩, by simp [intOf]; omega⟩
      · obtain rfl : k = l.length := by omega
        have i1 : ¬ (l.length : Int) < (l.length : Int) := by omega
        go_wp2_with fail
        refine (like_any g0 r0 _ [] _ hOk hOkk).mono ?_
        rintro e w6 ⟨rfl, hB6⟩
        have hO6 := (hOk.below hB6).1.base
        go_wp2
        go_ret
        exact ⟨rfl, hO6⟩
  | true =>
    have hW' : W = (w3.alloc (.cells #[.map none, .int .i64 0, .string ⟨#[]⟩, .string ⟨#[]⟩, .string ⟨#[]⟩, .string ⟨#[]⟩, .string ⟨#[]⟩, .string ⟨#[]⟩, .string ⟨#[]⟩, .string ⟨#[]⟩, .string ⟨#[]⟩, .string ⟨#[]⟩, .string ⟨#[]⟩, .string ⟨#[]⟩, .string ⟨#[]⟩, .string ⟨#[]⟩, .string ⟨#[]⟩, .string ⟨#[]⟩, .string ⟨#[]⟩, .string ⟨#[]⟩, .string ⟨#[]⟩, .string ⟨#[]⟩, .string ⟨#[]⟩, .string ⟨#[]⟩, .string ⟨#[]⟩, .string ⟨#[]⟩, .string ⟨#[]⟩, .string ⟨#[]⟩, .string ⟨#[]⟩, .string ⟨#[]⟩, .string ⟨#[]⟩, .string ⟨#[]⟩, .string ⟨#[]⟩, .string ⟨#[]⟩] 32)).alloc (.cells #[.slice none 0 0, .slice none 0 0] 37) := hW
    have hg' : g0 = w3.heap.size := hg
    have hr' : r0 = w3.heap.size + 1 := hr
    clear hW hg hr
    go_wp2_with fail
    rw [← hW', ← hr', ← hg']
    clear hW' hg' hr'
    refine (like_any g0 r0 _ [] W hO Tm.Ok.zero).mono ?_
    rintro e w4 ⟨rfl, hB4⟩
    have hO4 : Both w w4 g0 r0 (Tm.play (l.take 0)) [] := (hO.below hB4).1
    clear hO hB4
    go_wp2_with fail
    go_loopw [7] (fun i wr => ∃ k : Nat, k ≤ l.length ∧ i = .int .i64 (k : Int) ∧ Both w wr g0 r0 (Tm.play (l.take k)) []) (fun i _ => l.length - (intOf i).toNat)
    case atStart => exact ⟨0, Nat.zero_le _, rfl, hO4⟩
    case round =>
      obtain ⟨k, hk, rfl, hOk⟩ := hrel
      have hBk := hOk.base
      obtain ⟨hOkk, hchs⟩ := Tm.play_ok (l.take k) (by rw [List.length_take]; omega)
      rw [List.length_take] at hchs
      by_cases hlt : k < l.length
      · obtain ⟨b, o, c', e, hb, p0, p1, p2, p3⟩ := OpR.at (hv.below hBk hB) k hlt
        simp only [Value.slice.injEq] at e
        obtain ⟨rfl, -, rfl⟩ := e
        have i1 : (k : Int) < (l.length : Int) := by omega
        have HST : Hid _ := Tm.play_take l k hlt
        obtain ⟨hOk1, -⟩ := Tm.play_ok (l.take (k + 1)) (by rw [List.length_take]; omega)
        rw [HST.out] at hOk1
        generalize l.getD k Tm.noOp = op at *
        generalize Tm.play (l.take k) = t at *
        go_wp2_with fail
        refine (does_any g0 r0 t [] op _ hOk hOkk (by omega)).mono ?_
        rintro e w5 ⟨rfl, hO5, -⟩
        clear p0 p1 p2 p3 hOk
        by_cases h100 : (l.length : Int) ≤ 100
        · go_wp2_with fail
          refine (like_any g0 r0 _ [] _ hO5 hOk1).mono ?_
          rintro e w6 ⟨rfl, hB6⟩
          have hO6 := (hO5.below hB6).1
          go_wp2
          exact ⟨⟨k + 1, by omega, by go_num, by rw [HST.out]; exact hO6⟩, by simp [intOf]; omega⟩
        · go_wp2
          exact ⟨⟨k + 1, by omega, by go_num, by rw [HST.out]; exact hO5⟩, by simp [intOf]; omega⟩
      · obtain rfl : k = l.length := by omega
        have i1 : ¬ (l.length : Int) < (l.length : Int) := by omega
        go_wp2_with fail
        refine (like_any g0 r0 _ [] _ hOk hOkk).mono ?_
        rintro e w6 ⟨rfl, hB6⟩
        have hO6 := (hOk.below hB6).1.base
        go_wp2
        go_ret
        exact ⟨rfl, hO6⟩

end Go.Proofs.Ytifolddmcibkdaa
