/-
  THE WALK OF THE DOCUMENT's Join.
-/
import Derived.Test.YtppcfidaalejfaaRTot
namespace Go.Proofs.Ytppcfidaalejfaa
open Go.RowKit

set_option maxRecDepth 100000 in
set_option maxHeartbeats 4000000 in
theorem JoinT_any (l : List ByteArray) (v : Value) (B : Nat) (w : World) (hv : Strs w B v l) (hB : B ≤ w.heap.size) (hl : l.length ≤ 1000000000) (ht : tot l ≤ 1000000000) : Calls Try.prog 55 #[v] w fun e w' => ∃ t, e = .returned (.string t) ∧ bs t = Pm.join (l.map bs) ∧ Below w.heap.size w w' := by
  obtain ⟨ad, c, rfl, hc, hn, hi⟩ := hv
  have Hi : Hid _ := hi
  clear hi
  go_enter Try.func55, Try.ntmps55
  go_wp2
  go_loopw [3, 4] (fun n i wr => ∃ k : Nat, k ≤ l.length ∧ i = .int .i64 (k : Int) ∧ n = .int .i64 (tot (l.take k) : Int) ∧ w = wr) (fun _ i _ => l.length - (intOf i).toNat)
  case atStart => exact ⟨0, Nat.zero_le _, rfl, rfl, rfl⟩
  case round =>
    obtain ⟨k, hk, rfl, rfl, rfl⟩ := hrel
    have hle := tot_le l k
    by_cases hlt : k < l.length
    · obtain ⟨b, o, rfl, hbl, hcs⟩ := Hi.out (by intro h; rw [h] at hlt; simp at hlt)
      have c0 := hcs k hlt
      have HT : Hid _ := tot_take l k hlt
      have hle2 := tot_le l (k + 1)
      rw [HT.out] at hle2
      obtain ⟨x, hx⟩ : ∃ x, l.getD k .empty = x := ⟨_, rfl⟩
      rw [hx] at c0 HT hle2
      generalize tot (l.take k) = T at *
      have i1 : (k : Int) < (l.length : Int) := by omega
      clear hcs hx
      go_wp2
      refine ⟨⟨k + 1, by omega, by go_num, ?_, trivial⟩, by simp [intOf]; omega⟩
      rw [HT.out]
      go_num
    · obtain rfl : k = l.length := by omega
      have hT : tot (l.take l.length) = tot l := by rw [List.take_length]
      rw [hT]
      clear hT hle
      obtain ⟨i0, hi5, hz0, hz1, hz2⟩ := info_parts info5
      obtain ⟨wm, Hmk, hOm, hgm⟩ := run_make_own (P := Try.prog) w w.heap.size 54 5 i0 _ 1 Try.underlying54 hi5 hz0 hz1 .i64 .i64 (tot l) (by rw [hz2]; omega) (by unfold maxLen; omega) (Nat.le_refl _)
      have hBm : Below w.heap.size w wm := (Below.refl _ _).grown hgm (Nat.le_refl _) (fun g e => by cases e)
      have hOm : Own wm w.heap.size (.slice (some ⟨w.heap.size, 0, none⟩) 0 (tot l)) [] := hOm
      clear hgm
      go_wp2
      go_loopw [5, 6] (fun v i wr => ∃ k : Nat, k ≤ l.length ∧ i = .int .i64 (k : Int) ∧ Own wr w.heap.size v (Pm.join ((l.take k).map bs)) ∧ Below w.heap.size w wr) (fun _ i _ => l.length - (intOf i).toNat)
      case atStart => exact ⟨0, Nat.zero_le _, rfl, hOm, hBm⟩
      case round =>
        obtain ⟨k, hk, rfl, hO, hBe⟩ := hrel
        have hbs : w.heap.size ≤ wr.heap.size := hBe.size
        by_cases hlt : k < l.length
        · obtain ⟨b, o, rfl, hbl, hcs⟩ := Hi.out (by intro h; rw [h] at hlt; simp at hlt)
          have HJ : Hid _ := join_take l k hlt
          have c0 : wr.cell? ⟨b, o + k, none⟩ = _ := (hBe.cell (p := ⟨b, o + k, none⟩) (Nat.lt_of_lt_of_le hbl hB)).trans (hcs k hlt)
          have hle2 : Hid ((Pm.join ((l.take k).map bs)).length + (l.getD k .empty).size + 1 ≤ 1000000000) := by
            have h1 := join_tot (l.take k)
            have h2 := tot_take l k hlt
            have h3 := tot_le l (k + 1)
            show _ ≤ _
            omega
          have HJ0 : Hid (k = 0 → Pm.join ((l.take k).map bs) = []) := fun h => by subst h; rfl
          generalize l.getD k .empty = x at *
          generalize Pm.join ((l.take k).map bs) = J at *
          have i1 : (k : Int) < (l.length : Int) := by omega
          clear hcs
          by_cases h0 : k = 0
          · have i2 : ¬ (k : Int) > 0 := by omega
            have H0 : Hid (k = 0) := h0
            clear h0
            have Hl2 : Hid (J.length + x.size ≤ 1099511627800) := by have := hle2.out; show _ ≤ _; omega
            go_wp2_with (at_builtin; refine wpList_append_text rfl (.tmp 34) (.tmp 38) rfl w.heap.size _ J x rfl hO rfl Hl2 hbs ?_)
            intro v' w' h1 h2
            go_wp2
            refine ⟨⟨k + 1, by omega, by go_num, ?_, hBe.trans h2⟩, by simp [intOf]; omega⟩
            have e := HJ.out
            rw [if_pos H0.out] at e
            rw [HJ0.out H0.out, List.nil_append] at h1
            rw [e]
            exact h1
          · have i2 : (k : Int) > 0 := by omega
            have Hl : Hid (J.length ≤ 1099511627800) := by have := hle2.out; show _ ≤ _; omega
            go_wp2_with (at_builtin; refine wpList_append_byte wr rfl (.tmp 31) (.tmp 32) rfl w.heap.size _ J _ 47 rfl rfl hO rfl Hl hbs ?_)
            intro v' w' h1 h2
            have c1 : w'.cell? ⟨b, o + k, none⟩ = some (.string x) := (h2.cell (p := ⟨b, o + k, none⟩) (Nat.lt_of_lt_of_le hbl hB)).trans c0
            have hbs' : w.heap.size ≤ w'.heap.size := Nat.le_trans hbs h2.size
            have Hl2 : Hid ((J ++ [47]).length + x.size ≤ 1099511627800) := by have := hle2.out; show _ ≤ _; simp only [List.length_append, List.length_cons, List.length_nil]; omega
            clear c0
            go_wp2_with (at_builtin; refine wpList_append_text rfl (.tmp 34) (.tmp 38) rfl w.heap.size _ (J ++ [47]) x rfl h1 rfl Hl2 hbs' ?_)
            intro v2 w2 h3 h4
            go_wp2
            refine ⟨⟨k + 1, by omega, by go_num, ?_, (hBe.trans h2).trans h4⟩, by simp [intOf]; omega⟩
            have e := HJ.out
            rw [if_neg h0] at e
            rw [e]
            simpa using h3
        · obtain rfl : k = l.length := by omega
          rw [List.take_length] at hO
          have i1 : ¬ (l.length : Int) < (l.length : Int) := by omega
          have hcv := conv_byts hO.byts
          go_wp2
          go_ret
          exact ⟨_, rfl, str_toList _, hBe⟩

end Go.Proofs.Ytppcfidaalejfaa
