/-
  THE WALKS OF count, Text.
-/
import Derived.Test.YtohdakjfacalbaaWUint
namespace Go.Proofs.Ytohdakjfacalbaa
open Go.RowKit

/-- how many bytes or texts are said to follow: the number, the error, how many bytes the number has -/
def askN (bs : List UInt8) (a : Nat) (most : Int) : Nat × Nat × Nat :=
  match Wm.getU 0 (bs.drop a) with
  | none => (0, 7, 0)
  | some (n, c) => if most < 0 ∨ most < (n : Int) then (0, 3, 0) else if bs.length - (a + c) < n then (0, 7, 0) else (n, 0, c)

set_option maxRecDepth 100000 in
set_option maxHeartbeats 1000000 in
theorem count_any (p : Nat) (v : Value) (a base : Nat) (bs : List UInt8) (most : Int) (w : World) (hc : HasCur w p v a) (hown : Own w base v bs) (ha : a ≤ bs.length) (hbs : bs.length ≤ 1099511627776) (hmost : most ≤ 9223372036854775807) :
    Calls Try.prog 78 #[.pointer (some ⟨p, 0, none⟩), .int .i64 most] w fun e w' => e = .returned (.tuple #[.int .i64 ((askN bs a most).1 : Int), .int .i64 ((askN bs a most).2.1 : Int)]) ∧
      (∃ x, HasCur w' p v x ∧ x ≤ bs.length ∧ ((askN bs a most).2.1 = 0 → x = a + (askN bs a most).2.2)) ∧ w.grownBy w' (some p) := by
  obtain ⟨ad, cp, rfl, _, _, _⟩ := hown.byts
  have Hmost : Hid (most ≤ 9223372036854775807) := hmost
  clear hmost
  go_enter Try.func78, Try.ntmps78
  go_wp2_with fail
  refine (number_any p _ a base bs _ hc hown ha hbs).mono ?_
  rintro e w1 ⟨n, c, hr, hc1, hac, hg1⟩
  rcases hr with ⟨rfl, hr⟩ | ⟨rfl, hr⟩
  · by_cases hneg : most < 0
    · have Hask : Hid (askN bs a most = (0, 3, 0)) := by show _ = _; simp [askN, hr, hneg]
      clear hr
      go_wp2
      go_ret2
      rw [Hask.out]
      exact ⟨rfl, ⟨a + c, hc1, hac, by simp⟩, hg1⟩
    · by_cases hlong : most < (n : Int)
      · have Hask : Hid (askN bs a most = (0, 3, 0)) := by show _ = _; simp [askN, hr, hlong]
        have hw : IntKind.u64.wrap most = most := by
          obtain ⟨m, rfl⟩ := Int.eq_ofNat_of_zero_le (show 0 ≤ most by omega)
          exact u64_wrap_small m (by have := Hmost.out; omega)
        clear hr
        go_wp2
        go_ret2
        rw [Hask.out]
        exact ⟨rfl, ⟨a + c, hc1, hac, by simp⟩, hg1⟩
      · have hw : IntKind.u64.wrap most = most := by
          obtain ⟨m, rfl⟩ := Int.eq_ofNat_of_zero_le (show 0 ≤ most by omega)
          exact u64_wrap_small m (by have := Hmost.out; omega)
        by_cases hleft : bs.length - (a + c) < n
        · have Hask : Hid (askN bs a most = (0, 7, 0)) := by show _ = _; simp [askN, hr, hneg, hlong, hleft]
          clear hr
          have hleft' : ((bs.length - (a + c) : Nat) : Int) < (n : Int) := by omega
          have hl2 : bs.length - (a + c) ≤ 1099511627776 := by omega
          generalize hL : bs.length - (a + c) = L at hleft' hl2
          have HL : Hid (bs.length - (a + c) = L) := hL
          clear hL hleft
          go_wp2_with (go_at_call 76; refine (Left_any p ad bs.length cp (a + c) _ hc1 hac hbs).mono ?_; rintro e w2 ⟨rfl, q, rfl⟩; rw [HL.out])
          go_ret2
          rw [Hask.out]
          exact ⟨rfl, ⟨a + c, hc1.drewN _, hac, by simp⟩, grow_drewN hg1 _⟩
        · have Hask : Hid (askN bs a most = (n, 0, c)) := by show _ = _; simp [askN, hr, hneg, hlong, hleft]
          clear hr
          have hleft' : ¬ ((bs.length - (a + c) : Nat) : Int) < (n : Int) := by omega
          have hl2 : bs.length - (a + c) ≤ 1099511627776 := by omega
          have hn : (n : Int) ≤ 1099511627776 := by omega
          generalize hL : bs.length - (a + c) = L at hleft' hl2
          have HL : Hid (bs.length - (a + c) = L) := hL
          clear hL hleft
          go_wp2_with (go_at_call 76; refine (Left_any p ad bs.length cp (a + c) _ hc1 hac hbs).mono ?_; rintro e w2 ⟨rfl, q, rfl⟩; rw [HL.out])
          go_ret2
          rw [Hask.out]
          exact ⟨rfl, ⟨a + c, hc1.drewN _, hac, fun _ => rfl⟩, grow_drewN hg1 _⟩
  · have Hask : Hid (askN bs a most = (0, 7, 0)) := by show _ = _; simp [askN, hr]
    clear hr
    go_wp2
    go_ret2
    rw [Hask.out]
    exact ⟨rfl, ⟨a + c, hc1, hac, by simp⟩, hg1⟩

/-- P1.3: the text, the error, how many bytes are gone over -/
def askT (bs : List UInt8) (a : Nat) (most : Int) : List UInt8 × Nat × Nat :=
  if (askN bs a most).2.1 = 0 then ((bs.drop (a + (askN bs a most).2.2)).take (askN bs a most).1, 0, (askN bs a most).2.2 + (askN bs a most).1) else ([], (askN bs a most).2.1, 0)

theorem askN_ok {bs : List UInt8} {a : Nat} {most : Int} (h : (askN bs a most).2.1 = 0) : a + (askN bs a most).2.2 + (askN bs a most).1 ≤ bs.length ∧ a < bs.length := by
  unfold askN at *
  cases hg : Wm.getU 0 (bs.drop a) with
  | none => rw [hg] at h; simp at h
  | some q =>
    obtain ⟨n, c⟩ := q
    rw [hg] at h
    simp only at h ⊢
    by_cases h1 : most < 0 ∨ most < (n : Int)
    · rw [if_pos h1] at h; simp at h
    rw [if_neg h1] at h ⊢
    by_cases h2 : bs.length - (a + c) < n
    · rw [if_pos h2] at h; simp at h
    rw [if_neg h2]
    have := (Wm.put_get hg).2.1
    have h3 := (Wm.put_get hg).2.2.1
    simp only [List.length_drop] at this
    exact ⟨by simp only; omega, by omega⟩

set_option maxRecDepth 100000 in
set_option maxHeartbeats 1000000 in
theorem Text_any (p : Nat) (v : Value) (a base : Nat) (bs : List UInt8) (most : Int) (w : World) (hc : HasCur w p v a) (hown : Own w base v bs) (ha : a ≤ bs.length) (hbs : bs.length ≤ 1099511627776) (hmost : most ≤ 9223372036854775807) :
    Calls Try.prog 65 #[.pointer (some ⟨p, 0, none⟩), .int .i64 most] w fun e w' => e = .returned (.tuple #[.string (str (askT bs a most).1), .int .i64 ((askT bs a most).2.1 : Int)]) ∧
      HasCur w' p v (a + (askT bs a most).2.2) ∧ w.grownBy w' (some p) := by
  have hmf : ∀ (fn : Fn) (first cap : Array Value) (w : World), (Instr.makeFunc fn first cap).run Try.prog w = .ok (.func fn first cap) w := fun _ _ _ _ => rfl
  have hp := hc.lt
  have c1 := hc.cell1
  have Hmost : Hid (most ≤ 9223372036854775807) := hmost
  clear hmost
  go_enter_defers Try.func65, Try.ntmps65
  go_wp2_with fail
  have b0 := ((Box.new w (.pointer (some ⟨p, 0, none⟩)) 69).alloc (.cells #[.int .i64 0] 29)).alloc (.cells #[.int .i64 (a : Int)] 3)
  have b1 := (Box.new (w.alloc (.cells #[.pointer (some ⟨p, 0, none⟩)] 69)) (.int .i64 0) 29).alloc (.cells #[.int .i64 (a : Int)] 3)
  have b2 := Box.new ((w.alloc (.cells #[.pointer (some ⟨p, 0, none⟩)] 69)).alloc (.cells #[.int .i64 0] 29)) (.int .i64 (a : Int)) 3
  simp only [World.size_alloc] at b1 b2
  have hc3 := ((hc.alloc (.cells #[.pointer (some ⟨p, 0, none⟩)] 69)).alloc (.cells #[.int .i64 0] 29)).alloc (.cells #[.int .i64 (a : Int)] 3)
  have ho3 := ((hown.alloc (.cells #[.pointer (some ⟨p, 0, none⟩)] 69)).alloc (.cells #[.int .i64 0] 29)).alloc (.cells #[.int .i64 (a : Int)] 3)
  have hg3 := grow_alloc (grow_alloc (grow_alloc (grownBy_refl w (some p)) (.cells #[.pointer (some ⟨p, 0, none⟩)] 69)) (.cells #[.int .i64 0] 29)) (.cells #[.int .i64 (a : Int)] 3)
  refine (count_any p v a base bs most _ hc3 ho3 ha hbs Hmost.out).mono ?_
  rintro e w1 ⟨rfl, ⟨x, hc1, hx, hxa⟩, hg1⟩
  have ho1 := ho3.kept hc3 hg1
  replace b0 := b0.kept hg1 (by simp; omega)
  replace b1 := b1.kept hg1 (by simp; omega)
  replace b2 := b2.kept hg1 (by simp; omega)
  replace hg1 := grownBy_trans hg3 hg1
  clear hg3 hc3 ho3 c1
  generalize hH : w.heap.size = H at *
  have HH : Hid (w.heap.size = H) := hH
  clear hH
  have d0 := b0.cell
  have d1 := b1.cell
  have d2 := b2.cell
  have f1 := b1.free
  have hpH : p < H := hp
  clear hc
  by_cases her : (askN bs a most).2.1 = 0
  · have hok := askN_ok her
    have Hask : Hid (askT bs a most = ((bs.drop (a + (askN bs a most).2.2)).take (askN bs a most).1, 0, (askN bs a most).2.2 + (askN bs a most).1)) := by show _ = _; rw [askT, if_pos her]
    have hxe := hxa her
    rw [her]
    generalize (askN bs a most).1 = n at *
    generalize (askN bs a most).2.2 = c at *
    subst hxe
    clear her hxa
    rcases ho1.2 with ⟨hv0, h0⟩ | ⟨g, cap, cur, hv, hgb, hgg, hle, hcm, hcs, htk⟩
    · omega
    have hgp : ¬ g = p := fun e => ho1.ne_cur hc1 (by rw [hv, ← e]; rfl)
    have hgH : ¬ g = H + 1 := by
      intro e; subst e; unfold Box at b1; rw [hgg] at b1; simp at b1
    subst hv
    have e0 := hc1.cell0
    have e1 := hc1.cell1
    have g1 := hc1.free 1
    have hby : Byts w1 w1.heap.size (.slice (some ⟨g, 0, none⟩) bs.length cap) bs := ho1.byts
    clear htk hcs hgg
    obtain ⟨l, hl⟩ : ∃ l, l = a + c := ⟨_, rfl⟩
    rw [← hl] at e1 hc1
    have i1 : (0 : Int) ≤ (l : Int) := by omega
    have i2 : (l : Int) ≤ (l : Int) + (n : Int) := by omega
    have i3 : (l : Int) + (n : Int) ≤ (cap : Int) := by omega
    have HL : Hid (l = a + c) := hl
    have hln : l + n ≤ bs.length := by omega
    have hcap : cap ≤ 9223372036854775807 := hcm
    have hcv := conv_byts ((((hby.kept (grownBy_set w1 (H + 1) 0 (.int .i64 0)) (Nat.le_refl _) (by simpa using hgH)).kept (grownBy_set _ p 1 (.int .i64 ((l : Int) + (n : Int)))) (by simp [World.setCell]) (by simpa using hgp)).kept (grow_drew (grownBy_refl _ (some p))) (by simp [World.setCell]) (by simpa using hgp)).sub (cap := cap) l n hln (by omega))
    rw [Nat.add_sub_cancel_left] at hcv
    have HT : Hid (str (askT bs a most).1 = str ((bs.drop l).take n)) := by rw [Hask.out, HL.out]; rfl
    clear hl hok
    generalize ht : (bs.drop l).take n = t at hcv HT
    clear ht
    rcases Nat.eq_or_lt_of_le (show l ≤ cap by omega) with hcl | hcl
    · subst hcl
      have es : (Value.slice (some ⟨g, 0, none⟩) n (l - l)) = .slice (some ⟨g, 0, none⟩) 0 0 := by rw [show n = 0 by omega, Nat.sub_self]
      rw [if_pos rfl, es] at hcv
      clear es
      go_wp2
      go_region
      all_goals try go_wp2
      refine leaves_cons (f := 77) (args := #[.pointer (some ⟨H, 0, none⟩), .pointer (some ⟨H + 1 + 1, 0, none⟩), .pointer (some ⟨H + 1, 0, none⟩)]) (by simp) (by simp [go_sem]) ?_
      refine (closeT_ok H (H + 1 + 1) (H + 1) p (a : Int) .returning _ ?_ ?_ ?_).mono ?_
      · exact (((b0.set_other (by omega) _).set_other (by omega) _).set_other (by omega) _).cell
      · exact (((b2.set_other (by omega) _).set_other (by omega) _).set_other (by omega) _).cell
      · exact (((b1.set _).set_other (by omega) _).set _).cell
      rintro e u' w'' ⟨rfl, rfl, rfl⟩
      have fin := (((b1.set (.int .i64 0)).set_other (by omega : H + 1 ≠ p) (j := 1) (.int .i64 ((l : Int) + (n : Int)))).set (.int .i64 0)).cell
      simp only [Leaves, settle, results, Try.results65]
      simp [go_sem, fin]
      rw [HT.out, Hask.out]
      refine ⟨⟨rfl, rfl⟩, ?_, grow_drew (grow_set_new (grow_set (grow_set_new hg1 (by rw [HH.out]; omega) _ _) _ _) (by rw [HH.out]; omega) _ _)⟩
      have h5 := ((hc1.set_other (by omega : p ≠ H + 1) (j := 0) (.int .i64 0)).set (l + n)).set_other (by omega : p ≠ H + 1) (j := 0) (.int .i64 0)
      have e5 : a + (c + n) = l + n := by rw [HL.out]; omega
      have e6 : ((l + n : Nat) : Int) = (l : Int) + (n : Int) := by omega
      rw [e6] at h5
      rw [e5]
      exact h5
    · have hne : ¬ cap = l := by omega
      rw [if_neg hne] at hcv
      go_wp2
      go_region
      all_goals try go_wp2
      refine leaves_cons (f := 77) (args := #[.pointer (some ⟨H, 0, none⟩), .pointer (some ⟨H + 1 + 1, 0, none⟩), .pointer (some ⟨H + 1, 0, none⟩)]) (by simp) (by simp [go_sem]) ?_
      refine (closeT_ok H (H + 1 + 1) (H + 1) p (a : Int) .returning _ ?_ ?_ ?_).mono ?_
      · exact (((b0.set_other (by omega) _).set_other (by omega) _).set_other (by omega) _).cell
      · exact (((b2.set_other (by omega) _).set_other (by omega) _).set_other (by omega) _).cell
      · exact (((b1.set _).set_other (by omega) _).set _).cell
      rintro e u' w'' ⟨rfl, rfl, rfl⟩
      have fin := (((b1.set (.int .i64 0)).set_other (by omega : H + 1 ≠ p) (j := 1) (.int .i64 ((l : Int) + (n : Int)))).set (.int .i64 0)).cell
      simp only [Leaves, settle, results, Try.results65]
      simp [go_sem, fin]
      rw [HT.out, Hask.out]
      refine ⟨⟨rfl, rfl⟩, ?_, grow_drew (grow_set_new (grow_set (grow_set_new hg1 (by rw [HH.out]; omega) _ _) _ _) (by rw [HH.out]; omega) _ _)⟩
      have h5 := ((hc1.set_other (by omega : p ≠ H + 1) (j := 0) (.int .i64 0)).set (l + n)).set_other (by omega : p ≠ H + 1) (j := 0) (.int .i64 0)
      have e5 : a + (c + n) = l + n := by rw [HL.out]; omega
      have e6 : ((l + n : Nat) : Int) = (l : Int) + (n : Int) := by omega
      rw [e6] at h5
      rw [e5]
      exact h5
  · have Hask : Hid (askT bs a most = ([], (askN bs a most).2.1, 0)) := by show _ = _; rw [askT, if_neg her]
    generalize hE : (askN bs a most).2.1 = er at *
    generalize (askN bs a most).1 = n at *
    clear hE hxa
    have her' : ((er : Int) != 0) = true := by rw [bne_iff_ne]; omega
    go_wp2
    go_region
    all_goals try go_wp2
    refine leaves_cons (f := 77) (args := #[.pointer (some ⟨H, 0, none⟩), .pointer (some ⟨H + 1 + 1, 0, none⟩), .pointer (some ⟨H + 1, 0, none⟩)]) (by simp) (by simp [go_sem]) ?_
    refine (closeT_back H (H + 1 + 1) (H + 1) p (a : Int) (x : Int) er .returning _ ?_ ?_ ?_ her' ?_ ?_).mono ?_
    · exact ((b0.set_other (by omega) _).set_other (by omega) _).cell
    · exact ((b2.set_other (by omega) _).set_other (by omega) _).cell
    · exact ((b1.set _).set _).cell
    · exact ((hc1.set_other (by omega) _).set_other (by omega) _).cell1
    · exact ((hc1.set_other (by omega) _).set_other (by omega) _).free 1
    rintro e u' w'' ⟨rfl, rfl, rfl⟩
    have fin := (((b1.set (.int .i64 (er : Int))).set (.int .i64 (er : Int))).set_other (by omega : H + 1 ≠ p) (j := 1) (.int .i64 (a : Int))).cell
    simp only [Leaves, settle, results, Try.results65]
    simp [go_sem, fin]
    rw [Hask.out]
    exact ⟨⟨rfl, rfl⟩, ((hc1.set_other (by omega) _).set_other (by omega) _).set a, grow_drew (grow_set (grow_set_new (grow_set_new hg1 (by rw [HH.out]; omega) _ _) (by rw [HH.out]; omega) _ _) _ _)⟩
end Go.Proofs.Ytohdakjfacalbaa
