/-
  THE WALKS OF At, Left, Uint.
-/
import Derived.Test.YtohdakjfacalbaaWNumber
import Derived.Test.YtohdakjfacalbaaWClose
namespace Go.Proofs.Ytohdakjfacalbaa
open Go.RowKit

theorem At_any (p : Nat) (v : Value) (a : Nat) (w : World) (hc : HasCur w p v a) :
    Calls Try.prog 66 #[.pointer (some ⟨p, 0, none⟩)] w fun e w' => e = .returned (.int .i64 (a : Int)) ∧ w' = w := by
  have c1 := hc.cell1
  go_enter Try.func66, Try.ntmps66
  go_wp2
  go_ret
  exact ⟨rfl, rfl⟩
theorem At_nil (w : World) : Calls Try.prog 66 #[.pointer none] w fun e w' => e = .returned (.int .i64 0) ∧ w' = w := by
  go_enter Try.func66, Try.ntmps66
  go_wp2
  go_ret
  exact ⟨rfl, rfl⟩
theorem Left_any (p : Nat) (ad : Option Addr) (n cp : Nat) (a : Nat) (w : World) (hc : HasCur w p (.slice ad n cp) a) (ha : a ≤ n) (hn : n ≤ 1099511627776) :
    Calls Try.prog 76 #[.pointer (some ⟨p, 0, none⟩)] w fun e w' => e = .returned (.int .i64 ((n - a : Nat) : Int)) ∧ ∃ q, w' = w.drewN q := by
  have c0 := hc.cell0
  have c1 := hc.cell1
  go_enter Try.func76, Try.ntmps76
  go_wp2
  go_quiet (fail)
  go_wp2
  go_ret
  refine ⟨?_, _, rfl⟩
  have e : ((n - a : Nat) : Int) = (n : Int) - (a : Int) := by omega
  rw [e]; rfl
theorem Left_nil (w : World) : Calls Try.prog 76 #[.pointer none] w fun e w' => e = .returned (.int .i64 0) ∧ w' = w := by
  go_enter Try.func76, Try.ntmps76
  go_wp2
  go_ret
  exact ⟨rfl, rfl⟩

/-- P1.3: the number, the error, how many bytes are gone over -/
def askU (bs : List UInt8) (a most : Nat) : Nat × Nat × Nat :=
  match Wm.getU 0 (bs.drop a) with
  | none => (0, 7, 0)
  | some (n, c) => if n ≤ most then (n, 0, c) else (0, 3, 0)

set_option maxRecDepth 100000 in
set_option maxHeartbeats 1000000 in
theorem Uint_any (p : Nat) (v : Value) (a base : Nat) (bs : List UInt8) (most : Nat) (w : World) (hc : HasCur w p v a) (hown : Own w base v bs) (ha : a ≤ bs.length) (hbs : bs.length ≤ 1099511627776) :
    Calls Try.prog 63 #[.pointer (some ⟨p, 0, none⟩), .int .u64 (most : Int)] w fun e w' => e = .returned (.tuple #[.int .u64 ((askU bs a most).1 : Int), .int .i64 ((askU bs a most).2.1 : Int)]) ∧
      HasCur w' p v (a + (askU bs a most).2.2) ∧ w.grownBy w' (some p) := by
  have hmf : ∀ (fn : Fn) (first cap : Array Value) (w : World), (Instr.makeFunc fn first cap).run Try.prog w = .ok (.func fn first cap) w := fun _ _ _ _ => rfl
  have hp := hc.lt
  have c1 := hc.cell1
  go_enter_defers Try.func63, Try.ntmps63
  go_wp2_with fail
  have b0 := ((Box.new w (.pointer (some ⟨p, 0, none⟩)) 69).alloc (.cells #[.int .i64 0] 29)).alloc (.cells #[.int .i64 (a : Int)] 3)
  have b1 := (Box.new (w.alloc (.cells #[.pointer (some ⟨p, 0, none⟩)] 69)) (.int .i64 0) 29).alloc (.cells #[.int .i64 (a : Int)] 3)
  have b2 := Box.new ((w.alloc (.cells #[.pointer (some ⟨p, 0, none⟩)] 69)).alloc (.cells #[.int .i64 0] 29)) (.int .i64 (a : Int)) 3
  simp only [World.size_alloc] at b1 b2
  have hc3 := ((hc.alloc (.cells #[.pointer (some ⟨p, 0, none⟩)] 69)).alloc (.cells #[.int .i64 0] 29)).alloc (.cells #[.int .i64 (a : Int)] 3)
  have ho3 := ((hown.alloc (.cells #[.pointer (some ⟨p, 0, none⟩)] 69)).alloc (.cells #[.int .i64 0] 29)).alloc (.cells #[.int .i64 (a : Int)] 3)
  have hg3 := grow_alloc (grow_alloc (grow_alloc (grownBy_refl w (some p)) (.cells #[.pointer (some ⟨p, 0, none⟩)] 69)) (.cells #[.int .i64 0] 29)) (.cells #[.int .i64 (a : Int)] 3)
  refine (number_any p v a base bs _ hc3 ho3 ha hbs).mono ?_
  rintro e w1 ⟨n, c, hr, hc1, hac, hg1⟩
  replace b0 := b0.kept hg1 (by simp; omega)
  replace b1 := b1.kept hg1 (by simp; omega)
  replace b2 := b2.kept hg1 (by simp; omega)
  replace hg1 := grownBy_trans hg3 hg1
  clear hg3 hc3 ho3 c1
  generalize hH : w.heap.size = H at *
  have HH : Hid (w.heap.size = H) := hH
  clear hH
  have d0 := b0.cell
  have d1 := b1.cell
  have d2 := b2.cell
  have f1 := b1.free
  have hpH : p < H := hp
  clear hc
  rcases hr with ⟨rfl, hr⟩ | ⟨rfl, hr⟩
  · by_cases hm : n ≤ most
    · have Hask : Hid (askU bs a most = (n, 0, c)) := by show _ = _; simp [askU, hr, hm]
      have hm' : ¬ (most : Int) < (n : Int) := by omega
      clear hr hm
      go_wp2
      go_region
      all_goals try go_wp2
      refine leaves_cons (f := 73) (args := #[.pointer (some ⟨H, 0, none⟩), .pointer (some ⟨H + 1 + 1, 0, none⟩), .pointer (some ⟨H + 1, 0, none⟩)]) (by simp) (by simp [go_sem]) ?_
      refine (closeU_ok H (H + 1 + 1) (H + 1) p (a : Int) .returning _ ?_ ?_ ?_).mono ?_
      · exact ((b0.set_other (by omega) _).set_other (by omega) _).cell
      · exact ((b2.set_other (by omega) _).set_other (by omega) _).cell
      · exact ((b1.set _).set _).cell
      rintro e u' w'' ⟨rfl, rfl, rfl⟩
      have fin := ((b1.set (.int .i64 0)).set (.int .i64 0)).cell
      simp only [Leaves, settle, results, Try.results63]
      simp [go_sem, fin]
      rw [Hask.out]
      exact ⟨⟨rfl, rfl⟩, (hc1.set_other (by omega) _).set_other (by omega) _, grow_drew (grow_set_new (grow_set_new hg1 (by rw [HH.out]; omega) _ _) (by rw [HH.out]; omega) _ _)⟩
    · have Hask : Hid (askU bs a most = (0, 3, 0)) := by show _ = _; simp [askU, hr, hm]
      have hm' : (most : Int) < (n : Int) := by omega
      clear hr hm
      go_wp2
      refine leaves_cons (f := 73) (args := #[.pointer (some ⟨H, 0, none⟩), .pointer (some ⟨H + 1 + 1, 0, none⟩), .pointer (some ⟨H + 1, 0, none⟩)]) (by simp) (by simp [go_sem]) ?_
      refine (closeU_back H (H + 1 + 1) (H + 1) p (a : Int) ((a + c : Nat) : Int) 3 .returning _ ?_ ?_ ?_ (by decide) ?_ ?_).mono ?_
      · exact ((b0.set_other (by omega) _).set_other (by omega) _).cell
      · exact ((b2.set_other (by omega) _).set_other (by omega) _).cell
      · exact ((b1.set _).set _).cell
      · exact ((hc1.set_other (by omega) _).set_other (by omega) _).cell1
      · exact ((hc1.set_other (by omega) _).set_other (by omega) _).free 1
      rintro e u' w'' ⟨rfl, rfl, rfl⟩
      have fin := (((b1.set (.int .i64 0)).set (.int .i64 3)).set_other (by omega : H + 1 ≠ p) (j := 1) (.int .i64 (a : Int))).cell
      simp only [Leaves, settle, results, Try.results63]
      simp [go_sem, fin]
      rw [Hask.out]
      exact ⟨⟨rfl, rfl⟩, ((hc1.set_other (by omega) _).set_other (by omega) _).set a, grow_set (grow_set_new (grow_set_new hg1 (by rw [HH.out]; omega) _ _) (by rw [HH.out]; omega) _ _) _ _⟩
  · have Hask : Hid (askU bs a most = (0, 7, 0)) := by show _ = _; simp [askU, hr]
    clear hr
    go_wp2
    go_region
    all_goals try go_wp2
    refine leaves_cons (f := 73) (args := #[.pointer (some ⟨H, 0, none⟩), .pointer (some ⟨H + 1 + 1, 0, none⟩), .pointer (some ⟨H + 1, 0, none⟩)]) (by simp) (by simp [go_sem]) ?_
    refine (closeU_back H (H + 1 + 1) (H + 1) p (a : Int) ((a + c : Nat) : Int) 7 .returning _ ?_ ?_ ?_ (by decide) ?_ ?_).mono ?_
    · exact ((b0.set_other (by omega) _).set_other (by omega) _).cell
    · exact ((b2.set_other (by omega) _).set_other (by omega) _).cell
    · exact ((b1.set _).set _).cell
    · exact ((hc1.set_other (by omega) _).set_other (by omega) _).cell1
    · exact ((hc1.set_other (by omega) _).set_other (by omega) _).free 1
    rintro e u' w'' ⟨rfl, rfl, rfl⟩
    have fin := (((b1.set (.int .i64 7)).set (.int .i64 7)).set_other (by omega : H + 1 ≠ p) (j := 1) (.int .i64 (a : Int))).cell
    simp only [Leaves, settle, results, Try.results63]
    simp [go_sem, fin]
    rw [Hask.out]
    exact ⟨⟨rfl, rfl⟩, ((hc1.set_other (by omega) _).set_other (by omega) _).set a, grow_drew (grow_set (grow_set_new (grow_set_new hg1 (by rw [HH.out]; omega) _ _) (by rw [HH.out]; omega) _ _) _ _)⟩

theorem Uint_nil (most : Int) (w : World) :
    Calls Try.prog 63 #[.pointer none, .int .u64 most] w fun e w' => e = .returned (.tuple #[.int .u64 0, .int .i64 1]) ∧ Below w.heap.size w w' := by
  go_enter_defers Try.func63, Try.ntmps63
  go_wp2
  simp only [bodyPostD, Leaves, results, Try.results63]
  simp [go_sem]
  exact ((Below.refl _ w).alloc (Nat.le_refl _) _).alloc (by simp) _
end Go.Proofs.Ytohdakjfacalbaa
