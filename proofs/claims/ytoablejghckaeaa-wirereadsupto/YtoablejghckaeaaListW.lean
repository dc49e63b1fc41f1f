/-
  THE WALK OF List.
-/
import Derived.Test.YtoablejghckaeaaList
namespace Go.Proofs.Ytoablejghckaeaa
open Go.RowKit

/-- what holds at the head of each round of List -/
def LInv (w : World) (H p : Nat) (v : Value) (bs : List UInt8) (a n : Nat) (longest : Int) (R : List (List UInt8) × Nat × Nat) (vl : Value) (wr : World) : Prop :=
  ∃ (done : List ByteArray) (er x k : Nat), OwnS wr (H + 3) vl done ∧ Box wr H (.pointer (some ⟨p, 0, none⟩)) 33 ∧ Box wr (H + 1) (.int .i64 (er : Int)) 29 ∧ Box wr (H + 1 + 1) (.int .i64 (a : Int)) 3 ∧
    HasCur wr p v x ∧ x ≤ bs.length ∧ w.grownBy wr (some p) ∧ H + 3 ≤ wr.heap.size ∧
    ((er = 0 ∧ x = a + k ∧ done.length ≤ n ∧ n ≤ bs.length ∧ R = glue (toL done) k (getTs bs longest (n - done.length) x)) ∨ (er ≠ 0 ∧ R = ([], er, 0)))

theorem grow_own {w w1 w2 : World} {p : Nat} {row : Option Nat} (h : w.grownBy w1 (some p)) (k : w1.grownBy w2 row) (hr : ∀ q, row = some q → w.heap.size ≤ q) : w.grownBy w2 (some p) :=
  ⟨k.os.trans h.os, k.tape.trans h.tape, k.output.trans h.output, Nat.le_trans h.size k.size, fun i hi hne => (k.block i (Nat.lt_of_lt_of_le hi h.size) (fun e => by have := hr i e.symm; omega)).trans (h.block i hi hne)⟩
theorem OwnS.set_below {w : World} {base q j : Nat} {v : Value} {l : List ByteArray} (h : OwnS w base v l) (hq : q < base) (u : Value) : OwnS (w.setCell ⟨q, j, none⟩ u) base v l := ownsRow_setCell_below h hq u
theorem OwnS.base {w : World} {b b' : Nat} {v : Value} {l : List ByteArray} (h : OwnS w b v l) (hb : b' ≤ b) : OwnS w b' v l := by
  obtain ⟨h1, h2⟩ := h
  refine ⟨h1, ?_⟩
  rcases h2 with h2 | ⟨g, cap, cur, hv, hg, r⟩
  · exact .inl h2
  · exact .inr ⟨g, cap, cur, hv, by omega, r⟩

set_option maxRecDepth 100000 in
set_option maxHeartbeats 2000000 in
theorem List_any (p : Nat) (v : Value) (a base : Nat) (bs : List UInt8) (most longest : Int) (w : World) (hc : HasCur w p v a) (hown : Own w base v bs) (ha : a ≤ bs.length) (hbs : bs.length ≤ 1099511627776) (hmost : most ≤ 9223372036854775807) (hlong : longest ≤ 9223372036854775807) :
    Calls Try.prog 17 #[.pointer (some ⟨p, 0, none⟩), .int .i64 most, .int .i64 longest] w fun e w' => ∃ vl done, e = .returned (.tuple #[vl, .int .i64 ((askL bs a most longest).2.1 : Int)]) ∧ OwnS w' w.heap.size vl done ∧ toL done = (askL bs a most longest).1 ∧
      HasCur w' p v (a + (askL bs a most longest).2.2) ∧ w.grownBy w' (some p) := by
  have hmf : ∀ (fn : Fn) (first cap : Array Value) (w : World), (Instr.makeFunc fn first cap).run Try.prog w = .ok (.func fn first cap) w := fun _ _ _ _ => rfl
  have hp := hc.lt
  have c1 := hc.cell1
  have Hmost : Hid (most ≤ 9223372036854775807) := hmost
  have Hlong : Hid (longest ≤ 9223372036854775807) := hlong
  clear hmost hlong
  go_enter_defers Try.func17, Try.ntmps17
  go_wp2_with fail
  have b0 := ((Box.new w (.pointer (some ⟨p, 0, none⟩)) 33).alloc (.cells #[.int .i64 0] 29)).alloc (.cells #[.int .i64 (a : Int)] 3)
  have b1 := (Box.new (w.alloc (.cells #[.pointer (some ⟨p, 0, none⟩)] 33)) (.int .i64 0) 29).alloc (.cells #[.int .i64 (a : Int)] 3)
  have b2 := Box.new ((w.alloc (.cells #[.pointer (some ⟨p, 0, none⟩)] 33)).alloc (.cells #[.int .i64 0] 29)) (.int .i64 (a : Int)) 3
  simp only [World.size_alloc] at b1 b2
  have hc3 := ((hc.alloc (.cells #[.pointer (some ⟨p, 0, none⟩)] 33)).alloc (.cells #[.int .i64 0] 29)).alloc (.cells #[.int .i64 (a : Int)] 3)
  have ho3 := ((hown.alloc (.cells #[.pointer (some ⟨p, 0, none⟩)] 33)).alloc (.cells #[.int .i64 0] 29)).alloc (.cells #[.int .i64 (a : Int)] 3)
  have hg3 := grow_alloc (grow_alloc (grow_alloc (grownBy_refl w (some p)) (.cells #[.pointer (some ⟨p, 0, none⟩)] 33)) (.cells #[.int .i64 0] 29)) (.cells #[.int .i64 (a : Int)] 3)
  refine (count_any p v a base bs most _ hc3 ho3 ha hbs Hmost.out).mono ?_
  rintro e w1 ⟨rfl, ⟨x, hc1, hx, hxa⟩, hg1⟩
  have hs1 : w.heap.size + 3 ≤ w1.heap.size := by have := hg1.size; simp at this; omega
  replace b0 := b0.kept hg1 (by simp; omega)
  replace b1 := b1.kept hg1 (by simp; omega)
  replace b2 := b2.kept hg1 (by simp; omega)
  replace hg1 := grownBy_trans hg3 hg1
  clear hg3 hc3 ho3 c1
  generalize hH : w.heap.size = H at *
  have HH : Hid (w.heap.size = H) := hH
  clear hH
  have d0 := b0.cell
  have d1 := b1.cell
  have d2 := b2.cell
  have f1 := b1.free
  have hpH : p < H := hp
  have Hstart : Hid (((askN bs a most).2.1 = 0 ∧ x = a + (askN bs a most).2.2 ∧ (askN bs a most).1 ≤ bs.length ∧ askL bs a most longest = glue [] (askN bs a most).2.2 (getTs bs longest (askN bs a most).1 x)) ∨ ((askN bs a most).2.1 ≠ 0 ∧ askL bs a most longest = ([], (askN bs a most).2.1, 0))) := by
    by_cases her : (askN bs a most).2.1 = 0
    · refine .inl ⟨her, hxa her, by have := (askN_ok her).1; omega, ?_⟩
      rw [askL, if_pos her, hxa her]; unfold glue; simp only [List.nil_append]
    · exact .inr ⟨her, by rw [askL, if_neg her]⟩
  generalize hR : askL bs a most longest = R at *
  generalize hn0 : (askN bs a most).1 = n at *
  generalize (askN bs a most).2.1 = er0 at *
  generalize (askN bs a most).2.2 = c at *
  have HR : Hid (askL bs a most longest = R) := hR
  clear hxa hR hn0
  go_wp2
  go_loopw [6] (fun vl wr => LInv w H p v bs a n longest R vl wr) (fun vl _ => n - lenV vl)
  case atStart =>
    refine ⟨[], er0, x, c, OwnS.nil _ _, b0.set_other (by omega) _, b1.set _, b2.set_other (by omega) _, hc1.set_other (by omega) _, hx, grow_set_new hg1 (by rw [HH.out]; omega) _ _, by simpa [World.setCell] using hs1, ?_⟩
    rcases Hstart.out with ⟨h1, h2, h3, h4⟩ | ⟨h1, h2⟩
    · exact .inl ⟨h1, h2, by simp, h3, h4⟩
    · exact .inr ⟨h1, h2⟩
  case round =>
    obtain ⟨done, er, x, k, hso, r0, r1, r2, hcr, hxr, hgr, hsr, hst⟩ := hrel
    obtain ⟨ad, cp, rfl⟩ := hso.form
    have q0 := r0.cell
    have q1 := r1.cell
    have q2 := r2.cell
    have p1 := r1.free
    have hor := hown.kept hc hgr
    clear d0 d1 d2 f1 b0 b1 b2 hc1 Hstart
    rcases hst with ⟨rfl, hxk, hdl, hnb, hres⟩ | ⟨hne, hres⟩
    · by_cases hlt : done.length < n
      · have hlt' : (done.length : Int) < (n : Int) := by omega
        have Hlen : Hid (done.length ≤ 1099511627800) := by show _ ≤ _; omega
        have Hres : Hid (R = glue (toL done) k (getTs bs longest (n - done.length - 1 + 1) x)) := by
          show _ = _
          rw [hres]; congr 2; omega
        have Hxk : Hid (x = a + k) := hxk
        clear hres hxk
        go_wp2_with fail
        refine (Text_any p v x base bs longest _ hcr hor hxr hbs Hlong.out).mono ?_
        rintro e w2 ⟨rfl, hc2, hg2⟩
        have t0 := r0.kept hg2 (by simp; omega)
        have t1 := r1.kept hg2 (by simp; omega)
        have t2 := r2.kept hg2 (by simp; omega)
        have hso2 := hso.kept hg2 (by omega)
        have u0 := t0.cell
        have u1 := t1.cell
        have u2 := t2.cell
        have v1 := t1.free
        have hs2 : H + 3 ≤ w2.heap.size := Nat.le_trans hsr hg2.size
        clear q0 q1 q2 p1 r0 r1 r2
        have hx2 := askT_le bs x longest hxr
        generalize hT : askT bs x longest = T at *
        have HT : Hid (askT bs x longest = T) := hT
        clear hT
        obtain ⟨tt, te, tc⟩ := T
        simp only at *
        go_wp2_with (at_builtin; go_must (refine wpList_append_str (w2.setCell ⟨H + 1, 0, none⟩ (.int .i64 (te : Int))) rfl (.tmp 38) (.tmp 40) rfl (H + 3) _ done (str tt) rfl (hso2.set_below (by omega) _) w2.heap.size (by simp [World.setCell]) rfl Hlen ?hb ?_))
        case hb => simpa [World.setCell] using hs2
        intro v' w3 hso3 hg3
        go_wp2
        have hfar : ∀ q, q < H + 3 → some q ≠ (Value.slice ad done.length cp).ownBlock := fun q hq e => by have := (World.ownsRow.lt hso2 q e.symm).1; omega
        have hlen3 : lenV v' = done.length + 1 := by
          obtain ⟨ad3, c3, e3⟩ := hso3.form
          rw [e3]; simp [lenV]
        refine ⟨⟨done ++ [str tt], te, x + tc, k + tc, hso3, (t0.set_other (by omega) _).kept hg3 (hfar _ (by omega)), (t1.set _).kept hg3 (hfar _ (by omega)), (t2.set_other (by omega) _).kept hg3 (hfar _ (by omega)), (hc2.set_other (by omega) _).kept hg3 (hfar _ (by omega)), hx2, ?_, ?_, ?_⟩, ?_⟩
        · exact grow_own (grow_set_new (grownBy_trans hgr hg2) (by rw [HH.out]; omega) _ _) hg3 fun q hq => by rw [HH.out]; have := (World.ownsRow.lt hso2 q hq).1; omega
        · have := hg3.size; simp [World.setCell] at this; omega
        · have h1 := HT.out
          by_cases hte : te = 0
          · refine .inl ⟨hte, by rw [Hxk.out]; omega, by simp; omega, hnb, ?_⟩
            have h2 := glue_more bs longest (toL done) k (n - done.length - 1) x (by rw [h1]; exact hte)
            rw [h1] at h2
            rw [Hres.out, h2]
            have e1 : toL (done ++ [str tt]) = toL done ++ [tt] := by simp [toL, str_toList]
            have e2 : n - (done ++ [str tt]).length = n - done.length - 1 := by simp; omega
            rw [e1, e2]
          · refine .inr ⟨hte, ?_⟩
            have h2 := glue_bad bs longest (toL done) k (n - done.length - 1) x (by rw [h1]; exact hte)
            rw [h1] at h2
            rw [Hres.out, h2]
        · rw [hlen3]; simp only [lenV]; omega
      · have hlt' : ¬ (done.length : Int) < (n : Int) := by omega
        have Hres : Hid (R = (toL done, 0, k)) := by
          show _ = _
          rw [hres, show n - done.length = 0 by omega]; simp [glue, getTs]
        have Hxk : Hid (x = a + k) := hxk
        clear hres hxk
        go_wp2
        refine leaves_cons (f := 38) (args := #[.pointer (some ⟨H, 0, none⟩), .pointer (some ⟨H + 1 + 1, 0, none⟩), .pointer (some ⟨H + 1, 0, none⟩)]) (by simp) (by simp [go_sem]) ?_
        refine (close38_ok H (H + 1 + 1) (H + 1) p (a : Int) .returning _ ?_ ?_ ?_).mono ?_
        · exact (r0.set_other (by omega) _).cell
        · exact (r2.set_other (by omega) _).cell
        · exact (r1.set _).cell
        rintro e u' w'' ⟨rfl, rfl, rfl⟩
        have fin := (r1.set (.int .i64 0)).cell
        simp only [Leaves, settle, results, Try.results17]
        simp [go_sem, fin]
        rw [HR.out, Hres.out]
        refine ⟨_, ⟨rfl, rfl⟩, done, ?_, rfl, ?_, grow_set_new hgr (by rw [HH.out]; omega) _ _⟩
        · exact (hso.set_below (by omega) _).base (by rw [HH.out]; omega)
        · show HasCur _ p v (a + k)
          rw [← Hxk.out]
          exact hcr.set_other (by omega) _
    · have hne' : ((er : Int) == 0) = false := by rw [beq_eq_false_iff_ne]; omega
      have hne2 : ((er : Int) != 0) = true := by rw [bne_iff_ne]; omega
      have Hres : Hid (R = ([], er, 0)) := hres
      clear hres
      go_wp2
      go_region
      all_goals try go_wp2
      refine leaves_cons (f := 38) (args := #[.pointer (some ⟨H, 0, none⟩), .pointer (some ⟨H + 1 + 1, 0, none⟩), .pointer (some ⟨H + 1, 0, none⟩)]) (by simp) (by simp [go_sem]) ?_
      refine (close38_back H (H + 1 + 1) (H + 1) p (a : Int) (x : Int) er .returning _ ?_ ?_ ?_ hne2 ?_ ?_).mono ?_
      · exact (r0.set_other (by omega) _).cell
      · exact (r2.set_other (by omega) _).cell
      · exact (r1.set _).cell
      · exact (hcr.set_other (by omega) _).cell1
      · exact (hcr.set_other (by omega) _).free 1
      rintro e u' w'' ⟨rfl, rfl, rfl⟩
      have fin := ((r1.set (.int .i64 (er : Int))).set_other (by omega : H + 1 ≠ p) (j := 1) (.int .i64 (a : Int))).cell
      simp only [Leaves, settle, results, Try.results17]
      simp [go_sem, fin]
      rw [HR.out, Hres.out]
      exact ⟨_, ⟨rfl, rfl⟩, [], OwnS.nil _ _, rfl, (hcr.set_other (by omega) _).set a, grow_drew (grow_set (grow_set_new hgr (by rw [HH.out]; omega) _ _) _ _)⟩
end Go.Proofs.Ytoablejghckaeaa
