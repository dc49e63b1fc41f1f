/-
  slices.Concat OF WORDS; WHAT THE PROGRAM's ownWords DOES.
-/
import Derived.Test.YthpipbkbldlfjaaRPrint
import Derived.Lib.AppendZeros
import Derived.Test.YthpipbkbldlfjaaDMay
import Derived.Test.YthpipbkbldlfjaaZWrite
namespace Go.Proofs.Ythpipbkbldlfjaa
open Go.RowKit

theorem flatG_succ {α : Type} (ls : List (List α)) (k : Nat) (h : k < ls.length) : (ls.take (k + 1)).flatten = (ls.take k).flatten ++ ls.getD k [] := by
  rw [List.take_succ_eq_append_getElem h, List.flatten_append]
  simp [List.getD, List.getElem?_eq_getElem h]
theorem flatG_le {α : Type} (ls : List (List α)) (k : Nat) : (ls.take k).flatten.length ≤ ls.flatten.length := by
  conv => rhs; rw [← List.take_append_drop k ls, List.flatten_append, List.length_append]
  omega

theorem Rc.own_zeros {α : Type} (R : Rc α) (w : World) (n c : Nat) (hn : n ≤ c) (hc : c ≤ maxLen) : R.Own (w.alloc (.cells (Builtin.zeroCells R.z.cells n ++ Builtin.zeroCells R.z.cells (c - n)) R.e)) w.heap.size (.slice (some ⟨w.heap.size, 0, none⟩) 0 c) [] := by
  refine ⟨by simp [Rc.vals], .inr ⟨w.heap.size, c, _, rfl, Nat.le_refl _, heap_alloc_new w _, Nat.zero_le _, hc, ?_, by simp [Rc.vals]⟩⟩
  rw [Array.size_append, size_zeroCells, size_zeroCells, R.zk, ← Nat.add_mul]
  congr 1
  omega

set_option maxRecDepth 100000 in
set_option maxHeartbeats 1000000 in
theorem GrowW_nil (n : Nat) (hn : n ≤ 1099511627) (w : World) :
    Calls Try.prog 84 #[.slice none 0 0, .int .i64 (n : Int)] w fun e w' => ∃ v', e = .returned v' ∧ WdR.Own w' w.heap.size v' [] ∧ Below w.heap.size w w' := by
  obtain ⟨i0, hi, hz0, hz1, hz2⟩ := info_parts WdR.info
  by_cases h0 : n = 0
  · subst h0
    go_enter Try.func84, Try.ntmps84
    go_wp2
    go_ret
    exact ⟨_, rfl, Rc.Own.nil _ _, Below.refl _ _⟩
  · have hpos : (0 : Int) < (n : Int) := by omega
    have hrun := Lib.run_append_nil_zeros (P := Try.prog) w 30 3 30 36 i0 (.agg #[.string .empty, .int .i64 0, .int .i64 0, .bool false, .bool false]) .i64 .i64 Try.underlying30 Try.underlying3 hi hz0 n (by omega) (by rw [hz1]; decide) (by omega) (by rw [hz2]; show n * 40 ≤ _; omega)
    have hg1 := grownCap_ge w n 0 36
    have hg2 := grownCap_le_maxLen w n 0 36 (by unfold maxLen; omega)
    generalize grownCap w n 0 36 = c at *
    have hown := WdR.own_zeros w.drew n c hg1 hg2
    have Hrun : Hid _ := hrun
    clear hrun
    go_enter Try.func84, Try.ntmps84
    go_wp2_with (at_builtin; go_must (refine Lib.wpList_append_run _ rfl (.tmp 20) (.tmp 21) 30 3 rfl _ _ rfl rfl _ _ Hrun.out ?_))
    go_wp2
    go_ret
    refine ⟨_, rfl, ?_, ?_⟩
    · exact hown
    · exact ⟨rfl, rfl, rfl, by simp, fun k hk => Below.heap_alloc w.drew _ k hk⟩

/-- from the place b, o on there lie slices that hold the bytes ls -/
def LstW (w : World) (B b o : Nat) (ls : List (List Lx.V)) : Prop :=
  ∀ j, j < ls.length → ∃ ad c, w.cell? ⟨b, o + j, none⟩ = some (.slice ad (ls.getD j []).length c) ∧ WdR.Sl w B (.slice ad (ls.getD j []).length c) (ls.getD j [])

set_option maxRecDepth 100000 in
set_option maxHeartbeats 1000000 in
theorem ConcatW_any (ls : List (List Lx.V)) (B b o c : Nat) (w : World) (hv : LstW w B b o ls) (hb : b < w.heap.size) (hB : B ≤ w.heap.size) (hn : ls.length ≤ 1000) (hl : ls.flatten.length ≤ 1099511000) :
    Calls Try.prog 64 #[.slice (some ⟨b, o, none⟩) ls.length c] w fun e w' => ∃ v', e = .returned v' ∧ WdR.Own w' w.heap.size v' ls.flatten ∧ Below w.heap.size w w' := by
  have Hl : Hid (ls.flatten.length ≤ 1099511000) := hl
  clear hl
  go_enter Try.func64, Try.ntmps64
  go_wp2
  go_loop [3, 11] (fun sz i => ∃ k : Nat, k ≤ ls.length ∧ i = .int .i64 (k : Int) ∧ sz = .int .i64 ((ls.take k).flatten.length : Int)) (fun _ i => ls.length - (intOf i).toNat)
  case atStart => exact ⟨0, Nat.zero_le _, rfl, by simp⟩
  case round =>
    obtain ⟨k, hk, rfl, rfl⟩ := hrel
    by_cases hlt : k < ls.length
    · obtain ⟨ad, cc, hcell, hby⟩ := hv k hlt
      have h1 := flatG_le ls k
      have h2 := flatG_le ls (k + 1)
      have h3 := flatG_succ ls k hlt
      have h4 : (ls.take (k + 1)).flatten.length = (ls.take k).flatten.length + (ls.getD k []).length := by rw [h3, List.length_append]
      have H4 : Hid ((ls.take (k + 1)).flatten.length = (ls.take k).flatten.length + (ls.getD k []).length) := h4
      have hs : (ls.take k).flatten.length + (ls.getD k []).length ≤ 1099511000 := by have := Hl.out; omega
      clear h1 h2 h3 h4
      generalize (ls.getD k []).length = m at *
      generalize (ls.take k).flatten.length = t at *
      have hs' : (t : Int) + (m : Int) ≤ 1099511000 := by omega
      clear hs
      go_wp2
      refine ⟨⟨k + 1, by omega, by go_num, ?_⟩, by simp [intOf]; omega⟩
      rw [H4.out]; go_num
    · have hkl : k = ls.length := by omega
      have hsz : (ls.take k).flatten.length ≤ 1099511627 := by have := Hl.out; have := flatG_le ls k; omega
      have Hk : Hid (k = ls.length) := hkl
      clear hkl
      generalize (ls.take k).flatten.length = t at *
      go_wp2_with fail
      refine (GrowW_nil t hsz _).mono ?_
      rintro e w1 ⟨v1, rfl, ho1, hb1⟩
      go_wp2
      go_loopw [6, 27] (fun v' i wr => ∃ k : Nat, k ≤ ls.length ∧ i = .int .i64 (k : Int) ∧ WdR.Own wr w.heap.size v' (ls.take k).flatten ∧ Below w.heap.size w wr) (fun _ i _ => ls.length - (intOf i).toNat)
      case atStart => exact ⟨0, Nat.zero_le _, rfl, by simpa using ho1, hb1⟩
      case round =>
        obtain ⟨k, hk, rfl, hor, hbr⟩ := hrel
        by_cases hlt : k < ls.length
        · obtain ⟨ad, cc, hcell, hby⟩ := hv k hlt
          have hck := (hbr.cell (p := ⟨b, o + k, none⟩) hb).trans hcell
          have hby' := hby.below hbr hB
          have HS : Hid ((ls.take (k + 1)).flatten = (ls.take k).flatten ++ ls.getD k []) := flatG_succ ls k hlt
          have Hx : Hid ((ls.take k).flatten.length + (ls.getD k []).length ≤ 1099511627) := by
            have h2 := flatG_le ls (k + 1)
            rw [HS.out, List.length_append] at h2
            have := Hl.out
            show _ + _ ≤ _
            omega
          clear hcell hby
          generalize (ls.getD k []) = m at *
          go_wp2_with (at_builtin; go_must (refine WdR.append rfl (.tmp 31) (.tmp 32) rfl w.heap.size B _ _ _ m rfl hor rfl hby' Hx hbr.size ?_))
          intro v' w' h1 h2
          go_wp2
          refine ⟨⟨k + 1, by omega, by go_num, ?_, hbr.grown h2 hbr.size fun q hq => (World.ownsRow.lt hor q hq).1⟩, by simp [intOf]; omega⟩
          rw [HS.out]
          exact h1
        · go_wp2
          go_ret
          refine ⟨_, rfl, ?_, hbr⟩
          rwa [List.take_of_length_le (by omega)] at hor


theorem sl_shape {w : World} {B : Nat} {ad : Option Addr} {n c : Nat} {l : List Lx.V} (h : WdR.Sl w B (.slice ad n c) l) : n = l.length := by
  obtain ⟨_, _, e, _⟩ := h
  simp only [Value.slice.injEq] at e
  exact e.2.1
/-- two lists of words, laid side by side -/
theorem own_two (w : World) (o : Obj) (l : List Lx.V) (n : Nat) (hn : n = l.length) (cs : Array Value) (hcs : cs.toList = WdR.vals l) (a2 : Option Addr) (n2 c2 : Nat) (l2 : List Lx.V) (B : Nat) (h2 : WdR.Sl w B (.slice a2 n2 c2) l2) (hB : B ≤ w.heap.size) :
    LstW (((w.alloc o).alloc (.cells cs 36)).alloc (.cells #[.slice (some ⟨w.heap.size + 1, 0, none⟩) n n, .slice a2 n2 c2] 30)) (((w.alloc o).alloc (.cells cs 36)).alloc (.cells #[.slice (some ⟨w.heap.size + 1, 0, none⟩) n n, .slice a2 n2 c2] 30)).heap.size (w.heap.size + 1 + 1) 0 [l, l2] ∧
    Below w.heap.size w (((w.alloc o).alloc (.cells cs 36)).alloc (.cells #[.slice (some ⟨w.heap.size + 1, 0, none⟩) n n, .slice a2 n2 c2] 30)) ∧ w.heap.size + 1 + 1 < (((w.alloc o).alloc (.cells cs 36)).alloc (.cells #[.slice (some ⟨w.heap.size + 1, 0, none⟩) n n, .slice a2 n2 c2] 30)).heap.size := by
  have hn2 := sl_shape h2
  have hz1 : (w.alloc o).heap.size = w.heap.size + 1 := Array.size_push ..
  have b1 := below_box w o
  generalize w.alloc o = W1 at *
  have hL := Rc.lits (R := WdR) W1 l n hn cs hcs
  have b2 := below_box W1 (.cells cs 36)
  have hz2 : (W1.alloc (.cells cs 36)).heap.size = w.heap.size + 1 + 1 := by rw [← hz1]; exact Array.size_push ..
  rw [hz1] at hL
  replace hL : WdR.Sl (W1.alloc (.cells cs 36)) (w.heap.size + 1 + 1) (.slice (some ⟨w.heap.size + 1, 0, none⟩) n n) l := hL
  generalize W1.alloc (.cells cs 36) = W2 at *
  have hn3 := heap_alloc_new W2 (.cells #[.slice (some ⟨w.heap.size + 1, 0, none⟩) n n, .slice a2 n2 c2] 30)
  have b3 := below_box W2 (.cells #[.slice (some ⟨w.heap.size + 1, 0, none⟩) n n, .slice a2 n2 c2] 30)
  have hz3 : (W2.alloc (.cells #[.slice (some ⟨w.heap.size + 1, 0, none⟩) n n, .slice a2 n2 c2] 30)).heap.size = w.heap.size + 1 + 1 + 1 := by rw [← hz2]; exact Array.size_push ..
  rw [hz2] at hn3
  generalize W2.alloc (.cells #[.slice (some ⟨w.heap.size + 1, 0, none⟩) n n, .slice a2 n2 c2] 30) = W3 at *
  have b13 : Below w.heap.size w W3 := (b1.trans (b2.mono (by omega))).trans (b3.mono (by omega))
  refine ⟨fun j hj => ?_, b13, by omega⟩
  match j, hj with
  | 0, _ =>
    refine ⟨some ⟨w.heap.size + 1, 0, none⟩, n, ?_, ?_⟩
    · show W3.cell? ⟨w.heap.size + 1 + 1, 0, none⟩ = some (.slice _ l.length n)
      rw [cell_of_row W3 _ 0 _ _ _ hn3, ← hn]; rfl
    · show WdR.Sl W3 _ (.slice _ l.length n) l
      rw [← hn]
      exact (hL.below b3 (by omega)).mono (by omega)
  | 1, _ =>
    refine ⟨a2, c2, ?_, ?_⟩
    · show W3.cell? ⟨w.heap.size + 1 + 1, 0 + 1, none⟩ = some (.slice a2 l2.length c2)
      rw [cell_of_row W3 _ (0 + 1) _ _ _ hn3, ← hn2]; rfl
    · show WdR.Sl W3 _ (.slice a2 l2.length c2) l2
      rw [← hn2]
      exact (h2.below b13 hB).mono (by omega)
/-- four -/
theorem own_four (w : World) (o : Obj) (l l' : List Lx.V) (n n' : Nat) (hn : n = l.length) (hn' : n' = l'.length) (cs cs' : Array Value) (hcs : cs.toList = WdR.vals l) (hcs' : cs'.toList = WdR.vals l') (a2 : Option Addr) (n2 c2 : Nat) (l2 : List Lx.V) (a4 : Option Addr) (n4 c4 : Nat) (l4 : List Lx.V) (B : Nat) (h2 : WdR.Sl w B (.slice a2 n2 c2) l2) (h4 : WdR.Sl w B (.slice a4 n4 c4) l4) (hB : B ≤ w.heap.size) :
    LstW ((((w.alloc o).alloc (.cells cs 36)).alloc (.cells cs' 36)).alloc (.cells #[.slice (some ⟨w.heap.size + 1, 0, none⟩) n n, .slice a2 n2 c2, .slice (some ⟨w.heap.size + 1 + 1, 0, none⟩) n' n', .slice a4 n4 c4] 30)) ((((w.alloc o).alloc (.cells cs 36)).alloc (.cells cs' 36)).alloc (.cells #[.slice (some ⟨w.heap.size + 1, 0, none⟩) n n, .slice a2 n2 c2, .slice (some ⟨w.heap.size + 1 + 1, 0, none⟩) n' n', .slice a4 n4 c4] 30)).heap.size (w.heap.size + 1 + 1 + 1) 0 [l, l2, l', l4] ∧
    Below w.heap.size w ((((w.alloc o).alloc (.cells cs 36)).alloc (.cells cs' 36)).alloc (.cells #[.slice (some ⟨w.heap.size + 1, 0, none⟩) n n, .slice a2 n2 c2, .slice (some ⟨w.heap.size + 1 + 1, 0, none⟩) n' n', .slice a4 n4 c4] 30)) ∧ w.heap.size + 1 + 1 + 1 < ((((w.alloc o).alloc (.cells cs 36)).alloc (.cells cs' 36)).alloc (.cells #[.slice (some ⟨w.heap.size + 1, 0, none⟩) n n, .slice a2 n2 c2, .slice (some ⟨w.heap.size + 1 + 1, 0, none⟩) n' n', .slice a4 n4 c4] 30)).heap.size := by
  have hn2 := sl_shape h2
  have hn4 := sl_shape h4
  have hz1 : (w.alloc o).heap.size = w.heap.size + 1 := Array.size_push ..
  have b1 := below_box w o
  generalize w.alloc o = W1 at *
  have hL := Rc.lits (R := WdR) W1 l n hn cs hcs
  have b2 := below_box W1 (.cells cs 36)
  have hz2 : (W1.alloc (.cells cs 36)).heap.size = w.heap.size + 1 + 1 := by rw [← hz1]; exact Array.size_push ..
  rw [hz1] at hL
  replace hL : WdR.Sl (W1.alloc (.cells cs 36)) (w.heap.size + 1 + 1) (.slice (some ⟨w.heap.size + 1, 0, none⟩) n n) l := hL
  generalize W1.alloc (.cells cs 36) = W2 at *
  have hM := Rc.lits (R := WdR) W2 l' n' hn' cs' hcs'
  have b3 := below_box W2 (.cells cs' 36)
  have hz3 : (W2.alloc (.cells cs' 36)).heap.size = w.heap.size + 1 + 1 + 1 := by rw [← hz2]; exact Array.size_push ..
  rw [hz2] at hM
  replace hM : WdR.Sl (W2.alloc (.cells cs' 36)) (w.heap.size + 1 + 1 + 1) (.slice (some ⟨w.heap.size + 1 + 1, 0, none⟩) n' n') l' := hM
  generalize W2.alloc (.cells cs' 36) = W3 at *
  have hn5 := heap_alloc_new W3 (.cells #[.slice (some ⟨w.heap.size + 1, 0, none⟩) n n, .slice a2 n2 c2, .slice (some ⟨w.heap.size + 1 + 1, 0, none⟩) n' n', .slice a4 n4 c4] 30)
  have b4 := below_box W3 (.cells #[.slice (some ⟨w.heap.size + 1, 0, none⟩) n n, .slice a2 n2 c2, .slice (some ⟨w.heap.size + 1 + 1, 0, none⟩) n' n', .slice a4 n4 c4] 30)
  have hz4 : (W3.alloc (.cells #[.slice (some ⟨w.heap.size + 1, 0, none⟩) n n, .slice a2 n2 c2, .slice (some ⟨w.heap.size + 1 + 1, 0, none⟩) n' n', .slice a4 n4 c4] 30)).heap.size = w.heap.size + 1 + 1 + 1 + 1 := by rw [← hz3]; exact Array.size_push ..
  rw [hz3] at hn5
  generalize W3.alloc (.cells #[.slice (some ⟨w.heap.size + 1, 0, none⟩) n n, .slice a2 n2 c2, .slice (some ⟨w.heap.size + 1 + 1, 0, none⟩) n' n', .slice a4 n4 c4] 30) = W4 at *
  have b14 : Below w.heap.size w W4 := ((b1.trans (b2.mono (by omega))).trans (b3.mono (by omega))).trans (b4.mono (by omega))
  refine ⟨fun j hj => ?_, b14, by omega⟩
  match j, hj with
  | 0, _ =>
    refine ⟨some ⟨w.heap.size + 1, 0, none⟩, n, ?_, ?_⟩
    · show W4.cell? ⟨w.heap.size + 1 + 1 + 1, 0, none⟩ = some (.slice _ l.length n)
      rw [cell_of_row W4 _ 0 _ _ _ hn5, ← hn]; rfl
    · show WdR.Sl W4 _ (.slice _ l.length n) l
      rw [← hn]
      exact ((hL.below b3 (by omega)).below b4 (by omega)).mono (by omega)
  | 1, _ =>
    refine ⟨a2, c2, ?_, ?_⟩
    · show W4.cell? ⟨w.heap.size + 1 + 1 + 1, 0 + 1, none⟩ = some (.slice a2 l2.length c2)
      rw [cell_of_row W4 _ (0 + 1) _ _ _ hn5, ← hn2]; rfl
    · show WdR.Sl W4 _ (.slice a2 l2.length c2) l2
      rw [← hn2]
      exact (h2.below b14 hB).mono (by omega)
  | 2, _ =>
    refine ⟨some ⟨w.heap.size + 1 + 1, 0, none⟩, n', ?_, ?_⟩
    · show W4.cell? ⟨w.heap.size + 1 + 1 + 1, 0 + 2, none⟩ = some (.slice _ l'.length n')
      rw [cell_of_row W4 _ (0 + 2) _ _ _ hn5, ← hn']; rfl
    · show WdR.Sl W4 _ (.slice _ l'.length n') l'
      rw [← hn']
      exact (hM.below b4 (by omega)).mono (by omega)
  | 3, _ =>
    refine ⟨a4, c4, ?_, ?_⟩
    · show W4.cell? ⟨w.heap.size + 1 + 1 + 1, 0 + 3, none⟩ = some (.slice a4 l4.length c4)
      rw [cell_of_row W4 _ (0 + 3) _ _ _ hn5, ← hn4]; rfl
    · show WdR.Sl W4 _ (.slice a4 l4.length c4) l4
      rw [← hn4]
      exact (h4.below b14 hB).mono (by omega)

set_option maxRecDepth 100000 in
set_option maxHeartbeats 2000000 in
theorem ownWords_any (x : Rl.It) (ta : Option Addr) (tc : Nat) (wa : Option Addr) (wc : Nat) (ca : Option Addr) (cc : Nat) (w : World) (B : Nat) (h1 : WdR.Sl w B (.slice ta x.targets.length tc) x.targets) (h2 : WdR.Sl w B (.slice wa x.words.length wc) x.words) (hBw : B ≤ w.heap.size) (hh : (Rl.head x).length ≤ 1099511000) :
    Calls Try.prog 38 #[.agg #[.int .i64 x.kind, .int .i64 x.line, .string (str x.name), .slice ta x.targets.length tc, .slice wa x.words.length wc, .slice ca x.code.length cc]] w fun e w' => ∃ v', e = .returned v' ∧ WdR.Own w' w.heap.size v' (Rl.head x) ∧ Below w.heap.size w w' := by
  by_cases k1 : x.kind = 1
  · have e1 : (x.kind == 1) = true := by rw [beq_iff_eq]; exact k1
    have HH : Hid (Rl.head x = [[Rl.wd Rl.sLet false, Rl.wd x.name false, Rl.wd [61] true], x.words].flatten) := by show _ = _; unfold Rl.head; rw [if_pos k1]; simp
    obtain ⟨o1, o2, o3⟩ := own_two w (.cells #[.int .i64 x.kind, .int .i64 x.line, .string (str x.name), .slice ta x.targets.length tc, .slice wa x.words.length wc, .slice ca x.code.length cc] 33) [Rl.wd Rl.sLet false, Rl.wd x.name false, Rl.wd [61] true] 3 rfl #[.string ⟨#[108, 101, 116]⟩, .int .i64 0, .int .i64 0, .bool false, .bool false, .string (str x.name), .int .i64 0, .int .i64 0, .bool false, .bool false, .string ⟨#[61]⟩, .int .i64 0, .int .i64 0, .bool false, .bool true] rfl wa x.words.length wc x.words B h2 hBw
    have hcc := ConcatW_any [[Rl.wd Rl.sLet false, Rl.wd x.name false, Rl.wd [61] true], x.words] _ (w.heap.size + 1 + 1) 0 2 _ o1 o3 (Nat.le_refl _) (by simp) (by rw [← HH.out]; exact hh)
    rw [← HH.out] at hcc
    clear k1 HH o1 o3 h1 h2 hh
    go_enter Try.func38, Try.ntmps38
    go_wp2_with fail
    refine hcc.mono ?_
    rintro e w1 ⟨v1, rfl, hO1, hB1⟩
    go_wp2
    go_ret
    exact ⟨_, rfl, hO1.low o2.size, o2.trans (hB1.mono o2.size)⟩
  · have e1 : (x.kind == 1) = false := by rw [beq_eq_false_iff_ne]; exact k1
    by_cases k2 : x.kind = 2
    · have e2 : (x.kind == 2) = true := by rw [beq_iff_eq]; exact k2
      have HH : Hid (Rl.head x = [[Rl.wd Rl.sIncl false], x.words].flatten) := by show _ = _; unfold Rl.head; rw [if_neg k1, if_pos k2]; simp
      obtain ⟨o1, o2, o3⟩ := own_two w (.cells #[.int .i64 x.kind, .int .i64 x.line, .string (str x.name), .slice ta x.targets.length tc, .slice wa x.words.length wc, .slice ca x.code.length cc] 33) [Rl.wd Rl.sIncl false] 1 rfl #[.string ⟨#[105, 110, 99, 108, 117, 100, 101]⟩, .int .i64 0, .int .i64 0, .bool false, .bool false] rfl wa x.words.length wc x.words B h2 hBw
      have hcc := ConcatW_any [[Rl.wd Rl.sIncl false], x.words] _ (w.heap.size + 1 + 1) 0 2 _ o1 o3 (Nat.le_refl _) (by simp) (by rw [← HH.out]; exact hh)
      rw [← HH.out] at hcc
      clear k1 k2 HH o1 o3 h1 h2 hh
      go_enter Try.func38, Try.ntmps38
      go_wp2_with fail
      refine hcc.mono ?_
      rintro e w1 ⟨v1, rfl, hO1, hB1⟩
      go_wp2
      go_ret
      exact ⟨_, rfl, hO1.low o2.size, o2.trans (hB1.mono o2.size)⟩
    · have e2 : (x.kind == 2) = false := by rw [beq_eq_false_iff_ne]; exact k2
      have HH : Hid (Rl.head x = [[Rl.wd Rl.sRule false], x.targets, [Rl.wd [58] true], x.words].flatten) := by show _ = _; unfold Rl.head; rw [if_neg k1, if_neg k2]; simp
      obtain ⟨o1, o2, o3⟩ := own_four w (.cells #[.int .i64 x.kind, .int .i64 x.line, .string (str x.name), .slice ta x.targets.length tc, .slice wa x.words.length wc, .slice ca x.code.length cc] 33) [Rl.wd Rl.sRule false] [Rl.wd [58] true] 1 1 rfl rfl #[.string ⟨#[114, 117, 108, 101]⟩, .int .i64 0, .int .i64 0, .bool false, .bool false] #[.string ⟨#[58]⟩, .int .i64 0, .int .i64 0, .bool false, .bool true] rfl rfl ta x.targets.length tc x.targets wa x.words.length wc x.words B h1 h2 hBw
      have hcc := ConcatW_any [[Rl.wd Rl.sRule false], x.targets, [Rl.wd [58] true], x.words] _ (w.heap.size + 1 + 1 + 1) 0 4 _ o1 o3 (Nat.le_refl _) (by simp) (by rw [← HH.out]; exact hh)
      rw [← HH.out] at hcc
      clear k1 k2 HH o1 o3 h1 h2 hh
      go_enter Try.func38, Try.ntmps38
      go_wp2_with fail
      refine hcc.mono ?_
      rintro e w1 ⟨v1, rfl, hO1, hB1⟩
      go_wp2
      go_ret
      exact ⟨_, rfl, hO1.low o2.size, o2.trans (hB1.mono o2.size)⟩

end Go.Proofs.Ythpipbkbldlfjaa

namespace Go.Proofs.Ythpipbkbldlfjaa
open Go.RowKit

set_option maxRecDepth 100000 in
set_option maxHeartbeats 4000000 in
theorem Print_any (va : Value) (A : List Rl.It) (w : World) (B : Nat) (ha : ItsS w B va A) (hBw : B ≤ w.heap.size) (hAl : A.length ≤ 1099511627) (hf : ∀ x ∈ A, Rl.Few x)
    (hh : ∀ x ∈ A, (Rl.head x).length ≤ 1099511000) (hL : (Rl.lines A).length ≤ 1099511627) (htot : (Rl.print A).length ≤ 1099511627) :
    Calls Try.prog 19 #[va] w fun e w' => e = .returned (if Rl.may A = true then .tuple #[.string (str (Rl.print A)), .int .i64 0] else .tuple #[.string .empty, .int .i64 2]) ∧ Below w.heap.size w w' := by
  obtain ⟨ad, c, rfl, hle⟩ := ha.shape
  have HFW : Hid _ := hf
  have HHH : Hid _ := hh
  have hmay := May_any _ A w B ha hBw hAl hf
  clear hf hh
  cases hm : Rl.may A with
  | false =>
    rw [hm] at hmay
    rw [if_neg (by simp)]
    go_enter Try.func19, Try.ntmps19
    go_wp2_with fail
    refine hmay.mono ?_
    rintro e w1 ⟨rfl, hB1⟩
    clear hmay hm
    go_wp2
    go_ret2
    exact ⟨rfl, hB1⟩
  | true =>
    rw [hm] at hmay
    rw [if_pos rfl]
    go_enter Try.func19, Try.ntmps19
    go_wp2_with fail
    refine hmay.mono ?_
    rintro e w1 ⟨rfl, hB1⟩
    clear hmay hm
    go_wp2
    go_loopw [4, 12] (fun s k wr => ∃ i : Nat, i ≤ A.length ∧ k = .int .i64 (i : Int) ∧ OutP w B wr w.heap.size s (Rl.lines (A.take i)) ∧ Below w.heap.size w wr) (fun _ k _ => A.length - (intOf k).toNat)
    case atStart => exact ⟨0, Nat.zero_le _, rfl, OutP.nil _ _ _ _, hB1⟩
    case round =>
      obtain ⟨i, hi, rfl, hO, hD⟩ := hrel
      by_cases hlt : i < A.length
      · have i1 : (i : Int) < (A.length : Int) := by omega
        obtain ⟨b, o, c1, ta, tc, wa, wc_, ca, cc, e, hb1, hc, hX1, hX2, hX3⟩ := ha.at i hlt
        simp only [Value.slice.injEq] at e
        obtain ⟨rfl, -, rfl⟩ := e
        obtain ⟨x, hx⟩ : ∃ x, A.getD i Rl.noI = x := ⟨_, rfl⟩
        rw [hx] at hc hX1 hX2 hX3
        rw [getD_mem _ hlt] at hx
        have hxm : x ∈ A := by rw [← hx]; exact List.getElem_mem hlt
        have hhd := HHH.out x hxm
        have HLT : Hid (Rl.lines (A.take (i + 1)) = Rl.lines (A.take i) ++ (⟨0, false, Rl.head x⟩ :: x.code)) := by rw [Hid, Rl.lines_take hlt, hx]
        have hll := Rl.lines_le A (i + 1)
        rw [HLT.out, List.length_append, List.length_cons] at hll
        have HLL : Hid _ := hll
        clear hx hll
        have p0 : wr.cell? ⟨b, o + i * 6, none⟩ = some (.int .i64 x.kind) := (cell_below hD (Nat.lt_of_lt_of_le hb1 hBw) _).trans (hc 0 _ rfl)
        have p1 : wr.cell? ⟨b, o + i * 6 + 1, none⟩ = some (.int .i64 x.line) := (cell_below hD (Nat.lt_of_lt_of_le hb1 hBw) _).trans (hc 1 _ rfl)
        have p2 : wr.cell? ⟨b, o + i * 6 + 2, none⟩ = some (.string (str x.name)) := (cell_below hD (Nat.lt_of_lt_of_le hb1 hBw) _).trans (hc 2 _ rfl)
        have p3 : wr.cell? ⟨b, o + i * 6 + 3, none⟩ = some (.slice ta x.targets.length tc) := (cell_below hD (Nat.lt_of_lt_of_le hb1 hBw) _).trans (hc 3 _ rfl)
        have p4 : wr.cell? ⟨b, o + i * 6 + 4, none⟩ = some (.slice wa x.words.length wc_) := (cell_below hD (Nat.lt_of_lt_of_le hb1 hBw) _).trans (hc 4 _ rfl)
        have p5 : wr.cell? ⟨b, o + i * 6 + 5, none⟩ = some (.slice ca x.code.length cc) := (cell_below hD (Nat.lt_of_lt_of_le hb1 hBw) _).trans (hc 5 _ rfl)
        clear hc
        have hnew := heap_alloc_new wr (.cells #[.int .i64 x.kind, .int .i64 x.line, .string (str x.name), .slice ta x.targets.length tc, .slice wa x.words.length wc_, .slice ca x.code.length cc] 33)
        have hbb := below_box wr (.cells #[.int .i64 x.kind, .int .i64 x.line, .string (str x.name), .slice ta x.targets.length tc, .slice wa x.words.length wc_, .slice ca x.code.length cc] 33)
        go_upto_region 7 with fail
        clear p0 p1 p2 p3 p4 p5
        generalize wr.alloc (.cells #[.int .i64 x.kind, .int .i64 x.line, .string (str x.name), .slice ta x.targets.length tc, .slice wa x.words.length wc_, .slice ca x.code.length cc] 33) = W1 at *
        have hg1 : wr.heap.size < W1.heap.size := (Array.getElem?_eq_some_iff.1 hnew).1
        have hO1 := hO.below hbb (Nat.le_refl _)
        have hD1 : Below w.heap.size w W1 := hD.trans (hbb.mono hD.size)
        clear hO hD hbb
        generalize wr.heap.size = g at *
        have r0 : W1.cell? ⟨g, 0, none⟩ = some (.int .i64 x.kind) := by rw [cell_of_row W1 _ 0 _ _ _ hnew]; rfl
        have r1 : W1.cell? ⟨g, 1, none⟩ = some (.int .i64 x.line) := by rw [cell_of_row W1 _ 1 _ _ _ hnew]; rfl
        have r2 : W1.cell? ⟨g, 2, none⟩ = some (.string (str x.name)) := by rw [cell_of_row W1 _ 2 _ _ _ hnew]; rfl
        have r3 : W1.cell? ⟨g, 3, none⟩ = some (.slice ta x.targets.length tc) := by rw [cell_of_row W1 _ 3 _ _ _ hnew]; rfl
        have r4 : W1.cell? ⟨g, 4, none⟩ = some (.slice wa x.words.length wc_) := by rw [cell_of_row W1 _ 4 _ _ _ hnew]; rfl
        have r5 : W1.cell? ⟨g, 5, none⟩ = some (.slice ca x.code.length cc) := by rw [cell_of_row W1 _ 5 _ _ _ hnew]; rfl
        have hBW : B ≤ W1.heap.size := Nat.le_trans hBw hD1.size
        have how := ownWords_any x ta tc wa wc_ ca cc W1 B (hX1.below hD1 hBw) (hX2.below hD1 hBw) hBW hhd
        obtain ⟨ado, no, co, rfl⟩ : ∃ ad n c, u4 = .slice ad n c := by
          obtain ⟨ps, h1, -, -⟩ := hO1
          exact h1.isSl
        clear hX1 hX2 hhd
        go_wp2_with fail
        refine how.mono ?_
        rintro e w3 ⟨v3, rfl, hO3, hB3⟩
        have hO3' : WdR.Own w3 w.heap.size v3 (Rl.head x) := hO3.low hD1.size
        obtain ⟨ad3, n3, c3, rfl⟩ := hO3'.isSl
        obtain ⟨ps, hp1, hp2, hp3⟩ := hO1.below hB3 (Nat.le_refl _)
        clear hO3 hO1 how r0 r1 r2 r3 r4
        have hD3 : Below w.heap.size w w3 := hD1.trans (hB3.mono hD1.size)
        have hlen : (ps.map Prod.fst).length = (Rl.lines (A.take i)).length := by rw [hp2, List.length_map, List.length_map]
        have hL4 := LnR.lit w3 ⟨0, false, ad3, n3, c3⟩ #[.int .i64 0, .bool false, .slice ad3 n3 c3] rfl
        have hO4 := hp1.alloc (.cells #[.int .i64 0, .bool false, .slice ad3 n3 c3] 48)
        have hB4 := hD3.alloc hD3.size (.cells #[.int .i64 0, .bool false, .slice ad3 n3 c3] 48)
        have HQ4 : Hid (∀ p ∈ ps, LineM w B (w3.alloc (.cells #[.int .i64 0, .bool false, .slice ad3 n3 c3] 48)) w.heap.size p.1 p.2) := fun p hp => (hp3 p hp).below (below_box w3 _) (Nat.le_refl _)
        have HX4 : Hid (∀ p ∈ [((⟨0, false, ad3, n3, c3⟩ : RawL), (⟨0, false, Rl.head x⟩ : Lx.L))], LineM w B (w3.alloc (.cells #[.int .i64 0, .bool false, .slice ad3 n3 c3] 48)) w.heap.size p.1 p.2) := by
          intro p hp
          rw [List.mem_singleton] at hp
          subst hp
          exact ⟨rfl, rfl, .inr (hO3'.alloc _)⟩
        have HLn : Hid ((ps.map Prod.fst).length + ([⟨0, false, ad3, n3, c3⟩] : List RawL).length ≤ 1099511627) := by show _ ≤ _; have := HLL.out; rw [hlen, List.length_singleton]; omega
        have HP2 : Hid _ := hp2
        clear hp1 hp2 hp3 hlen hO3'
        go_wp2_with (at_builtin; go_must (refine LnR.append rfl _ _ rfl w.heap.size (w3.heap.size + 1) _ _ (ps.map Prod.fst) [⟨0, false, ad3, n3, c3⟩] rfl hO4 rfl hL4 HLn hB4.size ?_))
        intro v5 w5 hO5 hG5
        have hO6 : OutP w B w5 w.heap.size v5 (Rl.lines (A.take i) ++ [⟨0, false, Rl.head x⟩]) := OutP.grown (qs := [(⟨0, false, ad3, n3, c3⟩, ⟨0, false, Rl.head x⟩)]) hO4 HP2.out HQ4.out rfl HX4.out hO5 hG5
        have hD5 := hB4.grown hG5 hB4.size fun k e => (hO4.lt k e).1
        have hgw : g < w3.heap.size := Nat.lt_of_lt_of_le hg1 hB3.size
        have k4 := ((below_box w3 (.cells #[.int .i64 0, .bool false, .slice ad3 n3 c3] 48)).block g hgw).trans ((hB3.block g hg1).trans hnew)
        have k5 := (hG5.block g (Nat.lt_of_lt_of_le hgw (below_box w3 _).size) (own_ne hO4 k4 (by decide))).trans k4
        have r6 : w5.cell? ⟨g, 5, none⟩ = some (.slice ca x.code.length cc) := by rw [cell_of_row w5 _ 5 _ _ _ k5]; rfl
        clear hO5 hG5 hO4 hL4 HLn HQ4 HX4 HP2 k4 k5 hB4 hgw r5 hnew
        obtain ⟨ps', hp1, hp2, hp3⟩ := hO6
        obtain ⟨qs, hq1, hq2, hq3⟩ := hX3
        have hq5 := hq1.below hD5 hBw
        obtain ⟨ad5, n5, c5, rfl⟩ := hp1.isSl
        have HLn5 : Hid ((ps'.map Prod.fst).length + (qs.map Prod.fst).length ≤ 1099511627) := by
          show _ ≤ _
          have e1 := congrArg List.length hp2
          have e2 := congrArg List.length hq2
          rw [List.length_append, List.length_singleton, List.length_map] at e1
          rw [List.length_map] at e2
          have := HLL.out
          rw [List.length_map, List.length_map, ← e1, ← e2]
          omega
        have HP5 : Hid _ := hp2
        have HP6 : Hid _ := hp3
        have HQ5 : Hid _ := hq2
        have HQ6 : Hid (∀ p ∈ qs, LineM w B w5 w.heap.size p.1 p.2) := fun p hp => ⟨(hq3 p hp).1, (hq3 p hp).2.1, .inl (hq3 p hp).2.2⟩
        clear hp2 hp3 hq2 hq3 hq1
        go_wp2_with (at_builtin; go_must (refine LnR.append rfl _ _ rfl w.heap.size B _ _ (ps'.map Prod.fst) (qs.map Prod.fst) rfl hp1 rfl hq5 HLn5 hD5.size ?_))
        intro v7 w7 hO7 hG7
        have hO8 := OutP.grown hp1 HP5.out HP6.out HQ5.out HQ6.out hO7 hG7
        have hD7 := hD5.grown hG7 hD5.size fun k e => (hp1.lt k e).1
        have HO8 : Hid (OutP w B w7 w.heap.size v7 (Rl.lines (A.take (i + 1)))) := by
          rw [Hid, HLT.out]
          rw [List.append_assoc, List.singleton_append] at hO8
          exact hO8
        clear hO8 hO7 hG7 hp1 hq5 HLn5 HP5 HP6 HQ5 HQ6
        go_wp2
        exact ⟨⟨i + 1, by omega, by go_num, HO8.out, hD7⟩, by simp [intOf]; omega⟩
      · obtain rfl : i = A.length := by omega
        have i1 : ¬ (A.length : Int) < (A.length : Int) := by omega
        rw [List.take_length] at hO
        have hwl : ∀ x ∈ Rl.lines A, x.words.length ≤ 1099511627 ∧ ∀ u ∈ x.words, u.text.length ≤ 1099511 := by
          intro l hl
          simp only [Rl.lines, List.mem_flatMap, Rl.linesI, List.mem_cons] at hl
          obtain ⟨x, hx, rfl | hl⟩ := hl
          · refine ⟨(Nat.le_trans (HHH.out x hx) (by decide)), fun u hu => ?_⟩
            have hfx := HFW.out x hx
            rcases Rl.head_mem hu with h | h | h | h
            · exact hfx.tt u h
            · exact hfx.wt u h
            · rw [h]; exact hfx.name
            · omega
          · exact ⟨(HFW.out x hx).lines l hl, (HFW.out x hx).ct l hl⟩
        obtain ⟨ado, no, co, rfl⟩ : ∃ ad n c, u4 = .slice ad n c := by
          obtain ⟨ps, h1, -, -⟩ := hO
          exact h1.isSl
        have hwr := Write_any _ (Rl.lines A) wr wr.heap.size (hO.s hD hBw) (Nat.le_refl _) htot hL (fun x hx => (hwl x hx).1) (fun x hx => (hwl x hx).2)
        clear hwl
        go_wp2_with fail
        refine hwr.mono ?_
        rintro e w2 ⟨rfl, hB2⟩
        clear hwr
        go_wp2
        go_ret2
        exact ⟨rfl, hD.trans (hB2.mono hD.size)⟩

end Go.Proofs.Ythpipbkbldlfjaa
