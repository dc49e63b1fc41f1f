/-
  slices.Concat OF WORDS; WHAT THE PROGRAM's ownWords DOES.
-/
import Derived.Test.YthpipbkbldlfjaaRPrint
import Derived.Lib.AppendZeros
namespace Go.Proofs.Ythpipbkbldlfjaa
open Go.RowKit

theorem flatG_succ {α : Type} (ls : List (List α)) (k : Nat) (h : k < ls.length) : (ls.take (k + 1)).flatten = (ls.take k).flatten ++ ls.getD k [] := by
  rw [List.take_succ_eq_append_getElem h, List.flatten_append]
  simp [List.getD, List.getElem?_eq_getElem h]
theorem flatG_le {α : Type} (ls : List (List α)) (k : Nat) : (ls.take k).flatten.length ≤ ls.flatten.length := by
  conv => rhs; rw [← List.take_append_drop k ls, List.flatten_append, List.length_append]
  omega

theorem Rc.own_zeros {α : Type} (R : Rc α) (w : World) (n c : Nat) (hn : n ≤ c) (hc : c ≤ maxLen) : R.Own (w.alloc (.cells (Builtin.zeroCells R.z.cells n ++ Builtin.zeroCells R.z.cells (c - n)) R.e)) w.heap.size (.slice (some ⟨w.heap.size, 0, none⟩) 0 c) [] := by
  refine ⟨by simp [Rc.vals], .inr ⟨w.heap.size, c, _, rfl, Nat.le_refl _, heap_alloc_new w _, Nat.zero_le _, hc, ?_, by simp [Rc.vals]⟩⟩
  rw [Array.size_append, size_zeroCells, size_zeroCells, R.zk, ← Nat.add_mul]
  congr 1
  omega

set_option maxRecDepth 100000 in
set_option maxHeartbeats 1000000 in
theorem GrowW_nil (n : Nat) (hn : n ≤ 1099511627) (w : World) :
    Calls Try.prog 84 #[.slice none 0 0, .int .i64 (n : Int)] w fun e w' => ∃ v', e = .returned v' ∧ WdR.Own w' w.heap.size v' [] ∧ Below w.heap.size w w' := by
  obtain ⟨i0, hi, hz0, hz1, hz2⟩ := info_parts WdR.info
  by_cases h0 : n = 0
  · subst h0
    go_enter Try.func84, Try.ntmps84
    go_wp2
    go_ret
    exact ⟨_, rfl, Rc.Own.nil _ _, Below.refl _ _⟩
  · have hpos : (0 : Int) < (n : Int) := by omega
    have hrun := Lib.run_append_nil_zeros (P := Try.prog) w 30 3 30 36 i0 (.agg #[.string .empty, .int .i64 0, .int .i64 0, .bool false, .bool false]) .i64 .i64 Try.underlying30 Try.underlying3 hi hz0 n (by omega) (by rw [hz1]; decide) (by omega) (by rw [hz2]; show n * 40 ≤ _; omega)
    have hg1 := grownCap_ge w n 0 36
    have hg2 := grownCap_le_maxLen w n 0 36 (by unfold maxLen; omega)
    generalize grownCap w n 0 36 = c at *
    have hown := WdR.own_zeros w.drew n c hg1 hg2
    have Hrun : Hid _ := hrun
    clear hrun
    go_enter Try.func84, Try.ntmps84
    go_wp2_with (at_builtin; go_must (refine Lib.wpList_append_run _ rfl (.tmp 20) (.tmp 21) 30 3 rfl _ _ rfl rfl _ _ Hrun.out ?_))
    go_wp2
    go_ret
    refine ⟨_, rfl, ?_, ?_⟩
    · exact hown
    · exact ⟨rfl, rfl, rfl, by simp, fun k hk => Below.heap_alloc w.drew _ k hk⟩

/-- from the place b, o on there lie slices that hold the bytes ls -/
def LstW (w : World) (B b o : Nat) (ls : List (List Lx.V)) : Prop :=
  ∀ j, j < ls.length → ∃ ad c, w.cell? ⟨b, o + j, none⟩ = some (.slice ad (ls.getD j []).length c) ∧ WdR.Sl w B (.slice ad (ls.getD j []).length c) (ls.getD j [])

set_option maxRecDepth 100000 in
set_option maxHeartbeats 1000000 in
theorem ConcatW_any (ls : List (List Lx.V)) (B b o c : Nat) (w : World) (hv : LstW w B b o ls) (hb : b < w.heap.size) (hB : B ≤ w.heap.size) (hn : ls.length ≤ 1000) (hl : ls.flatten.length ≤ 1099511000) :
    Calls Try.prog 64 #[.slice (some ⟨b, o, none⟩) ls.length c] w fun e w' => ∃ v', e = .returned v' ∧ WdR.Own w' w.heap.size v' ls.flatten ∧ Below w.heap.size w w' := by
  have Hl : Hid (ls.flatten.length ≤ 1099511000) := hl
  clear hl
  go_enter Try.func64, Try.ntmps64
  go_wp2
  go_loop [3, 11] (fun sz i => ∃ k : Nat, k ≤ ls.length ∧ i = .int .i64 (k : Int) ∧ sz = .int .i64 ((ls.take k).flatten.length : Int)) (fun _ i => ls.length - (intOf i).toNat)
  case atStart => exact ⟨0, Nat.zero_le _, rfl, by simp⟩
  case round =>
    obtain ⟨k, hk, rfl, rfl⟩ := hrel
    by_cases hlt : k < ls.length
    · obtain ⟨ad, cc, hcell, hby⟩ := hv k hlt
      have h1 := flatG_le ls k
      have h2 := flatG_le ls (k + 1)
      have h3 := flatG_succ ls k hlt
      have h4 : (ls.take (k + 1)).flatten.length = (ls.take k).flatten.length + (ls.getD k []).length := by rw [h3, List.length_append]
      have H4 : Hid ((ls.take (k + 1)).flatten.length = (ls.take k).flatten.length + (ls.getD k []).length) := h4
      have hs : (ls.take k).flatten.length + (ls.getD k []).length ≤ 1099511000 := by have := Hl.out; omega
      clear h1 h2 h3 h4
      generalize (ls.getD k []).length = m at *
      generalize (ls.take k).flatten.length = t at *
      have hs' : (t : Int) + (m : Int) ≤ 1099511000 := by omega
      clear hs
      go_wp2
      refine ⟨⟨k + 1, by omega, by go_num, ?_⟩, by simp [intOf]; omega⟩
      rw [H4.out]; go_num
    · have hkl : k = ls.length := by omega
      have hsz : (ls.take k).flatten.length ≤ 1099511627 := by have := Hl.out; have := flatG_le ls k; omega
      have Hk : Hid (k = ls.length) := hkl
      clear hkl
      generalize (ls.take k).flatten.length = t at *
      go_wp2_with fail
      refine (GrowW_nil t hsz _).mono ?_
      rintro e w1 ⟨v1, rfl, ho1, hb1⟩
      go_wp2
      go_loopw [6, 27] (fun v' i wr => ∃ k : Nat, k ≤ ls.length ∧ i = .int .i64 (k : Int) ∧ WdR.Own wr w.heap.size v' (ls.take k).flatten ∧ Below w.heap.size w wr) (fun _ i _ => ls.length - (intOf i).toNat)
      case atStart => exact ⟨0, Nat.zero_le _, rfl, by simpa using ho1, hb1⟩
      case round =>
        obtain ⟨k, hk, rfl, hor, hbr⟩ := hrel
        by_cases hlt : k < ls.length
        · obtain ⟨ad, cc, hcell, hby⟩ := hv k hlt
          have hck := (hbr.cell (p := ⟨b, o + k, none⟩) hb).trans hcell
          have hby' := hby.below hbr hB
          have HS : Hid ((ls.take (k + 1)).flatten = (ls.take k).flatten ++ ls.getD k []) := flatG_succ ls k hlt
          have Hx : Hid ((ls.take k).flatten.length + (ls.getD k []).length ≤ 1099511627) := by
            have h2 := flatG_le ls (k + 1)
            rw [HS.out, List.length_append] at h2
            have := Hl.out
            show _ + _ ≤ _
            omega
          clear hcell hby
          generalize (ls.getD k []) = m at *
          go_wp2_with (at_builtin; go_must (refine WdR.append rfl (.tmp 31) (.tmp 32) rfl w.heap.size B _ _ _ m rfl hor rfl hby' Hx hbr.size ?_))
          intro v' w' h1 h2
          go_wp2
          refine ⟨⟨k + 1, by omega, by go_num, ?_, hbr.grown h2 hbr.size fun q hq => (World.ownsRow.lt hor q hq).1⟩, by simp [intOf]; omega⟩
          rw [HS.out]
          exact h1
        · go_wp2
          go_ret
          refine ⟨_, rfl, ?_, hbr⟩
          rwa [List.take_of_length_le (by omega)] at hor


theorem sl_shape {w : World} {B : Nat} {ad : Option Addr} {n c : Nat} {l : List Lx.V} (h : WdR.Sl w B (.slice ad n c) l) : n = l.length := by
  obtain ⟨_, _, e, _⟩ := h
  simp only [Value.slice.injEq] at e
  exact e.2.1
/-- two lists of words, laid side by side -/
theorem own_two (w : World) (o : Obj) (l : List Lx.V) (n : Nat) (hn : n = l.length) (cs : Array Value) (hcs : cs.toList = WdR.vals l) (a2 : Option Addr) (n2 c2 : Nat) (l2 : List Lx.V) (B : Nat) (h2 : WdR.Sl w B (.slice a2 n2 c2) l2) (hB : B ≤ w.heap.size) :
    LstW (((w.alloc o).alloc (.cells cs 36)).alloc (.cells #[.slice (some ⟨w.heap.size + 1, 0, none⟩) n n, .slice a2 n2 c2] 30)) (((w.alloc o).alloc (.cells cs 36)).alloc (.cells #[.slice (some ⟨w.heap.size + 1, 0, none⟩) n n, .slice a2 n2 c2] 30)).heap.size (w.heap.size + 1 + 1) 0 [l, l2] ∧
    Below w.heap.size w (((w.alloc o).alloc (.cells cs 36)).alloc (.cells #[.slice (some ⟨w.heap.size + 1, 0, none⟩) n n, .slice a2 n2 c2] 30)) ∧ w.heap.size + 1 + 1 < (((w.alloc o).alloc (.cells cs 36)).alloc (.cells #[.slice (some ⟨w.heap.size + 1, 0, none⟩) n n, .slice a2 n2 c2] 30)).heap.size := by
  have hn2 := sl_shape h2
  have hz1 : (w.alloc o).heap.size = w.heap.size + 1 := Array.size_push ..
  have b1 := below_box w o
  generalize w.alloc o = W1 at *
  have hL := Rc.lits (R := WdR) W1 l n hn cs hcs
  have b2 := below_box W1 (.cells cs 36)
  have hz2 : (W1.alloc (.cells cs 36)).heap.size = w.heap.size + 1 + 1 := by rw [← hz1]; exact Array.size_push ..
  rw [hz1] at hL
  replace hL : WdR.Sl (W1.alloc (.cells cs 36)) (w.heap.size + 1 + 1) (.slice (some ⟨w.heap.size + 1, 0, none⟩) n n) l := hL
  generalize W1.alloc (.cells cs 36) = W2 at *
  have hn3 := heap_alloc_new W2 (.cells #[.slice (some ⟨w.heap.size + 1, 0, none⟩) n n, .slice a2 n2 c2] 30)
  have b3 := below_box W2 (.cells #[.slice (some ⟨w.heap.size + 1, 0, none⟩) n n, .slice a2 n2 c2] 30)
  have hz3 : (W2.alloc (.cells #[.slice (some ⟨w.heap.size + 1, 0, none⟩) n n, .slice a2 n2 c2] 30)).heap.size = w.heap.size + 1 + 1 + 1 := by rw [← hz2]; exact Array.size_push ..
  rw [hz2] at hn3
  generalize W2.alloc (.cells #[.slice (some ⟨w.heap.size + 1, 0, none⟩) n n, .slice a2 n2 c2] 30) = W3 at *
  have b13 : Below w.heap.size w W3 := (b1.trans (b2.mono (by omega))).trans (b3.mono (by omega))
  refine ⟨fun j hj => ?_, b13, by omega⟩
  match j, hj with
  | 0, _ =>
    refine ⟨some ⟨w.heap.size + 1, 0, none⟩, n, ?_, ?_⟩
    · show W3.cell? ⟨w.heap.size + 1 + 1, 0, none⟩ = some (.slice _ l.length n)
      rw [cell_of_row W3 _ 0 _ _ _ hn3, ← hn]; rfl
    · show WdR.Sl W3 _ (.slice _ l.length n) l
      rw [← hn]
      exact (hL.below b3 (by omega)).mono (by omega)
  | 1, _ =>
    refine ⟨a2, c2, ?_, ?_⟩
    · show W3.cell? ⟨w.heap.size + 1 + 1, 0 + 1, none⟩ = some (.slice a2 l2.length c2)
      rw [cell_of_row W3 _ (0 + 1) _ _ _ hn3, ← hn2]; rfl
    · show WdR.Sl W3 _ (.slice a2 l2.length c2) l2
      rw [← hn2]
      exact (h2.below b13 hB).mono (by omega)
/-- four -/
theorem own_four (w : World) (o : Obj) (l l' : List Lx.V) (n n' : Nat) (hn : n = l.length) (hn' : n' = l'.length) (cs cs' : Array Value) (hcs : cs.toList = WdR.vals l) (hcs' : cs'.toList = WdR.vals l') (a2 : Option Addr) (n2 c2 : Nat) (l2 : List Lx.V) (a4 : Option Addr) (n4 c4 : Nat) (l4 : List Lx.V) (B : Nat) (h2 : WdR.Sl w B (.slice a2 n2 c2) l2) (h4 : WdR.Sl w B (.slice a4 n4 c4) l4) (hB : B ≤ w.heap.size) :
    LstW ((((w.alloc o).alloc (.cells cs 36)).alloc (.cells cs' 36)).alloc (.cells #[.slice (some ⟨w.heap.size + 1, 0, none⟩) n n, .slice a2 n2 c2, .slice (some ⟨w.heap.size + 1 + 1, 0, none⟩) n' n', .slice a4 n4 c4] 30)) ((((w.alloc o).alloc (.cells cs 36)).alloc (.cells cs' 36)).alloc (.cells #[.slice (some ⟨w.heap.size + 1, 0, none⟩) n n, .slice a2 n2 c2, .slice (some ⟨w.heap.size + 1 + 1, 0, none⟩) n' n', .slice a4 n4 c4] 30)).heap.size (w.heap.size + 1 + 1 + 1) 0 [l, l2, l', l4] ∧
    Below w.heap.size w ((((w.alloc o).alloc (.cells cs 36)).alloc (.cells cs' 36)).alloc (.cells #[.slice (some ⟨w.heap.size + 1, 0, none⟩) n n, .slice a2 n2 c2, .slice (some ⟨w.heap.size + 1 + 1, 0, none⟩) n' n', .slice a4 n4 c4] 30)) ∧ w.heap.size + 1 + 1 + 1 < ((((w.alloc o).alloc (.cells cs 36)).alloc (.cells cs' 36)).alloc (.cells #[.slice (some ⟨w.heap.size + 1, 0, none⟩) n n, .slice a2 n2 c2, .slice (some ⟨w.heap.size + 1 + 1, 0, none⟩) n' n', .slice a4 n4 c4] 30)).heap.size := by
  have hn2 := sl_shape h2
  have hn4 := sl_shape h4
  have hz1 : (w.alloc o).heap.size = w.heap.size + 1 := Array.size_push ..
  have b1 := below_box w o
  generalize w.alloc o = W1 at *
  have hL := Rc.lits (R := WdR) W1 l n hn cs hcs
  have b2 := below_box W1 (.cells cs 36)
  have hz2 : (W1.alloc (.cells cs 36)).heap.size = w.heap.size + 1 + 1 := by rw [← hz1]; exact Array.size_push ..
  rw [hz1] at hL
  replace hL : WdR.Sl (W1.alloc (.cells cs 36)) (w.heap.size + 1 + 1) (.slice (some ⟨w.heap.size + 1, 0, none⟩) n n) l := hL
  generalize W1.alloc (.cells cs 36) = W2 at *
  have hM := Rc.lits (R := WdR) W2 l' n' hn' cs' hcs'
  have b3 := below_box W2 (.cells cs' 36)
  have hz3 : (W2.alloc (.cells cs' 36)).heap.size = w.heap.size + 1 + 1 + 1 := by rw [← hz2]; exact Array.size_push ..
  rw [hz2] at hM
  replace hM : WdR.Sl (W2.alloc (.cells cs' 36)) (w.heap.size + 1 + 1 + 1) (.slice (some ⟨w.heap.size + 1 + 1, 0, none⟩) n' n') l' := hM
  generalize W2.alloc (.cells cs' 36) = W3 at *
  have hn5 := heap_alloc_new W3 (.cells #[.slice (some ⟨w.heap.size + 1, 0, none⟩) n n, .slice a2 n2 c2, .slice (some ⟨w.heap.size + 1 + 1, 0, none⟩) n' n', .slice a4 n4 c4] 30)
  have b4 := below_box W3 (.cells #[.slice (some ⟨w.heap.size + 1, 0, none⟩) n n, .slice a2 n2 c2, .slice (some ⟨w.heap.size + 1 + 1, 0, none⟩) n' n', .slice a4 n4 c4] 30)
  have hz4 : (W3.alloc (.cells #[.slice (some ⟨w.heap.size + 1, 0, none⟩) n n, .slice a2 n2 c2, .slice (some ⟨w.heap.size + 1 + 1, 0, none⟩) n' n', .slice a4 n4 c4] 30)).heap.size = w.heap.size + 1 + 1 + 1 + 1 := by rw [← hz3]; exact Array.size_push ..
  rw [hz3] at hn5
  generalize W3.alloc (.cells #[.slice (some ⟨w.heap.size + 1, 0, none⟩) n n, .slice a2 n2 c2, .slice (some ⟨w.heap.size + 1 + 1, 0, none⟩) n' n', .slice a4 n4 c4] 30) = W4 at *
  have b14 : Below w.heap.size w W4 := ((b1.trans (b2.mono (by omega))).trans (b3.mono (by omega))).trans (b4.mono (by omega))
  refine ⟨fun j hj => ?_, b14, by omega⟩
  match j, hj with
  | 0, _ =>
    refine ⟨some ⟨w.heap.size + 1, 0, none⟩, n, ?_, ?_⟩
    · show W4.cell? ⟨w.heap.size + 1 + 1 + 1, 0, none⟩ = some (.slice _ l.length n)
      rw [cell_of_row W4 _ 0 _ _ _ hn5, ← hn]; rfl
    · show WdR.Sl W4 _ (.slice _ l.length n) l
      rw [← hn]
      exact ((hL.below b3 (by omega)).below b4 (by omega)).mono (by omega)
  | 1, _ =>
    refine ⟨a2, c2, ?_, ?_⟩
    · show W4.cell? ⟨w.heap.size + 1 + 1 + 1, 0 + 1, none⟩ = some (.slice a2 l2.length c2)
      rw [cell_of_row W4 _ (0 + 1) _ _ _ hn5, ← hn2]; rfl
    · show WdR.Sl W4 _ (.slice a2 l2.length c2) l2
      rw [← hn2]
      exact (h2.below b14 hB).mono (by omega)
  | 2, _ =>
    refine ⟨some ⟨w.heap.size + 1 + 1, 0, none⟩, n', ?_, ?_⟩
    · show W4.cell? ⟨w.heap.size + 1 + 1 + 1, 0 + 2, none⟩ = some (.slice _ l'.length n')
      rw [cell_of_row W4 _ (0 + 2) _ _ _ hn5, ← hn']; rfl
    · show WdR.Sl W4 _ (.slice _ l'.length n') l'
      rw [← hn']
      exact (hM.below b4 (by omega)).mono (by omega)
  | 3, _ =>
    refine ⟨a4, c4, ?_, ?_⟩
    · show W4.cell? ⟨w.heap.size + 1 + 1 + 1, 0 + 3, none⟩ = some (.slice a4 l4.length c4)
      rw [cell_of_row W4 _ (0 + 3) _ _ _ hn5, ← hn4]; rfl
    · show WdR.Sl W4 _ (.slice a4 l4.length c4) l4
      rw [← hn4]
      exact (h4.below b14 hB).mono (by omega)

set_option maxRecDepth 100000 in
set_option maxHeartbeats 2000000 in
theorem ownWords_any (x : Rl.It) (ta : Option Addr) (tc : Nat) (wa : Option Addr) (wc : Nat) (ca : Option Addr) (cc : Nat) (w : World) (B : Nat) (h1 : WdR.Sl w B (.slice ta x.targets.length tc) x.targets) (h2 : WdR.Sl w B (.slice wa x.words.length wc) x.words) (hBw : B ≤ w.heap.size) (hh : (Rl.head x).length ≤ 1099511000) :
    Calls Try.prog 38 #[.agg #[.int .i64 x.kind, .int .i64 x.line, .string (str x.name), .slice ta x.targets.length tc, .slice wa x.words.length wc, .slice ca x.code.length cc]] w fun e w' => ∃ v', e = .returned v' ∧ WdR.Own w' w.heap.size v' (Rl.head x) ∧ Below w.heap.size w w' := by
  by_cases k1 : x.kind = 1
  · have e1 : (x.kind == 1) = true := by rw [beq_iff_eq]; exact k1
    have HH : Hid (Rl.head x = [[Rl.wd Rl.sLet false, Rl.wd x.name false, Rl.wd [61] true], x.words].flatten) := by show _ = _; unfold Rl.head; rw [if_pos k1]; simp
    obtain ⟨o1, o2, o3⟩ := own_two w (.cells #[.int .i64 x.kind, .int .i64 x.line, .string (str x.name), .slice ta x.targets.length tc, .slice wa x.words.length wc, .slice ca x.code.length cc] 33) [Rl.wd Rl.sLet false, Rl.wd x.name false, Rl.wd [61] true] 3 rfl #[.string ⟨#[108, 101, 116]⟩, .int .i64 0, .int .i64 0, .bool false, .bool false, .string (str x.name), .int .i64 0, .int .i64 0, .bool false, .bool false, .string ⟨#[61]⟩, .int .i64 0, .int .i64 0, .bool false, .bool true] rfl wa x.words.length wc x.words B h2 hBw
    have hcc := ConcatW_any [[Rl.wd Rl.sLet false, Rl.wd x.name false, Rl.wd [61] true], x.words] _ (w.heap.size + 1 + 1) 0 2 _ o1 o3 (Nat.le_refl _) (by simp) (by rw [← HH.out]; exact hh)
    rw [← HH.out] at hcc
    clear k1 HH o1 o3 h1 h2 hh
    go_enter Try.func38, Try.ntmps38
    go_wp2_with fail
    refine hcc.mono ?_
    rintro e w1 ⟨v1, rfl, hO1, hB1⟩
    go_wp2
    go_ret
    exact ⟨_, rfl, hO1.low o2.size, o2.trans (hB1.mono o2.size)⟩
  · have e1 : (x.kind == 1) = false := by rw [beq_eq_false_iff_ne]; exact k1
    by_cases k2 : x.kind = 2
    · have e2 : (x.kind == 2) = true := by rw [beq_iff_eq]; exact k2
      have HH : Hid (Rl.head x = [[Rl.wd Rl.sIncl false], x.words].flatten) := by show _ = _; unfold Rl.head; rw [if_neg k1, if_pos k2]; simp
      obtain ⟨o1, o2, o3⟩ := own_two w (.cells #[.int .i64 x.kind, .int .i64 x.line, .string (str x.name), .slice ta x.targets.length tc, .slice wa x.words.length wc, .slice ca x.code.length cc] 33) [Rl.wd Rl.sIncl false] 1 rfl #[.string ⟨#[105, 110, 99, 108, 117, 100, 101]⟩, .int .i64 0, .int .i64 0, .bool false, .bool false] rfl wa x.words.length wc x.words B h2 hBw
      have hcc := ConcatW_any [[Rl.wd Rl.sIncl false], x.words] _ (w.heap.size + 1 + 1) 0 2 _ o1 o3 (Nat.le_refl _) (by simp) (by rw [← HH.out]; exact hh)
      rw [← HH.out] at hcc
      clear k1 k2 HH o1 o3 h1 h2 hh
      go_enter Try.func38, Try.ntmps38
      go_wp2_with fail
      refine hcc.mono ?_
      rintro e w1 ⟨v1, rfl, hO1, hB1⟩
      go_wp2
      go_ret
      exact ⟨_, rfl, hO1.low o2.size, o2.trans (hB1.mono o2.size)⟩
    · have e2 : (x.kind == 2) = false := by rw [beq_eq_false_iff_ne]; exact k2
      have HH : Hid (Rl.head x = [[Rl.wd Rl.sRule false], x.targets, [Rl.wd [58] true], x.words].flatten) := by show _ = _; unfold Rl.head; rw [if_neg k1, if_neg k2]; simp
      obtain ⟨o1, o2, o3⟩ := own_four w (.cells #[.int .i64 x.kind, .int .i64 x.line, .string (str x.name), .slice ta x.targets.length tc, .slice wa x.words.length wc, .slice ca x.code.length cc] 33) [Rl.wd Rl.sRule false] [Rl.wd [58] true] 1 1 rfl rfl #[.string ⟨#[114, 117, 108, 101]⟩, .int .i64 0, .int .i64 0, .bool false, .bool false] #[.string ⟨#[58]⟩, .int .i64 0, .int .i64 0, .bool false, .bool true] rfl rfl ta x.targets.length tc x.targets wa x.words.length wc x.words B h1 h2 hBw
      have hcc := ConcatW_any [[Rl.wd Rl.sRule false], x.targets, [Rl.wd [58] true], x.words] _ (w.heap.size + 1 + 1 + 1) 0 4 _ o1 o3 (Nat.le_refl _) (by simp) (by rw [← HH.out]; exact hh)
      rw [← HH.out] at hcc
      clear k1 k2 HH o1 o3 h1 h2 hh
      go_enter Try.func38, Try.ntmps38
      go_wp2_with fail
      refine hcc.mono ?_
      rintro e w1 ⟨v1, rfl, hO1, hB1⟩
      go_wp2
      go_ret
      exact ⟨_, rfl, hO1.low o2.size, o2.trans (hB1.mono o2.size)⟩

end Go.Proofs.Ythpipbkbldlfjaa
