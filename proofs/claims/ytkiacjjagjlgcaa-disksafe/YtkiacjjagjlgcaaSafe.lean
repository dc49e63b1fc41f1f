/-
  DiskSafe.
-/
import Derived.Test.YtkiacjjagjlgcaaRepB
namespace Go.Proofs.Ytkiacjjagjlgcaa
open Go.RowKit

def contL (d : Dk.Dev) : List Dk.Blk := (List.range d.st.length).map d.cont
theorem contL_len (d : Dk.Dev) : (contL d).length = d.st.length := by simp [contL]
theorem contL_get (d : Dk.Dev) {i : Nat} (hi : i < d.st.length) : (contL d).getD i [] = d.cont i := by simp [contL, List.getD, hi]
theorem contL_put (d : Dk.Dev) {j : Nat} (hj : j < d.st.length) (b : Dk.Blk) : (contL (d.begun.wr j b)).length = d.st.length ∧ (∀ i, i < d.st.length → i ≠ j → (contL (d.begun.wr j b)).getD i [] = (contL d).getD i []) ∧ (contL (d.begun.wr j b)).getD j [] = b := by
  refine ⟨contL_len _, fun i hi hne => ?_, ?_⟩
  · rw [contL_get _ (show i < (d.begun.wr j b).st.length from hi), contL_get _ hi]
    unfold Dk.Dev.cont
    have : (d.begun.wr j b).di i = d.di i := by show (if (i : Int) = (j : Int) then some b else d.di i) = _; rw [if_neg (by omega)]
    rw [this]
    rfl
  · rw [contL_get _ (show j < (d.begun.wr j b).st.length from hj)]
    unfold Dk.Dev.cont
    have : (d.begun.wr j b).di j = some b := by show (if (j : Int) = (j : Int) then some b else d.di j) = _; rw [if_pos rfl]
    rw [this]
    rfl
theorem contL_flat (d : Dk.Dev) (h : ∀ i, d.di i = none) : contL d = d.st := by
  refine list_ext_getD (contL_len d) fun i hi => ?_
  rw [contL_len] at hi
  rw [contL_get d hi]
  unfold Dk.Dev.cont
  rw [h]
  rfl

theorem Has.not_in' {w : World} {x : Pl} {N : Nat} {d : Dk.Dev} (h : Has w x N d) {b : Nat} {c : Array Value} {t : TypeId} {fr : Nat × Nat} (hb : w.heap[b]? = some (.cells c t fr)) (h1 : t ≠ 72) (h2 : t ≠ 78) : b ∉ x.bl := by
  intro hm
  simp only [Pl.bl, List.mem_cons, List.not_mem_nil, or_false] at hm
  rcases hm with rfl | rfl | rfl | rfl
  · rw [h.hp] at hb; simp only [Option.some.injEq, Obj.cells.injEq] at hb; exact h1 hb.2.1.symm
  · obtain ⟨cur, e1, _⟩ := h.hg; rw [e1] at hb; simp only [Option.some.injEq, Obj.cells.injEq] at hb; exact h2 hb.2.1.symm
  · obtain ⟨es, c', e1⟩ := h.hd.isMap; rw [e1] at hb; simp at hb
  · obtain ⟨es, c', e1⟩ := h.hf.isMap; rw [e1] at hb; simp at hb

/-- between two writes -/
structure SafeAt (w : World) (p : Pl) (R0 c0 R1 c1 Q : Nat) (v1 v2 : Value) (M : Nat) (d : Dk.Dev) (last : Int) (wr : World) : Prop where
  hk : Has wr p M d
  calm : Calm d
  n80 : d.st.length = 80
  was : Rw wr R0 80 c0 d.st
  now : Rw wr R1 80 c1 (contL d)
  ne : R0 ≠ R1
  q : wr.heap[Q]? = some (.cells #[v1, v2] 57 (0, 0))
  la : ∀ i b, d.di i = some b → last = d.la
  bl : Below w.heap.size w wr

theorem SafeAt.below {w : World} {p : Pl} {R0 c0 R1 c1 Q : Nat} {v1 v2 : Value} {M : Nat} {d : Dk.Dev} {last : Int} {wr wr' : World} (h : SafeAt w p R0 c0 R1 c1 Q v1 v2 M d last wr) (hb : Below wr.heap.size wr wr') : SafeAt w p R0 c0 R1 c1 Q v1 v2 M d last wr' :=
  ⟨h.hk.below hb, h.calm, h.n80, h.was.below hb, h.now.below hb, h.ne, (hb.block _ (lt_of_heap h.q)).trans h.q, h.la, h.bl.trans (hb.mono h.bl.size)⟩
theorem SafeAt.drew {w : World} {p : Pl} {R0 c0 R1 c1 Q : Nat} {v1 v2 : Value} {M : Nat} {d : Dk.Dev} {last : Int} {wr : World} (h : SafeAt w p R0 c0 R1 c1 Q v1 v2 M d last wr) : SafeAt w p R0 c0 R1 c1 Q v1 v2 M d last wr.drew :=
  ⟨h.hk.drew, h.calm, h.n80, h.was.drew, h.now.drew, h.ne, h.q, h.la, h.bl.drew⟩
theorem SafeAt.mono {w : World} {p : Pl} {R0 c0 R1 c1 Q : Nat} {v1 v2 : Value} {M M' : Nat} {d : Dk.Dev} {last : Int} {wr : World} (h : SafeAt w p R0 c0 R1 c1 Q v1 v2 M d last wr) (hM : M ≤ M') : SafeAt w p R0 c0 R1 c1 Q v1 v2 M' d last wr :=
  ⟨h.hk.mono hM, h.calm, h.n80, h.was, h.now, h.ne, h.q, h.la, h.bl⟩
/-- the write of a block, and its laying among those of now -/
theorem SafeAt.put {w : World} {p : Pl} {R0 c0 R1 c1 Q : Nat} {v1 v2 : Value} {M : Nat} {d : Dk.Dev} {last : Int} {W w4 w5 : World} (h : SafeAt w p R0 c0 R1 c1 Q v1 v2 M d last W) (hp0 : ∀ k, k ∈ p.bl → w.heap.size ≤ k) (hR1 : w.heap.size ≤ R1) {j : Nat} (hj : j < d.st.length) {b : Dk.Blk} (hb : b.length = 256)
    (hk4 : Has w4 p (M + 2) (d.begun.wr j b)) (ht4 : Turn p.bl W w4) (hb5 : Below w4.heap.size w4 w5) {g : Nat} (hB : Blk w5 g b) :
    SafeAt w p R0 c0 R1 c1 Q v1 v2 (M + 2) (d.begun.wr j b) (j : Int) (w5.setCell ⟨R1, j, none⟩ (.slice (some ⟨g, 0, none⟩) 256 256)) := by
  have hwas := (h.was.turn h.hk ht4).below hb5
  have hnow := (h.now.turn h.hk ht4).below hb5
  have hq4 : w5.heap[Q]? = some (.cells #[v1, v2] 57 (0, 0)) := (hb5.block _ (Nat.lt_of_lt_of_le (lt_of_heap h.q) ht4.size)).trans ((ht4.block _ (lt_of_heap h.q) (h.hk.not_in' h.q (by decide) (by decide))).trans h.q)
  have hk5 := hk4.below hb5
  obtain ⟨cur, hc, hcr⟩ := hnow
  have hnow : Rw w5 R1 80 c1 (contL d) := ⟨cur, hc, hcr⟩
  have hRp : R1 ∉ p.bl := hk5.not_in hc (.inl rfl)
  have hQR : Q ≠ R1 := fun e => by rw [e, hc] at hq4; simp at hq4
  obtain ⟨e1, e2, e3⟩ := contL_put d hj b
  have h80 := h.n80
  have hbl4 : Below w.heap.size w w4 := below_turn h.bl ht4 h.bl.size hp0
  refine ⟨hk5.of_blocks fun k hm => Below.heap_setCell w5 ⟨R1, j, none⟩ _ k (fun e => hRp (by rw [← show k = R1 from e]; exact hm)), (h.calm.begun).wr _ _, h80, hwas.set_other h.ne hc _ _, ?_, h.ne, (Below.heap_setCell w5 ⟨R1, j, none⟩ _ Q hQR).trans hq4, fun _ _ _ => rfl, (hbl4.trans (hb5.mono hbl4.size)).setCell hR1 _⟩
  refine hnow.set (by omega) hB hb (by rw [e1, h80]; exact Nat.le_refl _) (fun i hi hne => ?_) (fun _ => e3)
  rw [e1] at hi
  exact ⟨by rw [contL_len]; exact hi, e2 i hi hne⟩

theorem Bols.below {w w' : World} {B : Nat} {v : Value} {l : List Bool} (h : Bols w B v l) (hb : Below B w w') : Bols w' B v l := by
  obtain ⟨ad, c, rfl, hle, h⟩ := h
  refine ⟨ad, c, rfl, hle, fun hne => ?_⟩
  obtain ⟨b, o, rfl, hlt, hc⟩ := h hne
  exact ⟨b, o, rfl, hlt, fun j hj => (hb.cell (p := ⟨b, o + j, none⟩) hlt).trans (hc j hj)⟩
theorem crB_cases (d : Dk.Dev) (kl : List Bool) (t k : Nat) : d.crB kl t k = d.stab k ∨ d.crB kl t k = d.cont k ∨ (((k : Int) = d.la ∧ ∃ b, d.di k = some b) ∧ d.crB kl t k = (d.cont k).take t ++ (d.stab k).drop t) := by
  unfold Dk.Dev.crB Dk.Dev.cont
  cases hd : d.di k with
  | none => exact .inl rfl
  | some b =>
    simp only [Option.getD_some]
    split
    · exact .inr (.inl rfl)
    · split
      · rename_i h; exact .inr (.inr ⟨⟨h, b, rfl⟩, rfl⟩)
      · exact .inl rfl
theorem calm_cr (d : Dk.Dev) (kl : List Bool) (t : Nat) : Calm (d.cr kl t) := ⟨fun _ => rfl, rfl⟩
theorem dlI_nil (d : Dk.Dev) (h : ∀ i, d.di i = none) : dlI d = [] := by
  unfold dlI Dk.Dev.dl
  simp [h]
/-- two parts of rows, laid behind one another -/
theorem ByL.two {w : World} {B b : Nat} {a1 : Option Addr} {n1 c1 : Nat} {a2 : Option Addr} {n2 c2 : Nat} {l1 l2 : List UInt8} (hb : w.heap[b]? = some (.cells #[.slice a1 n1 c1, .slice a2 n2 c2] 27 (0, 0))) (h1 : Byts w B (.slice a1 n1 c1) l1) (h2 : Byts w B (.slice a2 n2 c2) l2) : ByL w B b 0 [l1, l2] := by
  have e1 : n1 = l1.length := by obtain ⟨_, _, hv, _⟩ := h1; simp only [Value.slice.injEq] at hv; exact hv.2.1
  have e2 : n2 = l2.length := by obtain ⟨_, _, hv, _⟩ := h2; simp only [Value.slice.injEq] at hv; exact hv.2.1
  subst e1 e2
  intro j hj
  match j, hj with
  | 0, _ => exact ⟨a1, c1, by rw [cell_of_row w b _ _ 27 (0, 0) hb]; rfl, h1⟩
  | 1, _ => exact ⟨a2, c2, by rw [cell_of_row w b _ _ 27 (0, 0) hb]; rfl, h2⟩

theorem k0_len' : (Dk.new 80).st.length = 80 := by show (List.replicate 80 Dk.zeroB).length = 80; rw [List.length_replicate]

theorem made_rows (w : World) : Rw (w.alloc (.cells (madeCells #[.slice none 0 0] 80) 27)) w.heap.size 80 80 [] :=
  ⟨_, heap_alloc_new w _, Nat.le_refl _, by rw [size_madeCells]; exact Nat.le_refl _, by unfold maxLen; omega, Nat.zero_le _, fun i hi => by simp at hi⟩

set_option maxRecDepth 100000 in
set_option maxHeartbeats 8000000 in
theorem safe_any (v1 : Value) (l1 : List (Int × UInt8)) (v2 : Value) (l2 : List (Int × UInt8)) (vk : Value) (kl : List Bool) (torn : Int) (w : World) (h1 : PutS w w.heap.size v1 l1) (h2 : PutS w w.heap.size v2 l2) (hkp : Bols w w.heap.size vk kl) :
    Calls Try.prog 5 #[v1, v2, vk, .int .i64 torn] w fun r w' => r = .returned (.bool true) ∧ Below w.heap.size w w' := by
  have h1' := h1
  have h2' := h2
  obtain ⟨ad1, cc1, rfl, -⟩ := h1'
  obtain ⟨ad2, cc2, rfl, -⟩ := h2'
  have H1 : Hid (PutS w w.heap.size (.slice ad1 l1.length cc1) l1) := h1
  have H2 : Hid (PutS w w.heap.size (.slice ad2 l2.length cc2) l2) := h2
  have HK : Hid (Bols w w.heap.size vk kl) := hkp
  clear h1 h2 hkp
  by_cases hg : l1.length ≤ 60 ∧ l2.length ≤ 60
  · obtain ⟨hl1, hl2⟩ := hg
    obtain ⟨i0, hi, hz0, hz1, hz2⟩ := info_parts info27
    have hmk : ∀ W, (Instr.makeSlice 51 (.int .i64 80) (.int .i64 80)).run Try.prog W = .ok (.slice (some ⟨W.heap.size, 0, none⟩) 80 80) (W.alloc (.cells (madeCells #[.slice none 0 0] 80) 27)) := fun W => by
      rw [run_make W 51 27 i0 (.slice none 0 0) Try.underlying51 hi hz0 .i64 .i64 80 80 (by omega) (by omega) (by rw [hz2]; omega) (by omega), hz1]
      simp [Value.cells]
    have hmr := made_rows
    generalize madeCells #[Value.slice none 0 0] 80 = C at *
    have hmb : ∀ W, (Instr.makeSlice 27 (.int .i64 256) (.int .i64 256)).run Try.prog W = .ok (.slice (some ⟨W.heap.size, 0, none⟩) 256 256) (W.alloc (.cells (bV Dk.zeroB).toArray 5)) := fun W => make_byts 256 256 rfl (by omega) W
    clear hi hz0 hz1 hz2
    go_enter Try.func5, Try.ntmps5
    go_wp2_with fail
    refine (works_any w).mono ?_
    rintro r w1 ⟨rfl, hb1⟩
    go_wp2_with fail
    refine (New_ok 80 w1 (by omega) (by omega)).mono ?_
    rintro r w2 ⟨p, rfl, hp, hk, hb2⟩
    have hp0 : ∀ k, k ∈ p.bl → w.heap.size ≤ k := fun k hm => Nat.le_trans hb1.size (hp k hm)
    have hB2 : Below w.heap.size w w2 := hb1.trans (hb2.mono hb1.size)
    clear hb1 hb2
    unfold ptr
    go_wp2
    go_loopw [44] (fun t wr => ∃ k : Nat, k ≤ 80 ∧ t = .int .i64 (k : Int) ∧ Has wr p 0 (Dk.new 80) ∧ Rw wr w2.heap.size 80 80 (List.replicate k Dk.zeroB) ∧ Below w.heap.size w wr) (fun t _ => 80 - (RowKit.intOf t).toNat)
    case atStart => exact ⟨0, by omega, rfl, hk.below ((Below.refl _ w2).alloc (Nat.le_refl _) _), hmr w2, hB2.alloc hB2.size _⟩
    case round =>
      obtain ⟨k, hk80, rfl, hkr, hrw, hBr⟩ := hrel
      by_cases hlt : k < 80
      · have hwa : Below wr.heap.size wr (wr.alloc (.cells (bV Dk.zeroB).toArray 5)) := (Below.refl _ wr).alloc (Nat.le_refl _) _
        have hrwa := hrw.below hwa
        obtain ⟨⟨u, hu⟩, hfz⟩ := hrwa.ex hlt
        have hblk : Blk (wr.alloc (.cells (bV Dk.zeroB).toArray 5)) wr.heap.size Dk.zeroB := Blk.made wr _
        have hset := hrwa.set (L' := List.replicate (k + 1) Dk.zeroB) hlt hblk Dk.zeroB_len (by rw [List.length_replicate]; omega) (fun j hj hne => by
          rw [List.length_replicate] at hj
          rw [List.length_replicate]
          exact ⟨by omega, by rw [rep_getD hj, rep_getD (by omega)]⟩) (fun hj => by rw [List.length_replicate] at hj; rw [rep_getD hj])
        have hka : Has (wr.alloc (.cells (bV Dk.zeroB).toArray 5)) p 0 (Dk.new 80) := hkr.below hwa
        have hRp : w2.heap.size ∉ p.bl := fun hm => Nat.lt_irrefl _ (hk.lt _ hm)
        have hks : Has ((wr.alloc (.cells (bV Dk.zeroB).toArray 5)).setCell ⟨w2.heap.size, k, none⟩ (.slice (some ⟨wr.heap.size, 0, none⟩) 256 256)) p 0 (Dk.new 80) := hka.of_blocks fun b hm => Below.heap_setCell _ ⟨w2.heap.size, k, none⟩ _ b (fun e => hRp (by rw [← show b = w2.heap.size from e]; exact hm))
        have hBs : Below w.heap.size w ((wr.alloc (.cells (bV Dk.zeroB).toArray 5)).setCell ⟨w2.heap.size, k, none⟩ (.slice (some ⟨wr.heap.size, 0, none⟩) 256 256)) := (hBr.alloc hBr.size _).setCell hB2.size _
        have HH : Hid (Has ((wr.alloc (.cells (bV Dk.zeroB).toArray 5)).setCell ⟨w2.heap.size, k, none⟩ (.slice (some ⟨wr.heap.size, 0, none⟩) 256 256)) p 0 (Dk.new 80) ∧ Rw ((wr.alloc (.cells (bV Dk.zeroB).toArray 5)).setCell ⟨w2.heap.size, k, none⟩ (.slice (some ⟨wr.heap.size, 0, none⟩) 256 256)) w2.heap.size 80 80 (List.replicate (k + 1) Dk.zeroB) ∧ Below w.heap.size w ((wr.alloc (.cells (bV Dk.zeroB).toArray 5)).setCell ⟨w2.heap.size, k, none⟩ (.slice (some ⟨wr.heap.size, 0, none⟩) 256 256))) := ⟨hks, hset, hBs⟩
        clear hks hset hBs hka hblk hrwa hwa
        have hk0 : (0 : Int) ≤ (k : Int) := by omega
        have hk3 : (k : Int) < 80 := by omega
        go_wp2
        exact ⟨⟨k + 1, by omega, by go_num, HH.out.1, HH.out.2.1, HH.out.2.2⟩, by simp [RowKit.intOf]; omega⟩
      · obtain rfl : k = 80 := by omega
        clear hmb hmk hmr hk
        go_wp2_with fail
        refine (CloneRows_any wr w2.heap.size 80 80 _ hrw List.length_replicate (by omega)).mono ?_
        rintro r w3 ⟨R1, c1, rfl, hR1, hrw1, hb3⟩
        have hrw3 := hrw.below hb3
        have hk3 := hkr.below hb3
        have hB3 := hBr.trans (hb3.mono hBr.size)
        have hneR : w2.heap.size ≠ R1 := by have := hrw.lt; omega
        have hR1w : w.heap.size ≤ R1 := Nat.le_trans hBr.size hR1
        have hA0 : SafeAt w p w2.heap.size 80 R1 c1 w3.heap.size (.slice ad1 l1.length cc1) (.slice ad2 l2.length cc2) 0 (Dk.new 80) (-1) (w3.alloc (.cells #[.slice ad1 l1.length cc1, .slice ad2 l2.length cc2] 57)) := by
          have hwa : Below w3.heap.size w3 (w3.alloc (.cells #[.slice ad1 l1.length cc1, .slice ad2 l2.length cc2] 57)) := (Below.refl _ w3).alloc (Nat.le_refl _) _
          refine ⟨hk3.below hwa, calm_new 80, k0_len', hrw3.below hwa, ?_, hneR, heap_alloc_new w3 _, (fun _ _ e => by cases e), hB3.alloc hB3.size _⟩
          rw [contL_flat (Dk.new 80) (fun _ => rfl)]
          exact hrw1.below hwa
        clear hrw hkr hBr hrw1 hrw3 hk3 hb3 hB3
        go_wp2
        go_loopw [58, 11, 14] (fun t58 t11 t14 wr => ∃ (r M : Nat) (d : Dk.Dev) (R0 c0 : Nat) (last : Int), r ≤ 2 ∧ t58 = .int .i64 (r : Int) ∧ t11 = .slice (some ⟨R0, 0, none⟩) 80 c0 ∧ t14 = .int .i64 last ∧ M ≤ 130 * r ∧ SafeAt w p R0 c0 R1 c1 w3.heap.size (.slice ad1 l1.length cc1) (.slice ad2 l2.length cc2) M d last wr) (fun t58 _ _ _ => 2 - (RowKit.intOf t58).toNat)
        case atStart => exact ⟨0, 0, _, _, _, _, by omega, rfl, rfl, rfl, by omega, hA0⟩
        case round =>
          clear hA0
          obtain ⟨r, M, d, R0, c0, last, hr2, rfl, rfl, rfl, hM, hA⟩ := hrel
          by_cases hrl : r < 2
          · obtain ⟨ad, cc, l, hcellQ, Hl, hl60⟩ : ∃ ad cc l, wr.cell? ⟨w3.heap.size, r, none⟩ = some (.slice ad l.length cc) ∧ Hid (PutS w w.heap.size (.slice ad l.length cc) l) ∧ l.length ≤ 60 := by
              have hq := hA.q
              rcases (show r = 0 ∨ r = 1 by omega) with rfl | rfl
              · exact ⟨ad1, cc1, l1, by rw [cell_of_row wr w3.heap.size 0 _ 57 (0, 0) hq]; rfl, H1, hl1⟩
              · exact ⟨ad2, cc2, l2, by rw [cell_of_row wr w3.heap.size 1 _ 57 (0, 0) hq]; rfl, H2, hl2⟩
            have hr0 : (0 : Int) ≤ (r : Int) := by omega
            have hr1 : (r : Int) < 2 := by omega
            go_wp2
            go_loopw [65, 14] (fun t65 t14 ws => ∃ (k M' : Nat) (d' : Dk.Dev) (last' : Int), k ≤ l.length ∧ t65 = .int .i64 (k : Int) ∧ t14 = .int .i64 last' ∧ M' ≤ 130 * r + 2 * k ∧ SafeAt w p R0 c0 R1 c1 w3.heap.size (.slice ad1 l1.length cc1) (.slice ad2 l2.length cc2) M' d' last' ws) (fun t65 _ _ => l.length - (RowKit.intOf t65).toNat)
            case atStart => exact ⟨0, M, d, last, by omega, rfl, rfl, by omega, hA⟩
            case round =>
              clear hA hcellQ
              obtain ⟨k, M', d', last', hkl, rfl, rfl, hM', hA'⟩ := hrel
              by_cases hklt : k < l.length
              · obtain ⟨adx, cx, he, hcl⟩ := Hl.out
                simp only [Value.slice.injEq] at he
                obtain ⟨rfl, _, rfl⟩ := he
                obtain ⟨b, o, rfl, hb, hcells⟩ := hcl (by intro e; rw [e] at hklt; simp at hklt)
                obtain ⟨q0, q1⟩ := hcells k hklt
                generalize l.getD k (0, 0) = pt at q0 q1
                obtain ⟨I, X⟩ := pt
                simp only at q0 q1
                have r0 : wr.cell? ⟨b, o + k * 2, none⟩ = some (.int .i64 I) := (hA'.bl.cell (p := ⟨b, o + k * 2, none⟩) hb).trans q0
                have r1 : wr.cell? ⟨b, o + k * 2 + 1, none⟩ = some (.int .u8 (X.toNat : Int)) := (hA'.bl.cell (p := ⟨b, o + k * 2 + 1, none⟩) hb).trans q1
                clear hcells q0 q1 hcl
                by_cases hI : 0 ≤ I ∧ I < 80
                · obtain ⟨hI0, hI1⟩ := hI
                  obtain ⟨j, rfl⟩ : ∃ j : Nat, I = (j : Int) := ⟨I.toNat, by omega⟩
                  have h80 := hA'.n80
                  have hj : j < d'.st.length := by omega
                  have hAW : SafeAt w p R0 c0 R1 c1 w3.heap.size (.slice ad1 l1.length cc1) (.slice ad2 l2.length cc2) M' d' last' (wr.alloc (.cells #[.int .i64 (j : Int), .int .u8 (X.toNat : Int)] 61)).drew := (hA'.below ((Below.refl _ wr).alloc (Nat.le_refl _) _)).drew
                  have hwn : wr.heap.size ∉ p.bl := fun hm => Nat.lt_irrefl _ (hA'.hk.lt _ hm)
                  have s0 : (wr.alloc (.cells #[.int .i64 (j : Int), .int .u8 (X.toNat : Int)] 61)).drew.cell? ⟨wr.heap.size, 0, none⟩ = some (.int .i64 (j : Int)) := by show (wr.alloc _).cell? _ = _; rw [cell_of_row _ wr.heap.size 0 _ 61 (0, 0) (heap_alloc_new wr _)]; rfl
                  have s1 : (wr.alloc (.cells #[.int .i64 (j : Int), .int .u8 (X.toNat : Int)] 61)).drew.cell? ⟨wr.heap.size, 1, none⟩ = some (.int .u8 (X.toNat : Int)) := by show (wr.alloc _).cell? _ = _; rw [cell_of_row _ wr.heap.size 1 _ 61 (0, 0) (heap_alloc_new wr _)]; rfl
                  have HP := fun w3 q3 hq3 hB3 hb3 => put_step hAW.hk (by omega) hAW.calm hj hp0 hAW.bl X w3 q3 hq3 hB3 hb3
                  have HPh : Hid _ := HP
                  have HsW : Hid (wr.heap.size < (wr.alloc (.cells #[.int .i64 (j : Int), .int .u8 (X.toNat : Int)] 61)).drew.heap.size) := by show _ < _; simp
                  have hRlt : R1 < wr.heap.size := hA'.now.lt
                  clear HP
                  go_wp2_with fail
                  go_region_held3 (fun w' => w'.cell? ⟨wr.heap.size, 0, none⟩ = some (.int .i64 (j : Int)) ∧ w'.cell? ⟨wr.heap.size, 1, none⟩ = some (.int .u8 (X.toNat : Int))) (first | exact ⟨s0, s1⟩ | exact ⟨t0, t1⟩ | exact ⟨u0, u1⟩)
                    (first
                      | (go_at_call 28; refine (filled_any X _).mono ?_; rintro rr w31 ⟨q3, rfl, hq3, hB3, hb3⟩; have t0 := (hb3.cell (p := ⟨wr.heap.size, 0, none⟩) HsW.out).trans s0; have t1 := (hb3.cell (p := ⟨wr.heap.size, 1, none⟩) HsW.out).trans s1)
                      | (go_at_call 10; refine (HPh.out _ q3 hq3 hB3 hb3).mono ?_; rintro rr w4 ⟨rfl, hk4, hB4, ht4⟩; have u0 := (World.cell?_of_block (a := ⟨wr.heap.size, 0, none⟩) (ht4.block _ HsW.out hwn)).trans s0; have u1 := (World.cell?_of_block (a := ⟨wr.heap.size, 1, none⟩) (ht4.block _ HsW.out hwn)).trans s1))
                  have hn4 : Rw w4.drew R1 80 c1 (contL d') := (hAW.now.turn hAW.hk ht4).drew
                  have hs4 : wr.heap.size < w4.drew.heap.size := Nat.lt_of_lt_of_le HsW.out ht4.size
                  have Hs4 : Hid (wr.heap.size < w4.drew.heap.size) := hs4
                  have hRne : wr.heap.size ≠ R1 := by omega
                  have hj80 : j < 80 := by omega
                  clear hs4 t0 t1 hB3 hb3 hq3 HPh
                  go_wp2_with fail
                  go_region_held3 (fun w' => w'.cell? ⟨wr.heap.size, 0, none⟩ = some (.int .i64 (j : Int)) ∧ w'.cell? ⟨wr.heap.size, 1, none⟩ = some (.int .u8 (X.toNat : Int))) (first | exact ⟨u0, u1⟩ | exact ⟨t2, t3⟩ | exact ⟨y0, y1⟩)
                    (first
                      | (go_at_call 28; refine (filled_any X _).mono ?_; rintro rr w5 ⟨q5, rfl, hq5, hB5, hb5⟩; obtain ⟨⟨u5, hu5⟩, hf5⟩ := (hn4.below hb5).ex hj80; have t2 := (hb5.cell (p := ⟨wr.heap.size, 0, none⟩) Hs4.out).trans u0; have t3 := (hb5.cell (p := ⟨wr.heap.size, 1, none⟩) Hs4.out).trans u1; have y0 := (World.cell?_of_block (a := ⟨wr.heap.size, 0, none⟩) (Below.heap_setCell w5 ⟨R1, j, none⟩ (.slice (some ⟨q5, 0, none⟩) 256 256) wr.heap.size hRne)).trans t2; have y1 := (World.cell?_of_block (a := ⟨wr.heap.size, 1, none⟩) (Below.heap_setCell w5 ⟨R1, j, none⟩ (.slice (some ⟨q5, 0, none⟩) 256 256) wr.heap.size hRne)).trans t3))
                  have hfin := SafeAt.put hAW hp0 hR1w hj (filledB_len X) hk4 ht4 (w4 := w4) ⟨hb5.os, hb5.tape, hb5.output, hb5.size, hb5.block⟩ hB5
                  have HF : Hid _ := hfin
                  clear hfin
                  go_wp2
                  go_roundw
                  case rel => exact ⟨k + 1, M' + 2, d'.begun.wr j (filledB X), (j : Int), by omega, by go_num, rfl, by omega, HF.out⟩
                  case measure => simp [RowKit.intOf]; omega
                · have hAW : SafeAt w p R0 c0 R1 c1 w3.heap.size (.slice ad1 l1.length cc1) (.slice ad2 l2.length cc2) M' d' last' (wr.alloc (.cells #[.int .i64 I, .int .u8 (X.toNat : Int)] 61)) := hA'.below ((Below.refl _ wr).alloc (Nat.le_refl _) _)
                  by_cases hI0 : I < 0
                  · go_wp2
                    go_roundw
                    case rel => exact ⟨k + 1, M', d', last', by omega, by go_num, rfl, by omega, hAW⟩
                    case measure => simp [RowKit.intOf]; omega
                  · have hI1 : 80 ≤ I := by omega
                    go_wp2
                    go_roundw
                    case rel => exact ⟨k + 1, M', d', last', by omega, by go_num, rfl, by omega, hAW⟩
                    case measure => simp [RowKit.intOf]; omega
              · obtain rfl : k = l.length := by omega
                rcases (show r = 0 ∨ r = 1 by omega) with rfl | rfl
                · go_wp2_with fail
                  have hop := hA'.hk.hop
                  refine (Flush_ok wr p M' d' hA'.hk (by omega) (hA'.calm.err (by omega))).mono ?_
                  rintro rr w5 ⟨rfl, hk5, ht5⟩
                  have hn5 := hA'.now.turn hA'.hk ht5
                  have hq5 : w5.heap[w3.heap.size]? = some (.cells #[.slice ad1 l1.length cc1, .slice ad2 l2.length cc2] 57 (0, 0)) := (ht5.block _ (lt_of_heap hA'.q) (hA'.hk.not_in' hA'.q (by decide) (by decide))).trans hA'.q
                  have hB5 := below_turn hA'.bl ht5 hA'.bl.size hp0
                  have hcalm := hA'.calm
                  have h80 := hA'.n80
                  go_wp2_with fail
                  refine (CloneRows_any w5 R1 80 c1 _ hn5 (by rw [contL_len]; exact h80) (by omega)).mono ?_
                  rintro rr w6 ⟨R2, c2, rfl, hR2, hrw2, hb6⟩
                  have hfin : SafeAt w p R2 c2 R1 c1 w3.heap.size (.slice ad1 l1.length cc1) (.slice ad2 l2.length cc2) (M' + 1) d'.begun.fl (-1) w6 := by
                    refine ⟨hk5.below hb6, (hcalm.begun).fl, by show ((List.range d'.begun.st.length).map _).length = 80; rw [List.length_map, List.length_range]; exact h80, hrw2, ?_, (by have := hn5.lt; omega), (hb6.block _ (lt_of_heap hq5)).trans hq5, (fun _ _ e => by cases e), hB5.trans (hb6.mono hB5.size)⟩
                    rw [contL_flat d'.begun.fl (fun _ => rfl)]
                    exact hn5.below hb6
                  have HF : Hid _ := hfin
                  clear hfin hrw2 hn5 hq5 hB5 hk5 ht5 hA'
                  go_wp2
                  go_roundw
                  case rel => exact ⟨1, M' + 1, d'.begun.fl, R2, c2, -1, by omega, by go_num, rfl, rfl, by omega, HF.out⟩
                  case measure => simp [RowKit.intOf]
                · go_wp2
                  go_roundw
                  case rel => exact ⟨2, M', d', R0, c0, last', by omega, by go_num, rfl, rfl, by omega, hA'⟩
                  case measure => simp [RowKit.intOf]
          · obtain rfl : r = 2 := by omega
            obtain ⟨t, ht⟩ : ∃ t : Nat, min (max torn 0) 256 = (t : Int) := ⟨(min (max torn 0) 256).toNat, by omega⟩
            have ht256 : t ≤ 256 := by omega
            have HT : Hid (min (max torn 0) 256 = (t : Int)) := ht
            have hop := hA.hk.hop
            have hkv : kl ≠ [] → ∀ k, vk.ownBlock = some k → k ∉ p.bl := fun hne k e hm => by
              obtain ⟨adk, ck, rfl, hck, hkc⟩ := HK.out
              obtain ⟨b, o, rfl, hb, _⟩ := hkc hne
              cases e
              have := hp0 _ hm
              simp only at this
              omega
            clear ht
            go_wp2_with fail
            refine (Crash_any wr p M d hA.hk (by omega) vk kl w.heap.size (HK.out.below hA.bl) hA.bl.size hkv torn t HT.out).mono ?_
            rintro rr w5 ⟨rfl, hk5, ht5⟩
            have hwas := hA.was.turn hA.hk ht5
            have hnow := hA.now.turn hA.hk ht5
            have hB5 := below_turn hA.bl ht5 hA.bl.size hp0
            have hla := hA.la
            have h80 := hA.n80
            have hneR := hA.ne
            have hc80 : (d.cr kl t).st.length = 80 := by show ((List.range d.st.length).map _).length = 80; rw [List.length_map, List.length_range]; exact h80
            clear hA ht5
            go_wp2_with fail
            rw [HT.out]
            go_wp2
            go_loopw [113] (fun t113 ws => ∃ (k M2 : Nat) (c2 : Dk.Dev), k ≤ 80 ∧ t113 = .int .i64 (k : Int) ∧ M2 ≤ 300 + k ∧ c2.st = (d.cr kl t).st ∧ (∀ i, c2.di i = none) ∧ Calm c2 ∧ Has ws p M2 c2 ∧ Rw ws R0 80 c0 d.st ∧ Rw ws R1 80 c1 (contL d) ∧ Below w.heap.size w ws) (fun t113 _ => 80 - (RowKit.intOf t113).toNat)
            case atStart => exact ⟨0, M, d.cr kl t, by omega, rfl, by omega, rfl, (fun _ => rfl), calm_cr d kl t, hk5, hwas, hnow, hB5⟩
            case round =>
              clear hk5 hwas hnow hB5
              obtain ⟨k, M2, c2, hk80, rfl, hM2, hst2, hdi2, hcal2, hkr, hwas, hnow, hBr⟩ := hrel
              by_cases hlt : k < 80
              · have hkn : k < c2.st.length := by rw [hst2]; omega
                have hkd : k < d.st.length := by omega
                have hop2 := hkr.hop
                have hcb : c2.cont k = d.crB kl t k := by
                  unfold Dk.Dev.cont
                  rw [hdi2]
                  show c2.st.getD k [] = _
                  rw [hst2]
                  exact Dk.mapRange_stab (d := d) (d' := d.cr kl t) rfl hkd
                have hsb : c2.begun.stab k = d.crB kl t k := by
                  show c2.st.getD k [] = _
                  rw [hst2]
                  exact Dk.mapRange_stab (d := d) (d' := d.cr kl t) rfl hkd
                have HCB : Hid (c2.cont k = d.crB kl t k ∧ c2.begun.stab k = d.crB kl t k) := ⟨hcb, hsb⟩
                have hcc := crB_cases d kl t k
                have HCC : Hid (d.crB kl t k = d.stab k ∨ d.crB kl t k = d.cont k ∨ (((k : Int) = d.la ∧ ∃ b, d.di k = some b) ∧ d.crB kl t k = (d.cont k).take t ++ (d.stab k).drop t)) := hcc
                have HLA : Hid (∀ i b, d.di i = some b → last = d.la) := hla
                clear hcb hsb hcc hla
                go_wp2_with fail
                refine (Read_ok wr p M2 c2 hkr (by omega) k hkn (hcal2.err (by omega))).mono ?_
                rintro rr w6 ⟨v6, rfl, ho6, hk6, ht6⟩
                rw [HCB.out.1] at ho6
                have hwas6 := hwas.turn hkr ht6
                have hnow6 := hnow.turn hkr ht6
                have hB6 := below_turn hBr ht6 hBr.size hp0
                have hy6 := ho6.byts
                clear hkr hwas hnow hBr ht6
                obtain ⟨g0, hg0c, hg0B, hg0l⟩ := hwas6.cell (i := k) hkd
                obtain ⟨g1, hg1c, hg1B, hg1l⟩ := hnow6.cell (i := k) (by rw [contL_len]; exact hkd)
                rw [contL_get d hkd] at hg1B hg1l
                have hg0B : Blk w6 g0 (d.stab k) := hg0B
                have hg0l : (d.stab k).length = 256 := hg0l
                have hb0 := hg0B.byts' hg0l
                have hb1 := hg1B.byts' hg1l
                have hsh := fun W => slice_head W (some ⟨g1, 0, none⟩) 256 256 t (by omega)
                obtain ⟨A, hsl, hbA⟩ := slice_tail hb0 t (by omega)
                have hbh := hb1.head t (by omega)
                have hg0lt := hg0B.lt
                have hg1lt := hg1B.lt
                have hk0 : (0 : Int) ≤ (k : Int) := by omega
                have hk3 : (k : Int) < 80 := by omega
                have hBW : Below w6.heap.size w6 (w6.alloc (.cells #[.slice (some ⟨g1, 0, none⟩) t 256, .slice A (256 - t) (256 - t)] 27)).drew := ((Below.refl _ w6).alloc (Nat.le_refl _) _).drew
                have HCON : Hid (Calls Try.prog 29 #[.slice (some ⟨w6.heap.size, 0, none⟩) 2 2] (w6.alloc (.cells #[.slice (some ⟨g1, 0, none⟩) t 256, .slice A (256 - t) (256 - t)] 27)).drew fun e w' => ∃ v', e = .returned v' ∧ Own w' w6.heap.size v' ((d.cont k).take t ++ (d.stab k).drop t) ∧ Below w6.heap.size w6 w') := by
                  show Calls _ _ _ _ _
                  have hL : ByL (w6.alloc (.cells #[.slice (some ⟨g1, 0, none⟩) t 256, .slice A (256 - t) (256 - t)] 27)).drew w6.heap.size w6.heap.size 0 [(d.cont k).take t, (d.stab k).drop t] :=
                    ByL.two (w := (w6.alloc (.cells #[.slice (some ⟨g1, 0, none⟩) t 256, .slice A (256 - t) (256 - t)] 27)).drew) (heap_alloc_new w6 _) ((hbh.mono hg1lt).below hBW (Nat.le_refl _)) ((hbA.mono hg0lt).below hBW (Nat.le_refl _))
                  have hlen : ([(d.cont k).take t, (d.stab k).drop t] : List (List UInt8)).flatten.length ≤ 1099511627000 := by
                    simp only [List.flatten_cons, List.flatten_nil, List.append_nil, List.length_append, List.length_take, List.length_drop]
                    omega
                  have hC := Concat_any [(d.cont k).take t, (d.stab k).drop t] w6.heap.size w6.heap.size 0 2 _ hL (by show w6.heap.size < (w6.alloc _).heap.size; simp) (by show w6.heap.size ≤ (w6.alloc _).heap.size; simp) (by simp) hlen
                  refine Calls.mono hC ?_
                  rintro e w' ⟨v', rfl, hO, hb'⟩
                  refine ⟨v', rfl, ?_, hBW.trans (hb'.mono hBW.size)⟩
                  have hO2 := hO.low (B' := w6.heap.size) hBW.size
                  simpa using hO2
                have a0 : w6.drew.cell? ⟨R0, k, none⟩ = some (.slice (some ⟨g0, 0, none⟩) 256 256) := hg0c
                have a1 : w6.drew.cell? ⟨R1, k, none⟩ = some (.slice (some ⟨g1, 0, none⟩) 256 256) := hg1c
                have b0 := (hBW.cell (p := ⟨R0, k, none⟩) hwas6.lt).trans hg0c
                have b1 := (hBW.cell (p := ⟨R1, k, none⟩) hnow6.lt).trans hg1c
                have hR0l := hwas6.lt
                have hR1l := hnow6.lt
                have ht0 : (0 : Int) ≤ (t : Int) := by omega
                have ht1 : (t : Int) ≤ 256 := by omega
                go_wp2_with fail
                go_region_held3 (fun w' => w'.cell? ⟨R0, k, none⟩ = some (.slice (some ⟨g0, 0, none⟩) 256 256) ∧ w'.cell? ⟨R1, k, none⟩ = some (.slice (some ⟨g1, 0, none⟩) 256 256)) (first | exact ⟨a0, a1⟩ | exact ⟨b0, b1⟩ | exact ⟨z0, z1⟩)
                  (first
                    | (go_at_call 29; refine HCON.out.mono ?_; rintro rr w7 ⟨v7, rfl, ho7, hb7⟩; have z0 := (hb7.cell (p := ⟨R0, k, none⟩) hR0l).trans hg0c; have z1 := (hb7.cell (p := ⟨R1, k, none⟩) hR1l).trans hg1c))
                have hy6' := hy6.below hb7 (Nat.le_refl _)
                have hb0' := (hb0.mono hg0lt).below hb7 (Nat.le_refl _)
                have hb1' := (hb1.mono hg1lt).below hb7 (Nat.le_refl _)
                have hy7 := ho7.byts
                have hwas7 := hwas6.below hb7
                have hnow7 := hnow6.below hb7
                have hk7 := hk6.below hb7
                have hB7 := hB6.trans (hb7.mono hB6.size)
                clear hwas6 hnow6 hk6 hB6 hy6 hb0 hb1 hbA hbh ho6 ho7 hsl hsh HCON a0 a1 b0 b1 hBW
                go_upto_region 41 with fail
                go_cut [166] (fun t166 w' => t166 = .bool false ∧ w' = w7)
                case first =>
                  by_cases e1 : d.crB kl t k = d.stab k
                  · go_wp2_with fail
                    refine (Equal_any _ _ _ _ _ _ w7 hy6' hb0').mono ?_
                    rintro rr w8 ⟨rfl, rfl⟩
                    rw [decide_eq_true e1]
                    go_wp2
                    go_meet
                    case rel => exact ⟨rfl, rfl⟩
                  · by_cases e2 : d.crB kl t k = d.cont k
                    · go_wp2_with fail
                      refine (Equal_any _ _ _ _ _ _ w7 hy6' hb0').mono ?_
                      rintro rr w8 ⟨rfl, rfl⟩
                      rw [decide_eq_false e1]
                      go_wp2_with fail
                      refine (Equal_any _ _ _ _ _ _ w8 hy6' hb1').mono ?_
                      rintro rr w9 ⟨rfl, rfl⟩
                      rw [decide_eq_true e2]
                      go_wp2
                      go_meet
                      case rel => exact ⟨rfl, rfl⟩
                    · obtain ⟨⟨hkla, bb, hbb⟩, e3⟩ : ((k : Int) = d.la ∧ ∃ b, d.di k = some b) ∧ d.crB kl t k = (d.cont k).take t ++ (d.stab k).drop t := by
                        rcases HCC.out with h | h | h
                        · exact absurd h e1
                        · exact absurd h e2
                        · exact h
                      have hlast : ((k : Int) != last) = false := by rw [HLA.out _ _ hbb, ← hkla]; simp
                      clear hkla hbb
                      go_wp2_with fail
                      refine (Equal_any _ _ _ _ _ _ w7 hy6' hb0').mono ?_
                      rintro rr w8 ⟨rfl, rfl⟩
                      rw [decide_eq_false e1]
                      go_wp2_with fail
                      refine (Equal_any _ _ _ _ _ _ w8 hy6' hb1').mono ?_
                      rintro rr w9 ⟨rfl, rfl⟩
                      rw [decide_eq_false e2]
                      go_wp2_with fail
                      refine (Equal_any _ _ _ _ _ _ w9 hy6' hy7).mono ?_
                      rintro rr w10 ⟨rfl, rfl⟩
                      rw [decide_eq_true e3]
                      go_wp2
                      go_meet
                      case rel => exact ⟨rfl, rfl⟩
                case rest =>
                  obtain ⟨rfl, rfl⟩ := hcut
                  go_wp2_with fail
                  refine (Stable_ok _ p (M2 + 1) c2.begun hk7 k hkn).mono ?_
                  rintro rr w8 ⟨v8, rfl, ho8, hb8⟩
                  rw [HCB.out.2] at ho8
                  have hy6'' := hy6'.below hb8 (by have := hb7.size; omega)
                  have hy8 := ho8.byts
                  have hwas8 := hwas7.below hb8
                  have hnow8 := hnow7.below hb8
                  have hk8 := hk7.below hb8
                  have hB8 := hB7.trans (hb8.mono hB7.size)
                  clear hwas7 hnow7 hk7 hB7 hy6' hb0' hb1' hy7 ho8
                  go_wp2_with fail
                  refine (Equal_any _ _ _ _ _ _ w8 hy6'' hy8).mono ?_
                  rintro rr w9 ⟨rfl, rfl⟩
                  rw [decide_eq_true rfl]
                  go_wp2
                  go_roundw
                  case rel => exact ⟨k + 1, M2 + 1, c2.begun, by omega, by go_num, by omega, hst2, hdi2, hcal2.begun, hk8, hwas8, hnow8, hB8⟩
                  case measure => simp [RowKit.intOf]; omega
              · obtain rfl : k = 80 := by omega
                go_wp2_with fail
                refine (Dirty_any wr p M2 c2 hkr (by omega)).mono ?_
                rintro rr w6 ⟨v6, rfl, ho6, hb6⟩
                rw [dlI_nil c2 hdi2] at ho6
                obtain ⟨ad6, c6, rfl, -⟩ := ho6.shape
                have hk6 := hkr.below hb6
                have hB6 := hBr.trans (hb6.mono hBr.size)
                simp only [List.length_nil]
                go_wp2_with fail
                refine (RepeatB_99 w6).mono ?_
                rintro rr w7 ⟨q7, rfl, hq7, hbo7, hb7⟩
                have hk7 := hk6.below hb7
                have hB7 := hB6.trans (hb7.mono hB6.size)
                have hq7l : q7 < w7.heap.size := by
                  obtain ⟨ad, c, hv, _, hc⟩ := hbo7
                  simp only [Value.slice.injEq] at hv
                  obtain ⟨rfl, _, _⟩ := hv
                  obtain ⟨b, o, e, _, hcl⟩ := hc (by intro e; have := congrArg List.length e; rw [List.length_replicate] at this; simp at this)
                  cases e
                  exact World.block_lt_of_cell? w7 _ (hcl 0 (by rw [List.length_replicate]; omega))
                go_wp2_with fail
                refine (Crash_any w7 p M2 c2 hk7 (by omega) _ (List.replicate 99 true) (q7 + 1) hbo7 (by omega) (fun _ k e hm => by cases e; have := hk6.lt q7 hm; omega) 256 256 (by decide)).mono ?_
                rintro rr w8 ⟨rfl, hk8, ht8⟩
                have hB8 := below_turn hB7 ht8 hB7.size hp0
                go_wp2
                go_ret
                exact ⟨rfl, hB8⟩
  · by_cases h60 : l1.length ≤ 60
    · have h60' : (60 : Int) < (l2.length : Int) := by omega
      clear hg
      go_enter Try.func5, Try.ntmps5
      go_wp2_with fail
      refine (works_any w).mono ?_
      rintro r w1 ⟨rfl, hb1⟩
      go_wp2
      go_ret
      exact ⟨rfl, hb1⟩
    · have h60' : (60 : Int) < (l1.length : Int) := by omega
      clear hg h60
      go_enter Try.func5, Try.ntmps5
      go_wp2_with fail
      refine (works_any w).mono ?_
      rintro r w1 ⟨rfl, hb1⟩
      go_wp2
      go_ret
      exact ⟨rfl, hb1⟩
end Go.Proofs.Ytkiacjjagjlgcaa
