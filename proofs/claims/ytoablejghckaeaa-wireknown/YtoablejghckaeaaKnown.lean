/-
  WireKnown: the document's examples. A closed statement.
-/
import Derived.Test.YtoablejghckaeaaKTab
namespace Go.Proofs.Ytoablejghckaeaa
open Go.ChangeShapes Go.WideShapes Go.ChangeAt Go.RowKit

set_option maxRecDepth 100000 in
set_option maxHeartbeats 4000000 in
theorem known_walk (w : World) :
    Calls Try.prog 3 #[] w fun e w' => e = .returned (.bool true) ∧ Below w.heap.size w w' := by
  go_enter Try.func3, Try.ntmps3
  go_wp2_with fail
  refine (works_any w).mono ?_
  rintro e w1 ⟨rfl, hB1⟩
  go_upto_region 3 with fail
  go_cut [55] (fun t w' => t = .bool false ∧ Below w.heap.size w w')
  case first =>
    go_wp2_with fail
    refine (PutUint_any 0 (by decide) _).mono ?_
    rintro e w2 ⟨v2, rfl, ho2, hb2⟩
    have hB2 := hB1.trans (hb2.mono hB1.size)
    go_wp2_with fail
    refine (Equal_any _ _ (Wm.putU 0) [0] _ _ _ (ho2.byts.alloc (Nat.le_refl _) _) (byts_lit w2 #[.int .u8 0] [0] 1 rfl rfl)).mono ?_
    rintro e w' ⟨rfl, rfl⟩
    rw [show decide (Wm.putU 0 = [0]) = true from by decide]
    have hB3 := hB2.alloc hB2.size (.cells #[.int .u8 0] 5)
    clear hB2 hB1 ho2 hb2
    generalize (w2.alloc (.cells #[.int .u8 0] 5)) = w3 at *
    go_wp2_with fail
    refine (PutUint_any 128 (by decide) _).mono ?_
    rintro e w4 ⟨v4, rfl, ho4, hb4⟩
    have hB4 := hB3.trans (hb4.mono hB3.size)
    go_wp2_with fail
    refine (Equal_any _ _ (Wm.putU 128) [128, 1] _ _ _ (ho4.byts.alloc (Nat.le_refl _) _) (byts_lit w4 #[.int .u8 128, .int .u8 1] [128, 1] 2 rfl rfl)).mono ?_
    rintro e w' ⟨rfl, rfl⟩
    rw [show decide (Wm.putU 128 = [128, 1]) = true from by decide]
    have hB5 := hB4.alloc hB4.size (.cells #[.int .u8 128, .int .u8 1] 5)
    clear hB3 hB4 ho4 hb4
    generalize (w4.alloc (.cells #[.int .u8 128, .int .u8 1] 5)) = w5 at *
    go_wp2_with fail
    refine (PutUint_any 18446744073709551615 (by decide) _).mono ?_
    rintro e w6 ⟨v6, rfl, ho6, hb6⟩
    have hB6 := hB5.trans (hb6.mono hB5.size)
    go_wp2_with fail
    refine (Equal_any _ _ (Wm.putU 18446744073709551615) [255, 255, 255, 255, 255, 255, 255, 255, 255, 1] _ _ _ (ho6.byts.alloc (Nat.le_refl _) _) (byts_lit w6 #[.int .u8 255, .int .u8 255, .int .u8 255, .int .u8 255, .int .u8 255, .int .u8 255, .int .u8 255, .int .u8 255, .int .u8 255, .int .u8 1] [255, 255, 255, 255, 255, 255, 255, 255, 255, 1] 10 rfl rfl)).mono ?_
    rintro e w' ⟨rfl, rfl⟩
    rw [show decide (Wm.putU 18446744073709551615 = [255, 255, 255, 255, 255, 255, 255, 255, 255, 1]) = true from by decide]
    have hB7 := hB6.alloc hB6.size (.cells #[.int .u8 255, .int .u8 255, .int .u8 255, .int .u8 255, .int .u8 255, .int .u8 255, .int .u8 255, .int .u8 255, .int .u8 255, .int .u8 1] 5)
    clear hB5 hB6 ho6 hb6
    generalize (w6.alloc (.cells #[.int .u8 255, .int .u8 255, .int .u8 255, .int .u8 255, .int .u8 255, .int .u8 255, .int .u8 255, .int .u8 255, .int .u8 255, .int .u8 1] 5)) = w7 at *
    go_wp2_with fail
    refine (PutText_any ⟨#[97, 98]⟩ (by decide) _).mono ?_
    rintro e w8 ⟨v8, rfl, ho8, hb8⟩
    have hB8 := hB7.trans (hb8.mono hB7.size)
    go_wp2_with fail
    refine (Equal_any _ _ (Wm.putT [97, 98]) [2, 97, 98] _ _ _ (ho8.byts.alloc (Nat.le_refl _) _) (byts_lit w8 #[.int .u8 2, .int .u8 97, .int .u8 98] [2, 97, 98] 3 rfl rfl)).mono ?_
    rintro e w' ⟨rfl, rfl⟩
    rw [show decide (Wm.putT [97, 98] = [2, 97, 98]) = true from by decide]
    have hB9 := hB8.alloc hB8.size (.cells #[.int .u8 2, .int .u8 97, .int .u8 98] 5)
    clear hB7 hB8 ho8 hb8
    generalize (w8.alloc (.cells #[.int .u8 2, .int .u8 97, .int .u8 98] 5)) = w9 at *
    go_wp2_with fail
    refine (PutList_any [] _ _ ⟨none, 0, rfl, Nat.le_refl _, fun _ => rfl, fun h => absurd rfl h⟩ (by decide)).mono ?_
    rintro e w10 ⟨v10, rfl, ho10, hb10⟩
    have hB10 := hB9.trans (hb10.mono hB9.size)
    go_wp2_with fail
    refine (Equal_any _ _ (Wm.putL (toL [])) [0] _ _ _ (ho10.byts.alloc (Nat.le_refl _) _) (byts_lit w10 #[.int .u8 0] [0] 1 rfl rfl)).mono ?_
    rintro e w' ⟨rfl, rfl⟩
    rw [show decide (Wm.putL (toL []) = [0]) = true from by decide]
    have hB11 := hB10.alloc hB10.size (.cells #[.int .u8 0] 5)
    clear hB9 hB10 ho10 hb10
    generalize (w10.alloc (.cells #[.int .u8 0] 5)) = w11 at *
    go_wp2
    go_meet
    case rel => exact ⟨rfl, hB11⟩
  case rest =>
    obtain ⟨rfl, hB⟩ := hcut
    clear hB1
    go_wp2
    have hBK := hB.trans ((ktab_below wc).mono hB.size)
    have hKs := ktab_size wc
    go_loopw [69] (fun i wr => ∃ k : Nat, k ≤ 6 ∧ i = .int .i64 (k : Int) ∧ Below (ktab wc).heap.size (ktab wc) wr) (fun i _ => 6 - (intOf i).toNat)
    case atStart => exact ⟨0, by omega, rfl, Below.refl _ _⟩
    case round =>
      obtain ⟨k, hk, rfl, hbr⟩ := hrel
      by_cases hlt : k < 6
      · obtain ⟨ad, cc, b, most, n, e, c, r0, r1, r2, r3, hy, hask, hbl⟩ := ktab_row wc k hlt
        have q0 := (hbr.cell (p := ⟨wc.heap.size + 1 + 1 + 1 + 1 + 1, k * 4, none⟩) (by rw [hKs]; simp)).trans r0
        have q1 := (hbr.cell (p := ⟨wc.heap.size + 1 + 1 + 1 + 1 + 1, k * 4 + 1, none⟩) (by rw [hKs]; simp)).trans r1
        have q2 := (hbr.cell (p := ⟨wc.heap.size + 1 + 1 + 1 + 1 + 1, k * 4 + 2, none⟩) (by rw [hKs]; simp)).trans r2
        have q3 := (hbr.cell (p := ⟨wc.heap.size + 1 + 1 + 1 + 1 + 1, k * 4 + 3, none⟩) (by rw [hKs]; simp)).trans r3
        have Hask : Hid (askU b 0 most = (n, e, c)) := hask
        have hlt' : (k : Int) < 6 := by omega
        have hzr := hbr.size
        clear r0 r1 r2 r3 hask hKs
        generalize ktab wc = W at *
        go_upto_region 8 with fail
        have bx := heap_alloc_new wr (.cells #[.slice ad b.length cc, .int .u64 (most : Int), .int .u64 (n : Int), .int .i64 (e : Int)] 30)
        have hyX := (hy.below hbr (Nat.le_refl _)).alloc hzr (.cells #[.slice ad b.length cc, .int .u64 (most : Int), .int .u64 (n : Int), .int .i64 (e : Int)] 30)
        have hyD : Byts (wr.alloc (.cells #[.slice ad b.length cc, .int .u64 (most : Int), .int .u64 (n : Int), .int .i64 (e : Int)] 30)).drew W.heap.size (.slice ad b.length cc) b := hyX.drewN 1
        have hBX := hbr.alloc hzr (.cells #[.slice ad b.length cc, .int .u64 (most : Int), .int .u64 (n : Int), .int .i64 (e : Int)] 30)
        clear q0 q1 q2 q3
        go_cut [3, 4] (fun t3 t4 w' => t3 = .int .u64 (n : Int) ∧ t4 = .int .i64 (e : Int) ∧ Below W.heap.size W w' ∧ w'.heap[wr.heap.size]? = some (.cells #[.slice ad b.length cc, .int .u64 (most : Int), .int .u64 (n : Int), .int .i64 (e : Int)] 30 (0, 0)))
        case first =>
          go_region_with (first | (go_at_call 14; refine (New_any _ b W.heap.size _ hyD (by omega)).mono ?_; rintro e' w2 ⟨p, x, rfl, hp, hc2, ho2, hb2⟩; have bx2 := (hb2.block wr.heap.size (by simp)).trans bx; have x1 := cell_of_row w2 wr.heap.size 1 _ 30 (0, 0) bx2) | (go_at_call 15; refine (Uint_any p x 0 _ b most _ hc2 ho2 (by omega) (by omega)).mono ?_; rintro e' w3 ⟨rfl, hc3, hg3⟩))
          all_goals go_wp2_with fail
          all_goals go_meet
          all_goals
            have hBXd : Below W.heap.size W (wr.alloc (.cells #[.slice ad b.length cc, .int .u64 (most : Int), .int .u64 (n : Int), .int .i64 (e : Int)] 30)).drew := hBX.drew
            have hB2 := hBXd.trans (hb2.mono hBXd.size)
            have hB3 := below_grow hB2 hg3 hB2.size (Nat.le_trans hBXd.size hp)
            have hpw : wr.heap.size < p := by simp at hp; omega
            exact ⟨by rw [Hask.out], by rw [Hask.out], hB3, (hg3.block wr.heap.size (by have := hb2.size; simp at this; omega) (by simp; omega)).trans bx2⟩
        case rest =>
          obtain ⟨rfl, rfl, hBr, hbx⟩ := hcut
          have q2 := (cell_of_row _ wr.heap.size 2 _ 30 (0, 0) hbx).trans (show _ = some (Value.int .u64 (n : Int)) from rfl)
          have q3 := (cell_of_row _ wr.heap.size 3 _ 30 (0, 0) hbx).trans (show _ = some (Value.int .i64 (e : Int)) from rfl)
          clear bx hyX hyD hBX hbx
          go_wp2
          exact ⟨⟨k + 1, by omega, by go_num, hBr⟩, by simp [intOf]; omega⟩
      · have hlt' : ¬ (k : Int) < 6 := by omega
        have hC0 := hBK.trans (hbr.mono hBK.size)
        clear hbr hKs hBK hB
        go_wp2_with fail
        refine (New_any _ [2, 97] _ _ (byts_lit _ #[.int .u8 2, .int .u8 97] [2, 97] 2 rfl rfl) (by simp)).mono ?_
        rintro e' x0 ⟨p0, g0, rfl, hp0, hcc0, hoo0, hbb0⟩
        have hA0 := (hC0.alloc hC0.size (.cells #[.int .u8 2, .int .u8 97] 5)).trans (hbb0.mono (by have := hC0.size; simp; omega))
        have hpp0 : w.heap.size ≤ p0 := by have := hC0.size; simp at hp0; omega
        go_wp2_with fail
        refine (Text_any p0 g0 0 _ [2, 97] 9 _ hcc0 hoo0 (by simp) (by simp) (by decide)).mono ?_
        rintro e' y0 ⟨rfl, hcd0, hgg0⟩
        rw [show askT [2, 97] 0 9 = ([], 7, 0) from by decide]
        have hC1 := below_grow hA0 hgg0 hA0.size hpp0
        clear hA0 hgg0 hpp0 hcc0 hoo0 hbb0 hp0 hcd0 hC0
        go_wp2_with fail
        refine (New_any _ [2, 97] _ _ (byts_lit _ #[.int .u8 2, .int .u8 97] [2, 97] 2 rfl rfl) (by simp)).mono ?_
        rintro e' x1 ⟨p1, g1, rfl, hp1, hcc1, hoo1, hbb1⟩
        have hA1 := (hC1.alloc hC1.size (.cells #[.int .u8 2, .int .u8 97] 5)).trans (hbb1.mono (by have := hC1.size; simp; omega))
        have hpp1 : w.heap.size ≤ p1 := by have := hC1.size; simp at hp1; omega
        go_wp2_with fail
        refine (Text_any p1 g1 0 _ [2, 97] 1 _ hcc1 hoo1 (by simp) (by simp) (by decide)).mono ?_
        rintro e' y1 ⟨rfl, hcd1, hgg1⟩
        rw [show askT [2, 97] 0 1 = ([], 3, 0) from by decide]
        have hC2 := below_grow hA1 hgg1 hA1.size hpp1
        clear hA1 hgg1 hpp1 hcc1 hoo1 hbb1 hp1 hcd1 hC1
        go_wp2_with fail
        refine (New_any _ [2, 97, 98, 99] _ _ (byts_lit _ #[.int .u8 2, .int .u8 97, .int .u8 98, .int .u8 99] [2, 97, 98, 99] 4 rfl rfl) (by simp)).mono ?_
        rintro e' x2 ⟨p2, g2, rfl, hp2, hcc2, hoo2, hbb2⟩
        have hA2 := (hC2.alloc hC2.size (.cells #[.int .u8 2, .int .u8 97, .int .u8 98, .int .u8 99] 5)).trans (hbb2.mono (by have := hC2.size; simp; omega))
        have hpp2 : w.heap.size ≤ p2 := by have := hC2.size; simp at hp2; omega
        go_wp2_with fail
        refine (Text_any p2 g2 0 _ [2, 97, 98, 99] 9 _ hcc2 hoo2 (by simp) (by simp) (by decide)).mono ?_
        rintro e' y2 ⟨rfl, hcd2, hgg2⟩
        rw [show askT [2, 97, 98, 99] 0 9 = ([97, 98], 0, 3) from by decide]
        rw [show str [97, 98] = ⟨#[97, 98]⟩ from rfl]
        have hC3 := below_grow hA2 hgg2 hA2.size hpp2
        clear hA2 hgg2 hpp2 hcc2 hoo2 hbb2 hp2 hcd2 hC2
        go_wp2_with fail
        refine (New_any _ [3, 0, 0] _ _ (byts_lit _ #[.int .u8 3, .int .u8 0, .int .u8 0] [3, 0, 0] 3 rfl rfl) (by simp)).mono ?_
        rintro e' x3 ⟨p3, g3, rfl, hp3, hcc3, hoo3, hbb3⟩
        have hA3 := (hC3.alloc hC3.size (.cells #[.int .u8 3, .int .u8 0, .int .u8 0] 5)).trans (hbb3.mono (by have := hC3.size; simp; omega))
        have hpp3 : w.heap.size ≤ p3 := by have := hC3.size; simp at hp3; omega
        go_wp2_with fail
        refine (List_any p3 g3 0 _ [3, 0, 0] 9 9 _ hcc3 hoo3 (by simp) (by simp) (by decide) (by decide)).mono ?_
        rintro e' y3 ⟨vl3, done3, rfl, hol3, htl3, hcd3, hgg3⟩
        rw [show askL [3, 0, 0] 0 9 9 = ([], 7, 0) from by decide]
        have hC4 := below_grow hA3 hgg3 hA3.size hpp3
        clear hA3 hgg3 hpp3 hcc3 hoo3 hbb3 hp3 hcd3 hC3 hol3 htl3
        go_wp2_with fail
        refine (New_any _ [2, 1, 97, 0] _ _ (byts_lit _ #[.int .u8 2, .int .u8 1, .int .u8 97, .int .u8 0] [2, 1, 97, 0] 4 rfl rfl) (by simp)).mono ?_
        rintro e' x4 ⟨p4, g4, rfl, hp4, hcc4, hoo4, hbb4⟩
        have hA4 := (hC4.alloc hC4.size (.cells #[.int .u8 2, .int .u8 1, .int .u8 97, .int .u8 0] 5)).trans (hbb4.mono (by have := hC4.size; simp; omega))
        have hpp4 : w.heap.size ≤ p4 := by have := hC4.size; simp at hp4; omega
        go_wp2_with fail
        refine (List_any p4 g4 0 _ [2, 1, 97, 0] 1 9 _ hcc4 hoo4 (by simp) (by simp) (by decide) (by decide)).mono ?_
        rintro e' y4 ⟨vl4, done4, rfl, hol4, htl4, hcd4, hgg4⟩
        rw [show askL [2, 1, 97, 0] 0 1 9 = ([], 3, 0) from by decide]
        have hC5 := below_grow hA4 hgg4 hA4.size hpp4
        clear hA4 hgg4 hpp4 hcc4 hoo4 hbb4 hp4 hcd4 hC4 hol4 htl4
        go_wp2_with fail
        refine (New_any _ [2, 1, 97, 0] _ _ (byts_lit _ #[.int .u8 2, .int .u8 1, .int .u8 97, .int .u8 0] [2, 1, 97, 0] 4 rfl rfl) (by simp)).mono ?_
        rintro e' x5 ⟨p5, g5, rfl, hp5, hcc5, hoo5, hbb5⟩
        have hA5 := (hC5.alloc hC5.size (.cells #[.int .u8 2, .int .u8 1, .int .u8 97, .int .u8 0] 5)).trans (hbb5.mono (by have := hC5.size; simp; omega))
        have hpp5 : w.heap.size ≤ p5 := by have := hC5.size; simp at hp5; omega
        go_wp2_with fail
        refine (List_any p5 g5 0 _ [2, 1, 97, 0] 9 0 _ hcc5 hoo5 (by simp) (by simp) (by decide) (by decide)).mono ?_
        rintro e' y5 ⟨vl5, done5, rfl, hol5, htl5, hcd5, hgg5⟩
        rw [show askL [2, 1, 97, 0] 0 9 0 = ([], 3, 0) from by decide]
        have hC6 := below_grow hA5 hgg5 hA5.size hpp5
        clear hA5 hgg5 hpp5 hcc5 hoo5 hbb5 hp5 hcd5 hC5 hol5 htl5
        go_wp2_with fail
        refine (Uint_nil 1 _).mono ?_
        rintro e' x7 ⟨rfl, hb7⟩
        go_wp2_with fail
        refine (Text_nil 1 _).mono ?_
        rintro e' x8 ⟨rfl, hb8⟩
        go_wp2_with fail
        refine (List_nil 1 1 _).mono ?_
        rintro e' x9 ⟨rfl, hb9⟩
        have hC7 := hC6.trans (hb7.mono hC6.size)
        have hC8 := hC7.trans (hb8.mono hC7.size)
        have hC9 := hC8.trans (hb9.mono hC8.size)
        clear hC6 hC7 hC8 hb7 hb8 hb9
        go_wp2_with fail
        refine (At_nil _).mono ?_
        rintro e' w' ⟨rfl, rfl⟩
        go_wp2_with fail
        refine (Left_nil _).mono ?_
        rintro e' w' ⟨rfl, rfl⟩
        go_wp2
        go_ret
        exact ⟨rfl, hC9⟩

end Go.Proofs.Ytoablejghckaeaa
