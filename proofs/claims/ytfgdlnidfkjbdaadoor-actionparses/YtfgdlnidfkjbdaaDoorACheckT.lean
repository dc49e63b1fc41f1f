/-
  WHAT THE DOCUMENT's Check DOES.
-/
import Derived.Test.YtfgdlnidfkjbdaaDoorAStT
import Derived.Test.YtfgdlnidfkjbdaaDoorAParse
namespace Go.Proofs.YtfgdlnidfkjbdaaDoor
open Go.RowKit

/-- a result that lies in memory, alone -/
theorem results_one {fn : Func} {p : Tmp} (h : fn.results = #[.cell p 28]) (tmps : Array Value) (W : World) {g : Nat} {cs : Array Value} (hR : Rw W g cs 28) (hz : cs.size = 2) (hp : tmps.getD p undef = .pointer (some ⟨g, 0, none⟩)) :
    (results fn tmps).run Tryd.prog W = .ok (.agg cs) W := by
  have hp' : tmps[p]?.getD undef = .pointer (some ⟨g, 0, none⟩) := by simpa using hp
  simp [results, h, hp', asAddr, run_loadVar_row W g _ 28 cs (0, 0) _ hR Tryd.underlying28 rfl (by rw [hz]; kernel_rfl)]
/-- an error as it is told -/
def Ac.spot : Option (Int × Nat) → Int × Nat
  | none => (0, 0)
  | some x => x

set_option maxRecDepth 100000 in
set_option maxHeartbeats 4000000 in
theorem CheckT_any (hC : StmtC) (v : Value) (ls : List (List (List UInt8))) (B : Nat) (w : World) (hv : LiS w B v ls) (hB : B ≤ w.heap.size) (hF : Fit ls) :
    Calls Tryd.prog 26 #[v] w fun e w' => e = .returned (.agg #[.int .i64 (Ac.spot (Ac.chk 0 0 0 ls)).1, .int .i64 ((Ac.spot (Ac.chk 0 0 0 ls)).2 : Int)]) ∧ Below w.heap.size w w' := by
  obtain ⟨ad, c, rfl, hle⟩ := hv.shape
  obtain ⟨X, hX⟩ : ∃ X, Ac.chk 0 0 0 ls = X := ⟨_, rfl⟩
  rw [hX]
  have HX0 : Hid (Ac.chk 0 0 0 (ls.drop 0) = X) := hX
  have HF : Hid (Fit ls) := hF
  have lb : (ls.length : Int) ≤ 1099511 := by have := hF.1; omega
  clear hX hF hle
  have r0 := Rw.new w #[.int .i64 0, .int .i64 0] 28
  have hb0 := (Below.refl w.heap.size w).alloc (Nat.le_refl _) (.cells #[.int .i64 0, .int .i64 0] 28)
  go_enter Tryd.func26, Tryd.ntmps26
  go_upto_region 1 with fail
  generalize w.alloc (.cells #[.int .i64 0, .int .i64 0] 28) = Y at r0 hb0 ⊢
  go_wp2
  go_loopw [3, 4, 5] (fun o m i W => ∃ a b k : Nat, a ≤ 8 ∧ b ≤ 256 ∧ k ≤ ls.length ∧ o = .int .i64 (a : Int) ∧ m = .int .i64 (b : Int) ∧ i = .int .i64 (k : Int) ∧ Hid (Ac.chk a b k (ls.drop k) = X) ∧ Below Y.heap.size Y W) (fun _ _ i _ => ls.length - (intOf i).toNat)
  case atStart => exact ⟨0, 0, 0, by omega, by omega, Nat.zero_le _, rfl, rfl, rfl, HX0, Below.refl _ _⟩
  case round =>
    clear HX0
    obtain ⟨a, b, k, ha, hbb, hk, rfl, rfl, rfl, HX, hbr⟩ := hrel
    have rr := r0.below hbr r0.lt
    have hYr := hb0.trans (hbr.mono hb0.size)
    have ab : (a : Int) ≤ 8 := by omega
    have bb : (b : Int) ≤ 256 := by omega
    by_cases hlt : k < ls.length
    · have i1 : (k : Int) < (ls.length : Int) := by omega
      have HX2 := HX.out
      rw [List.drop_eq_getElem_cons hlt, Ac.chk] at HX2
      obtain ⟨g, o, c1, aa, ac, e, hg, p0, hQ⟩ := (hv.below hYr hB).at hlt
      simp only [Value.slice.injEq] at e
      obtain ⟨rfl, -, rfl⟩ := e
      have hl1 := HF.out.2.1 ls[k] (List.getElem_mem hlt)
      have hl2 := HF.out.2.2 ls[k] (List.getElem_mem hlt)
      obtain ⟨l, hl⟩ : ∃ l, ls[k] = l := ⟨_, rfl⟩
      rw [hl] at p0 hQ hl1 hl2 HX2
      clear hl HX
      have llb : (l.length : Int) ≤ 1099511 := by omega
      by_cases hend : l = [Ac.sEnd]
      · rw [if_pos hend] at HX2
        subst hend
        obtain ⟨g2, o2, c2, e, -, s0⟩ := TxR.at hQ (k := 0) (by simp)
        simp only [Value.slice.injEq] at e
        obtain ⟨rfl, -, rfl⟩ := e
        have s1 : wr.cell? ⟨g2, o2, none⟩ = some (.string ⟨#[101, 110, 100]⟩) := s0
        clear s0 hQ
        by_cases ha0 : a = 0
        · subst ha0
          rw [if_pos rfl] at HX2
          have HE : Hid (X = some (131, k)) := HX2.symm
          clear HX2
          have z0 : wr.cell? ⟨w.heap.size, 0, none⟩ = some (.int .i64 0) := rr.cell 0
          have z1 : wr.cell? ⟨w.heap.size, 1, none⟩ = some (.int .i64 0) := rr.cell 1
          have f0 := rr.free 0
          have f1 := rr.free 1
          have hT := Turn.put2 wr w.heap.size (.int .i64 131) (.int .i64 (k : Int))
          have q3 := rr.put2 (.int .i64 131) (.int .i64 (k : Int))
          go_wp2
          refine bodyPost_ret (results_one Tryd.results26 _ _ q3 rfl rfl) rfl ⟨?_, hT.bel hYr (by simp)⟩
          rw [HE.out]
          rfl
        · rw [if_neg ha0] at HX2
          have n0 : ((a : Int) == 0) = false := by rw [beq_eq_false_iff_ne]; omega
          have HN : Hid (Ac.chk (a - 1) b (k + 1) (ls.drop (k + 1)) = X) := HX2
          have HA : Hid ((a : Int) - 1 = ((a - 1 : Nat) : Int)) := by show _ = _; omega
          clear HX2
          go_wp2
          exact ⟨⟨a - 1, b, k + 1, by omega, hbb, by omega, by rw [← HA.out], rfl, by go_num, HN, hbr⟩, by simp [intOf]; omega⟩
      · rw [if_neg hend] at HX2
        have hSt := hC (.slice aa l.length ac) l B wr hQ (by have := hYr.size; omega) hl1 hl2
        go_upto_region 5 with fail
        go_cut [28] from 8 to 61 (fun t X => t = .bool false ∧ X = wr)
        case first =>
          by_cases h1 : l.length = 1
          · have n1 : ((l.length : Int) == 1) = true := by rw [beq_iff_eq]; omega
            obtain ⟨g2, o2, c2, e, -, s0⟩ := TxR.at hQ (k := 0) (by omega)
            simp only [Value.slice.injEq] at e
            obtain ⟨rfl, -, rfl⟩ := e
            obtain ⟨u, hu⟩ : ∃ u, str l[0] = u := ⟨_, rfl⟩
            rw [hu] at s0
            have s1 : wr.cell? ⟨g2, o2, none⟩ = some (.string u) := s0
            have n2 : ¬ u.toList = [101, 110, 100] := fun h => hend (by
              rw [← hu, ByteArray.toList_eq, str_toList] at h
              obtain ⟨y, rfl⟩ : ∃ y, l = [y] := by
                match l, h1 with
                | [y], _ => exact ⟨y, rfl⟩
              simp only [List.getElem_cons_zero] at h
              rw [h]
              rfl)
            have n3 : (u.toList == [101, 110, 100]) = false := by rw [beq_eq_false_iff_ne]; exact n2
            have n4 : (0 : Int) < (l.length : Int) := by omega
            clear s0 hQ hSt HX2 n2 hu
            go_wp2
            go_meet
            case rel => exact ⟨rfl, rfl⟩
          · have n1 : ((l.length : Int) == 1) = false := by rw [beq_eq_false_iff_ne]; omega
            clear hQ hSt HX2
            go_wp2
            go_meet
            case rel => exact ⟨rfl, rfl⟩
        case rest =>
          obtain ⟨rfl, rfl⟩ := hcut
          clear hend hQ hl1 hl2
          cases hst : Ac.stmtOf l with
          | none =>
            rw [hst] at HX2 hSt
            have HE : Hid (X = some (130, k)) := HX2.symm
            clear HX2 hst
            go_upto_region 10 with (first | (go_at_call 42; refine hSt.mono ?_; rintro e w1 ⟨⟨u, rfl, ⟨o', aa', an', ac', n', rfl⟩⟩, hb1⟩) | fail)
            have hx := hb1.alloc hb1.size (.cells #[.int .i64 o', .slice aa' an' ac', .int .i64 n', .slice none 0 0] 34)
            have rz := rr.below hx rr.lt
            have hYz := hYr.trans (hx.mono hYr.size)
            generalize w1.alloc (.cells #[.int .i64 o', .slice aa' an' ac', .int .i64 n', .slice none 0 0] 34) = Z at hx rz hYz ⊢
            have z0 : Z.cell? ⟨w.heap.size, 0, none⟩ = some (.int .i64 0) := rz.cell 0
            have z1 : Z.cell? ⟨w.heap.size, 1, none⟩ = some (.int .i64 0) := rz.cell 1
            have f0 := rz.free 0
            have f1 := rz.free 1
            have hT := Turn.put2 Z w.heap.size (.int .i64 130) (.int .i64 (k : Int))
            have q3 := rz.put2 (.int .i64 130) (.int .i64 (k : Int))
            go_wp2
            refine bodyPost_ret (results_one Tryd.results26 _ _ q3 rfl rfl) rfl ⟨?_, hT.bel hYz (by simp)⟩
            rw [HE.out]
            rfl
          | some y =>
            obtain ⟨op, al, n⟩ := y
            rw [hst] at HX2 hSt
            simp only [] at HX2
            clear hst
            go_upto_region 10 with (first | (go_at_call 42; refine hSt.mono ?_; rintro e w1 ⟨⟨u, rfl, ⟨aa', an', ac', rfl, -⟩⟩, hb1⟩) | fail)
            have hx := hb1.alloc hb1.size (.cells #[.int .i64 op, .slice aa' an' ac', .int .i64 n, .slice none 0 0] 34)
            have rx := Rw.new w1 #[.int .i64 op, .slice aa' an' ac', .int .i64 n, .slice none 0 0] 34
            have rz := rr.below hx rr.lt
            have hYz := hYr.trans (hx.mono hYr.size)
            have hbz := hbr.trans (hx.mono hbr.size)
            generalize w1.alloc (.cells #[.int .i64 op, .slice aa' an' ac', .int .i64 n, .slice none 0 0] 34) = Z at hx rx rz hYz hbz ⊢
            have x0 : Z.cell? ⟨w1.heap.size, 0, none⟩ = some (.int .i64 op) := rx.cell 0
            have hOp := OpensT_any op Z
            by_cases h3 : 256 < b + 1
            · rw [if_pos h3] at HX2
              have b3 : (256 : Int) < (b : Int) + 1 := by omega
              have HE : Hid (X = some (3, k)) := HX2.symm
              clear HX2
              have z0 : Z.cell? ⟨w.heap.size, 0, none⟩ = some (.int .i64 0) := rz.cell 0
              have z1 : Z.cell? ⟨w.heap.size, 1, none⟩ = some (.int .i64 0) := rz.cell 1
              have f0 := rz.free 0
              have f1 := rz.free 1
              have hT := Turn.put2 Z w.heap.size (.int .i64 3) (.int .i64 (k : Int))
              have q3 := rz.put2 (.int .i64 3) (.int .i64 (k : Int))
              go_wp2
              refine bodyPost_ret (results_one Tryd.results26 _ _ q3 rfl rfl) rfl ⟨?_, hT.bel hYz (by simp)⟩
              rw [HE.out]
              rfl
            · rw [if_neg h3] at HX2
              have b3 : ¬ (256 : Int) < (b : Int) + 1 := by omega
              cases hop : Ac.opens op with
              | true =>
                rw [hop] at hOp
                rw [if_pos hop] at HX2
                clear hop
                by_cases h8 : a = 8
                · rw [if_pos h8] at HX2
                  have n8 : ((a : Int) == 8) = true := by rw [beq_iff_eq]; omega
                  have HE : Hid (X = some (132, k)) := HX2.symm
                  clear HX2 h8
                  have z0 : Z.cell? ⟨w.heap.size, 0, none⟩ = some (.int .i64 0) := rz.cell 0
                  have z1 : Z.cell? ⟨w.heap.size, 1, none⟩ = some (.int .i64 0) := rz.cell 1
                  have f0 := rz.free 0
                  have f1 := rz.free 1
                  have hT := Turn.put2 Z w.heap.size (.int .i64 132) (.int .i64 (k : Int))
                  have q3 := rz.put2 (.int .i64 132) (.int .i64 (k : Int))
                  go_wp2_with (first | (go_at_call 43; refine hOp.mono ?_; rintro e w2 ⟨rfl, rfl⟩) | fail)
                  refine bodyPost_ret (results_one Tryd.results26 _ _ q3 rfl rfl) rfl ⟨?_, hT.bel hYz (by simp)⟩
                  rw [HE.out]
                  rfl
                · rw [if_neg h8] at HX2
                  have n8 : ((a : Int) == 8) = false := by rw [beq_eq_false_iff_ne]; omega
                  have HN : Hid (Ac.chk (a + 1) (b + 1) (k + 1) (ls.drop (k + 1)) = X) := HX2
                  have h7 : a + 1 ≤ 8 := by omega
                  clear HX2 h8
                  go_wp2_with (first | (go_at_call 43; refine hOp.mono ?_; rintro e w2 ⟨rfl, rfl⟩) | fail)
                  exact ⟨⟨a + 1, b + 1, k + 1, h7, by omega, by omega, by go_num, by go_num, by go_num, HN, hbz⟩, by simp [intOf]; omega⟩
              | false =>
                rw [hop] at hOp
                rw [if_neg (by rw [hop]; simp)] at HX2
                have HN : Hid (Ac.chk a (b + 1) (k + 1) (ls.drop (k + 1)) = X) := HX2
                clear HX2 hop
                go_wp2_with (first | (go_at_call 43; refine hOp.mono ?_; rintro e w2 ⟨rfl, rfl⟩) | fail)
                exact ⟨⟨a, b + 1, k + 1, ha, by omega, by omega, rfl, by go_num, by go_num, HN, hbz⟩, by simp [intOf]; omega⟩
    · obtain rfl : k = ls.length := by omega
      have i1 : ¬ (ls.length : Int) < (ls.length : Int) := by omega
      have HX2 := HX.out
      rw [List.drop_length, Ac.chk] at HX2
      clear HX
      by_cases ha0 : 0 < a
      · rw [if_pos ha0] at HX2
        have a1 : (0 : Int) < (a : Int) := by omega
        have HE : Hid (X = some (131, ls.length)) := HX2.symm
        clear HX2
        have z0 : wr.cell? ⟨w.heap.size, 0, none⟩ = some (.int .i64 0) := rr.cell 0
        have z1 : wr.cell? ⟨w.heap.size, 1, none⟩ = some (.int .i64 0) := rr.cell 1
        have f0 := rr.free 0
        have f1 := rr.free 1
        have hT := Turn.put2 wr w.heap.size (.int .i64 131) (.int .i64 (ls.length : Int))
        have q3 := rr.put2 (.int .i64 131) (.int .i64 (ls.length : Int))
        go_wp2
        refine bodyPost_ret (results_one Tryd.results26 _ _ q3 rfl rfl) rfl ⟨?_, hT.bel hYr (by simp)⟩
        rw [HE.out]
        rfl
      · rw [if_neg ha0] at HX2
        have a1 : ¬ (0 : Int) < (a : Int) := by omega
        have HE : Hid (X = none) := HX2.symm
        clear HX2
        have z0 : wr.cell? ⟨w.heap.size, 0, none⟩ = some (.int .i64 0) := rr.cell 0
        have z1 : wr.cell? ⟨w.heap.size, 1, none⟩ = some (.int .i64 0) := rr.cell 1
        have f0 := rr.free 0
        have f1 := rr.free 1
        have hT := Turn.put2 wr w.heap.size (.int .i64 0) (.int .i64 0)
        have q3 := rr.put2 (.int .i64 0) (.int .i64 0)
        go_wp2
        refine bodyPost_ret (results_one Tryd.results26 _ _ q3 rfl rfl) rfl ⟨?_, hT.bel hYr (by simp)⟩
        rw [HE.out]
        rfl

end Go.Proofs.YtfgdlnidfkjbdaaDoor
