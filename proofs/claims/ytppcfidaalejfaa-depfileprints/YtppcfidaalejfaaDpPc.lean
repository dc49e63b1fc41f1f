/-
  WHAT THE DOCUMENT's Pieces DOES.
-/
import Derived.Test.YtppcfidaalejfaaDpRow
namespace Go.Proofs.Ytppcfidaalejfaa
open Go.RowKit

def Dp.kind : Dp.Pc → Int
  | .blank => 1
  | .mark => 2
  | .fin => 3
  | .byte _ => 4
def Dp.cb : Dp.Pc → UInt8
  | .byte c => c
  | _ => 0
/-- rows of pieces with their places -/
def PcR : Rc (Dp.Pc × Nat) where
  e := 63
  st := 59
  k := 3
  bytes := 24
  z := .agg #[.int .i64 0, .int .u8 0, .int .i64 0]
  enc p := [.int .i64 (Dp.kind p.1), .int .u8 ((Dp.cb p.1).toNat : Int), .int .i64 (p.2 : Int)]
  pos := by decide
  len _ := rfl
  one f u hu := by
    simp only [List.mem_cons, List.not_mem_nil, or_false] at hu
    rcases hu with rfl | rfl | rfl <;> rfl
  info := by kernel_rfl
  under := Try.underlying59
  zk := rfl
  small := by decide
def Dp.noP : Dp.Pc × Nat := (.blank, 0)
theorem PcR.at {w : World} {B : Nat} {v : Value} {l : List (Dp.Pc × Nat)} (h : PcR.Sl w B v l) (j : Nat) (hj : j < l.length) :
    ∃ b o c, v = .slice (some ⟨b, o, none⟩) l.length c ∧ b < B ∧ w.cell? ⟨b, o + j * 3, none⟩ = some (.int .i64 (Dp.kind (l.getD j Dp.noP).1)) ∧ w.cell? ⟨b, o + j * 3 + 1, none⟩ = some (.int .u8 ((Dp.cb (l.getD j Dp.noP).1).toNat : Int)) ∧ w.cell? ⟨b, o + j * 3 + 2, none⟩ = some (.int .i64 ((l.getD j Dp.noP).2 : Int)) := by
  obtain ⟨b, o, c, rfl, hb, hc⟩ := h.cells j hj
  have e : l.getD j Dp.noP = l[j] := by simp [List.getD, List.getElem?_eq_getElem hj]
  rw [e]
  exact ⟨b, o, c, rfl, hb, hc 0 _ (by decide) rfl, hc 1 _ (by decide) rfl, hc 2 _ (by decide) rfl⟩
theorem drop_byte (s : ByteArray) (k : Nat) (h : k < s.size) : (bs s).drop k = s[k] :: (bs s).drop (k + 1) := by
  rw [List.drop_eq_getElem_cons (by rw [bs_length]; exact h)]
  rfl
namespace Dp
theorem pieces_low (i : Nat) {c : UInt8} (r : B) (h10 : c ≠ 10) (h : c < 32) : pieces i (c :: r) = ([], some i) := by
  have h1 : c ≠ 92 := by rintro rfl; revert h; decide
  rw [pieces.eq_5 i c r (fun _ e _ => h1 e) (fun _ _ e _ => h1 e) (fun e _ => h1 e), if_neg h10, if_pos h]
theorem pieces_end (i : Nat) : pieces i [92] = ([], some i) := rfl
theorem pieces_odd (i : Nat) {c : UInt8} (r : B) (h10 : c ≠ 10) (h : esc c = false) : pieces i (92 :: c :: r) = ([], some i) := by
  rw [pieces.eq_3 i c r (by simpa using h10), if_neg (by rw [h]; simp)]
theorem pieces_len : ∀ (n : Nat) (b : B) (i : Nat), b.length ≤ n → (pieces i b).1.length ≤ b.length + 1 := by
  intro n
  induction n with
  | zero =>
    intro b i h
    have : b = [] := List.eq_nil_of_length_eq_zero (by omega)
    subst this
    simp [pieces]
  | succ n ih =>
    intro b i h
    cases b with
    | nil => simp [pieces]
    | cons c r =>
      simp only [List.length_cons] at h ⊢
      by_cases h92 : c = 92
      · subst h92
        cases r with
        | nil => simp [pieces_end]
        | cons d r =>
          simp only [List.length_cons] at h ⊢
          have := ih r (i + 2) (by omega)
          by_cases h10 : d = 10
          · subst h10
            rw [pieces_join]
            simp only [List.length_cons]; omega
          · cases he : esc d with
            | true =>
              rw [pieces_esc i r he]
              simp only [List.length_cons]; omega
            | false =>
              rw [pieces_odd i r h10 he]
              simp
      · have := ih r (i + 1) (by omega)
        by_cases h10 : c = 10
        · subst h10
          rw [pieces_fin]
          simp only [List.length_cons]; omega
        · by_cases hl : c < 32
          · rw [pieces_low i r h10 hl]; simp
          · by_cases h32 : c = 32
            · subst h32
              rw [pieces_blank]
              simp only [List.length_cons]; omega
            · by_cases h58 : c = 58
              · subst h58
                rw [pieces_mark]
                simp only [List.length_cons]; omega
              · rw [pieces_byte i r (by simp [esc, h32, h58, h92]) (UInt8.not_lt.1 hl)]
                simp only [List.length_cons]; omega
/-- where a byte may not be, as it is told -/
def badI : Option Nat → Int
  | none => -1
  | some i => (i : Int)
end Dp

set_option maxRecDepth 100000 in
set_option maxHeartbeats 4000000 in
theorem PiecesT_any (s : ByteArray) (w : World) (hs : s.size ≤ 1099511) : Calls Try.prog 29 #[.string s] w fun e w' => ∃ v, e = .returned (.tuple #[v, .int .i64 (Dp.badI (Dp.pieces 0 (bs s)).2)]) ∧ PcR.Own w' w.heap.size v (Dp.pieces 0 (bs s)).1 ∧ Below w.heap.size w w' := by
  have hbl := Dp.pieces_len _ (bs s) 0 (Nat.le_refl _)
  rw [bs_length] at hbl
  generalize hbb : Dp.pieces 0 (bs s) = BB at *
  have HBB : Hid _ := hbb
  clear hbb
  go_enter Try.func29, Try.ntmps29
  go_wp2
  go_loopw [4, 5] (fun v i wr => ∃ (k : Nat) (X : List (Dp.Pc × Nat)), k ≤ s.size ∧ i = .int .i64 (k : Int) ∧ PcR.Own wr w.heap.size v X ∧ BB = (X ++ (Dp.pieces k ((bs s).drop k)).1, (Dp.pieces k ((bs s).drop k)).2) ∧ Below w.heap.size w wr) (fun _ i _ => s.size - (intOf i).toNat)
  case atStart => exact ⟨0, [], Nat.zero_le _, rfl, Rc.Own.nil _ _, by rw [List.drop_zero, HBB.out]; rfl, Below.refl _ _⟩
  case round =>
    obtain ⟨k, X, hk, rfl, hO, hX, hB⟩ := hrel
    have hxl : X.length ≤ 1099512 := by
      have := congrArg (fun p => p.1.length) hX
      simp only [List.length_append] at this
      omega
    have HX : Hid _ := hX
    clear hX
    have HLn : ∀ x : Dp.Pc × Nat, Hid (X.length + [x].length ≤ 1099511627) := fun x => by show _ ≤ _; simp only [List.length_cons, List.length_nil]; omega
    obtain ⟨a5, n5, c5, rfl⟩ := hO.isSl
    by_cases hlt : k < s.size
    · have i1 : (k : Int) < (s.size : Int) := by omega
      have hd := drop_byte s k hlt
      have f10 := beq_lit s[k] 10
      have f32 := beq_lit s[k] 32
      have f58 := beq_lit s[k] 58
      have f92 := beq_lit s[k] 92
      rw [show ((10 : UInt8).toNat : Int) = 10 from rfl] at f10
      rw [show ((32 : UInt8).toNat : Int) = 32 from rfl] at f32
      rw [show ((58 : UInt8).toNat : Int) = 58 from rfl] at f58
      rw [show ((92 : UInt8).toNat : Int) = 92 from rfl] at f92
      have g92 : ((s[k].toNat : Int) != 92) = !decide (s[k] = 92) := by rw [← f92]; rfl
      have hlow : ((s[k].toNat : Int) < 32) ↔ s[k] < 32 := by
        rw [UInt8.lt_iff_toNat_lt]
        show _ ↔ s[k].toNat < 32
        omega
      by_cases h10 : s[k] = 10
      · rw [decide_eq_true h10] at f10
        have HX2 : Hid (BB = ((X ++ [(.fin, k)]) ++ (Dp.pieces (k + 1) ((bs s).drop (k + 1))).1, (Dp.pieces (k + 1) ((bs s).drop (k + 1))).2)) := by
          show _ = _
          rw [HX.out, hd, h10, Dp.pieces_fin]; simp
        have hL4 := PcR.lit wr (.fin, k) #[.int .i64 3, .int .u8 0, .int .i64 (k : Int)] rfl
        have hO4 := hO.alloc (.cells #[.int .i64 3, .int .u8 0, .int .i64 (k : Int)] 63)
        have hB4 := hB.alloc hB.size (.cells #[.int .i64 3, .int .u8 0, .int .i64 (k : Int)] 63)
        have HL1 := HLn (.fin, k)
        clear hd HLn hlow f32 f58 f92 g92 h10
        go_wp2_with (at_builtin; go_must (refine PcR.append rfl _ _ rfl w.heap.size (wr.heap.size + 1) _ _ X [(.fin, k)] rfl hO4 rfl hL4 HL1 hB4.size ?_))
        intro v5 w5 hO5 hg5
        have hB5 := hB4.grown hg5 hB4.size fun j e => (hO4.lt j e).1
        clear hL4 hO4 hB4 HL1 hg5 hO
        go_wp2
        exact ⟨⟨k + 1, _, by omega, by go_num, hO5, HX2.out, hB5⟩, by simp [intOf]; omega⟩
      rw [decide_eq_false h10] at f10
      by_cases hl : s[k] < 32
      · have l32 := hlow.2 hl
        have HF : Hid (BB = (X, some k)) := by
          show _ = _
          rw [HX.out, hd, Dp.pieces_low k _ h10 hl, List.append_nil]
        clear hd HLn hlow f32 f58 f92 g92 h10 hl
        go_wp2
        go_ret2
        rw [HF.out]
        exact ⟨_, rfl, hO, hB⟩
      have l32 : ¬ (s[k].toNat : Int) < 32 := fun h => hl (hlow.1 h)
      by_cases h32 : s[k] = 32
      · rw [decide_eq_true h32] at f32
        have HX2 : Hid (BB = ((X ++ [(.blank, k)]) ++ (Dp.pieces (k + 1) ((bs s).drop (k + 1))).1, (Dp.pieces (k + 1) ((bs s).drop (k + 1))).2)) := by
          show _ = _
          rw [HX.out, hd, h32, Dp.pieces_blank]; simp
        have hL4 := PcR.lit wr (.blank, k) #[.int .i64 1, .int .u8 0, .int .i64 (k : Int)] rfl
        have hO4 := hO.alloc (.cells #[.int .i64 1, .int .u8 0, .int .i64 (k : Int)] 63)
        have hB4 := hB.alloc hB.size (.cells #[.int .i64 1, .int .u8 0, .int .i64 (k : Int)] 63)
        have HL1 := HLn (.blank, k)
        clear hd HLn hlow f58 f92 g92 h10 h32 hl
        go_wp2_with (at_builtin; go_must (refine PcR.append rfl _ _ rfl w.heap.size (wr.heap.size + 1) _ _ X [(.blank, k)] rfl hO4 rfl hL4 HL1 hB4.size ?_))
        intro v5 w5 hO5 hg5
        have hB5 := hB4.grown hg5 hB4.size fun j e => (hO4.lt j e).1
        clear hL4 hO4 hB4 HL1 hg5 hO
        go_wp2
        exact ⟨⟨k + 1, _, by omega, by go_num, hO5, HX2.out, hB5⟩, by simp [intOf]; omega⟩
      rw [decide_eq_false h32] at f32
      by_cases h58 : s[k] = 58
      · rw [decide_eq_true h58] at f58
        have HX2 : Hid (BB = ((X ++ [(.mark, k)]) ++ (Dp.pieces (k + 1) ((bs s).drop (k + 1))).1, (Dp.pieces (k + 1) ((bs s).drop (k + 1))).2)) := by
          show _ = _
          rw [HX.out, hd, h58, Dp.pieces_mark]; simp
        have hL4 := PcR.lit wr (.mark, k) #[.int .i64 2, .int .u8 0, .int .i64 (k : Int)] rfl
        have hO4 := hO.alloc (.cells #[.int .i64 2, .int .u8 0, .int .i64 (k : Int)] 63)
        have hB4 := hB.alloc hB.size (.cells #[.int .i64 2, .int .u8 0, .int .i64 (k : Int)] 63)
        have HL1 := HLn (.mark, k)
        clear hd HLn hlow f92 g92 h10 h32 h58 hl
        go_wp2_with (at_builtin; go_must (refine PcR.append rfl _ _ rfl w.heap.size (wr.heap.size + 1) _ _ X [(.mark, k)] rfl hO4 rfl hL4 HL1 hB4.size ?_))
        intro v5 w5 hO5 hg5
        have hB5 := hB4.grown hg5 hB4.size fun j e => (hO4.lt j e).1
        clear hL4 hO4 hB4 HL1 hg5 hO
        go_wp2
        exact ⟨⟨k + 1, _, by omega, by go_num, hO5, HX2.out, hB5⟩, by simp [intOf]; omega⟩
      rw [decide_eq_false h58] at f58
      by_cases h92 : s[k] = 92
      · rw [decide_eq_true h92] at f92 g92
        simp only [Bool.not_true] at g92
        by_cases hk1 : k + 1 < s.size
        · have i2 : (k : Int) + 1 < (s.size : Int) := by omega
          have hd1 := drop_byte s (k + 1) hk1
          have p10 := beq_lit s[k + 1] 10
          rw [show ((10 : UInt8).toNat : Int) = 10 from rfl] at p10
          have p32 := beq_lit s[k + 1] 32
          rw [show ((32 : UInt8).toNat : Int) = 32 from rfl] at p32
          have p58 := beq_lit s[k + 1] 58
          rw [show ((58 : UInt8).toNat : Int) = 58 from rfl] at p58
          have p92 := beq_lit s[k + 1] 92
          rw [show ((92 : UInt8).toNat : Int) = 92 from rfl] at p92
          by_cases q10 : s[k + 1] = 10
          · rw [decide_eq_true q10] at p10
            have HX2 : Hid (BB = ((X ++ [(.blank, k)]) ++ (Dp.pieces (k + 2) ((bs s).drop (k + 2))).1, (Dp.pieces (k + 2) ((bs s).drop (k + 2))).2)) := by
              show _ = _
              rw [HX.out, hd, hd1, h92, q10, Dp.pieces_join]; simp
            have hL4 := PcR.lit wr (.blank, k) #[.int .i64 1, .int .u8 0, .int .i64 (k : Int)] rfl
            have hO4 := hO.alloc (.cells #[.int .i64 1, .int .u8 0, .int .i64 (k : Int)] 63)
            have hB4 := hB.alloc hB.size (.cells #[.int .i64 1, .int .u8 0, .int .i64 (k : Int)] 63)
            have HL1 := HLn (.blank, k)
            clear hd HLn hlow hd1 p32 p58 p92 q10 h10 h32 h58 h92 hl
            go_wp2_with (at_builtin; go_must (refine PcR.append rfl _ _ rfl w.heap.size (wr.heap.size + 1) _ _ X [(.blank, k)] rfl hO4 rfl hL4 HL1 hB4.size ?_))
            intro v5 w5 hO5 hg5
            have hB5 := hB4.grown hg5 hB4.size fun j e => (hO4.lt j e).1
            clear hL4 hO4 hB4 HL1 hg5 hO
            go_wp2
            exact ⟨⟨k + 2, _, by omega, by go_num, hO5, HX2.out, hB5⟩, by simp [intOf]; omega⟩
          rw [decide_eq_false q10] at p10
          by_cases q32 : s[k + 1] = 32
          · rw [decide_eq_true q32] at p32
            have HX2 : Hid (BB = ((X ++ [(.byte s[k + 1], k)]) ++ (Dp.pieces (k + 2) ((bs s).drop (k + 2))).1, (Dp.pieces (k + 2) ((bs s).drop (k + 2))).2)) := by
              show _ = _
              rw [HX.out, hd, hd1, h92, Dp.pieces_esc k _ (by rw [q32]; rfl)]; simp
            have hL4 := PcR.lit wr (.byte s[k + 1], k) #[.int .i64 4, .int .u8 (s[k + 1].toNat : Int), .int .i64 (k : Int)] rfl
            have hO4 := hO.alloc (.cells #[.int .i64 4, .int .u8 (s[k + 1].toNat : Int), .int .i64 (k : Int)] 63)
            have hB4 := hB.alloc hB.size (.cells #[.int .i64 4, .int .u8 (s[k + 1].toNat : Int), .int .i64 (k : Int)] 63)
            have HL1 := HLn (.byte s[k + 1], k)
            clear hd HLn hlow hd1 p58 p92 q10 q32 h10 h32 h58 h92 hl
            go_wp2_with (at_builtin; go_must (refine PcR.append rfl _ _ rfl w.heap.size (wr.heap.size + 1) _ _ X [(.byte s[k + 1], k)] rfl hO4 rfl hL4 HL1 hB4.size ?_))
            intro v5 w5 hO5 hg5
            have hB5 := hB4.grown hg5 hB4.size fun j e => (hO4.lt j e).1
            clear hL4 hO4 hB4 HL1 hg5 hO
            go_wp2
            exact ⟨⟨k + 2, _, by omega, by go_num, hO5, HX2.out, hB5⟩, by simp [intOf]; omega⟩
          rw [decide_eq_false q32] at p32
          by_cases q58 : s[k + 1] = 58
          · rw [decide_eq_true q58] at p58
            have HX2 : Hid (BB = ((X ++ [(.byte s[k + 1], k)]) ++ (Dp.pieces (k + 2) ((bs s).drop (k + 2))).1, (Dp.pieces (k + 2) ((bs s).drop (k + 2))).2)) := by
              show _ = _
              rw [HX.out, hd, hd1, h92, Dp.pieces_esc k _ (by rw [q58]; rfl)]; simp
            have hL4 := PcR.lit wr (.byte s[k + 1], k) #[.int .i64 4, .int .u8 (s[k + 1].toNat : Int), .int .i64 (k : Int)] rfl
            have hO4 := hO.alloc (.cells #[.int .i64 4, .int .u8 (s[k + 1].toNat : Int), .int .i64 (k : Int)] 63)
            have hB4 := hB.alloc hB.size (.cells #[.int .i64 4, .int .u8 (s[k + 1].toNat : Int), .int .i64 (k : Int)] 63)
            have HL1 := HLn (.byte s[k + 1], k)
            clear hd HLn hlow hd1 p92 q10 q32 q58 h10 h32 h58 h92 hl
            go_wp2_with (at_builtin; go_must (refine PcR.append rfl _ _ rfl w.heap.size (wr.heap.size + 1) _ _ X [(.byte s[k + 1], k)] rfl hO4 rfl hL4 HL1 hB4.size ?_))
            intro v5 w5 hO5 hg5
            have hB5 := hB4.grown hg5 hB4.size fun j e => (hO4.lt j e).1
            clear hL4 hO4 hB4 HL1 hg5 hO
            go_wp2
            exact ⟨⟨k + 2, _, by omega, by go_num, hO5, HX2.out, hB5⟩, by simp [intOf]; omega⟩
          rw [decide_eq_false q58] at p58
          by_cases q92 : s[k + 1] = 92
          · rw [decide_eq_true q92] at p92
            have HX2 : Hid (BB = ((X ++ [(.byte s[k + 1], k)]) ++ (Dp.pieces (k + 2) ((bs s).drop (k + 2))).1, (Dp.pieces (k + 2) ((bs s).drop (k + 2))).2)) := by
              show _ = _
              rw [HX.out, hd, hd1, h92, Dp.pieces_esc k _ (by rw [q92]; rfl)]; simp
            have hL4 := PcR.lit wr (.byte s[k + 1], k) #[.int .i64 4, .int .u8 (s[k + 1].toNat : Int), .int .i64 (k : Int)] rfl
            have hO4 := hO.alloc (.cells #[.int .i64 4, .int .u8 (s[k + 1].toNat : Int), .int .i64 (k : Int)] 63)
            have hB4 := hB.alloc hB.size (.cells #[.int .i64 4, .int .u8 (s[k + 1].toNat : Int), .int .i64 (k : Int)] 63)
            have HL1 := HLn (.byte s[k + 1], k)
            clear hd HLn hlow hd1  q10 q32 q58 q92 h10 h32 h58 h92 hl
            go_wp2_with (at_builtin; go_must (refine PcR.append rfl _ _ rfl w.heap.size (wr.heap.size + 1) _ _ X [(.byte s[k + 1], k)] rfl hO4 rfl hL4 HL1 hB4.size ?_))
            intro v5 w5 hO5 hg5
            have hB5 := hB4.grown hg5 hB4.size fun j e => (hO4.lt j e).1
            clear hL4 hO4 hB4 HL1 hg5 hO
            go_wp2
            exact ⟨⟨k + 2, _, by omega, by go_num, hO5, HX2.out, hB5⟩, by simp [intOf]; omega⟩
          rw [decide_eq_false q92] at p92
          have HF : Hid (BB = (X, some k)) := by
            show _ = _
            rw [HX.out, hd, hd1, h92, Dp.pieces_odd k _ q10 (by simp [Dp.esc, q32, q58, q92]), List.append_nil]
          clear hd HLn hlow hd1 q10 q32 q58 q92 h10 h32 h58 h92 hl
          go_wp2
          go_ret2
          rw [HF.out]
          exact ⟨_, rfl, hO, hB⟩
        · have i2 : ¬ (k : Int) + 1 < (s.size : Int) := by omega
          have hdn : (bs s).drop (k + 1) = [] := List.drop_of_length_le (by rw [bs_length]; omega)
          have HF : Hid (BB = (X, some k)) := by
            show _ = _
            rw [HX.out, hd, hdn, h92, Dp.pieces_end, List.append_nil]
          clear hd HLn hlow hdn h10 h32 h58 h92 hl
          go_wp2
          go_ret2
          rw [HF.out]
          exact ⟨_, rfl, hO, hB⟩
      · rw [decide_eq_false h92] at f92 g92
        simp only [Bool.not_false] at g92
        have HX2 : Hid (BB = ((X ++ [(.byte s[k], k)]) ++ (Dp.pieces (k + 1) ((bs s).drop (k + 1))).1, (Dp.pieces (k + 1) ((bs s).drop (k + 1))).2)) := by
          show _ = _
          rw [HX.out, hd, Dp.pieces_byte k _ (by simp [Dp.esc, h32, h58, h92]) (UInt8.not_lt.1 hl)]; simp
        have hL4 := PcR.lit wr (.byte s[k], k) #[.int .i64 4, .int .u8 (s[k].toNat : Int), .int .i64 (k : Int)] rfl
        have hO4 := hO.alloc (.cells #[.int .i64 4, .int .u8 (s[k].toNat : Int), .int .i64 (k : Int)] 63)
        have hB4 := hB.alloc hB.size (.cells #[.int .i64 4, .int .u8 (s[k].toNat : Int), .int .i64 (k : Int)] 63)
        have HL1 := HLn (.byte s[k], k)
        clear hd HLn hlow h10 h32 h58 h92 hl
        go_wp2_with (at_builtin; go_must (refine PcR.append rfl _ _ rfl w.heap.size (wr.heap.size + 1) _ _ X [(.byte s[k], k)] rfl hO4 rfl hL4 HL1 hB4.size ?_))
        intro v5 w5 hO5 hg5
        have hB5 := hB4.grown hg5 hB4.size fun j e => (hO4.lt j e).1
        clear hL4 hO4 hB4 HL1 hg5 hO
        go_wp2
        exact ⟨⟨k + 1, _, by omega, by go_num, hO5, HX2.out, hB5⟩, by simp [intOf]; omega⟩
    · obtain rfl : k = s.size := by omega
      have i1 : ¬ (s.size : Int) < (s.size : Int) := by omega
      have HF : Hid (BB = (X ++ [(.fin, s.size)], none)) := by
        show _ = _
        rw [HX.out, List.drop_of_length_le (by rw [bs_length]; exact Nat.le_refl _)]
        simp [Dp.pieces]
      have hL4 := PcR.lit wr (.fin, s.size) #[.int .i64 3, .int .u8 0, .int .i64 (s.size : Int)] rfl
      have hO4 := hO.alloc (.cells #[.int .i64 3, .int .u8 0, .int .i64 (s.size : Int)] 63)
      have hB4 := hB.alloc hB.size (.cells #[.int .i64 3, .int .u8 0, .int .i64 (s.size : Int)] 63)
      have HL1 := HLn (.fin, s.size)
      clear HLn
      go_wp2_with (at_builtin; go_must (refine PcR.append rfl _ _ rfl w.heap.size (wr.heap.size + 1) _ _ X [(.fin, s.size)] rfl hO4 rfl hL4 HL1 hB4.size ?_))
      intro v5 w5 hO5 hg5
      have hB5 := hB4.grown hg5 hB4.size fun j e => (hO4.lt j e).1
      clear hL4 hO4 hB4 HL1 hg5 hO
      go_wp2
      go_ret2
      rw [HF.out]
      exact ⟨_, rfl, hO5, hB5⟩

end Go.Proofs.Ytppcfidaalejfaa
