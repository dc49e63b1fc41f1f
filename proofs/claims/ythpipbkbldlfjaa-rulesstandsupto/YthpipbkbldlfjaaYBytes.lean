/-
  WHAT THE DOCUMENT's Show, Bytes AND word DO.
-/
import Derived.Test.YthpipbkbldlfjaaYText
import Derived.Test.YthpipbkbldlfjaaKit
namespace Go.Proofs.Ythpipbkbldlfjaa
open Go.RowKit

set_option maxRecDepth 100000 in
theorem ShowT_any (s : ByteArray) (w : World) (hs : s.size ≤ 1099511) : Calls Try.prog 70 #[.string s] w fun e w' => e = .returned (.string (str (Lx.show_ (bs s)))) ∧ Below w.heap.size w w' := by
  have HS : Hid (Lx.show_ (bs s) = if Lx.plain (bs s) = true then bs s else Lx.quote (bs s)) := rfl
  generalize Lx.show_ (bs s) = R at *
  go_enter Try.func70, Try.ntmps70
  go_wp2_with fail
  refine (PlainT_any s _ (by omega)).mono ?_
  rintro e w1 ⟨rfl, rfl⟩
  cases hp : Lx.plain (bs s) with
  | true =>
    rw [hp, if_pos rfl] at HS
    clear hp
    go_wp2
    go_ret
    rw [HS.out, str_of]
    exact ⟨rfl, Below.refl _ _⟩
  | false =>
    rw [hp, if_neg (by simp)] at HS
    clear hp
    go_wp2_with fail
    refine (QuoteT_any s _ hs).mono ?_
    rintro e w2 ⟨rfl, hB⟩
    go_wp2
    go_ret
    rw [HS.out]
    exact ⟨rfl, hB⟩

/-- rows of bytes with their places -/
def ByR : Rc (Lx.B Nat) where
  e := 83
  st := 80
  k := 3
  bytes := 16
  z := .agg #[.int .u8 0, .bool false, .int .i64 0]
  enc b := [.int .u8 (b.c.toNat : Int), .bool b.join, .int .i64 (b.at_ : Int)]
  pos := by decide
  len _ := rfl
  one f u hu := by
    simp only [List.mem_cons, List.not_mem_nil, or_false] at hu
    rcases hu with rfl | rfl | rfl <;> rfl
  info := by kernel_rfl
  under := Try.underlying80
  zk := rfl
  small := by decide
def Lx.noB : Lx.B Nat := ⟨0, false, 0⟩
theorem ByR.at {w : World} {B : Nat} {v : Value} {l : List (Lx.B Nat)} (h : ByR.Sl w B v l) (j : Nat) (hj : j < l.length) :
    ∃ b o c, v = .slice (some ⟨b, o, none⟩) l.length c ∧ b < B ∧ w.cell? ⟨b, o + j * 3, none⟩ = some (.int .u8 ((l.getD j Lx.noB).c.toNat : Int)) ∧ w.cell? ⟨b, o + j * 3 + 1, none⟩ = some (.bool (l.getD j Lx.noB).join) ∧ w.cell? ⟨b, o + j * 3 + 2, none⟩ = some (.int .i64 ((l.getD j Lx.noB).at_ : Int)) := by
  obtain ⟨b, o, c, rfl, hb, hc⟩ := h.cells j hj
  have e : l.getD j Lx.noB = l[j] := by simp [List.getD, List.getElem?_eq_getElem hj]
  rw [e]
  exact ⟨b, o, c, rfl, hb, hc 0 _ (by decide) rfl, hc 1 _ (by decide) rfl, hc 2 _ (by decide) rfl⟩
theorem bytes_len : ∀ (n p : Nat) (s : List UInt8), s.length ≤ n → (Lx.bytes p s).length ≤ s.length := by
  intro n
  induction n with
  | zero =>
    intro p s h
    have : s = [] := List.eq_nil_of_length_eq_zero (by omega)
    subst this
    simp [Lx.bytes]
  | succ n ih =>
    intro p s h
    rcases Lx.bytes_cases s with rfl | ⟨r, rfl⟩ | ⟨c, r, rfl, hc⟩
    · simp [Lx.bytes]
    · simp only [List.length_cons] at h
      rw [Lx.bytes_join]
      have := ih (p + 2) r (by omega)
      simp only [List.length_cons]; omega
    · simp only [List.length_cons] at h
      rw [Lx.bytes_one _ _ _ hc]
      have := ih (p + 1) r (by omega)
      simp only [List.length_cons]; omega
theorem drop_byte (s : ByteArray) (k : Nat) (h : k < s.size) : (bs s).drop k = s[k] :: (bs s).drop (k + 1) := by
  rw [List.drop_eq_getElem_cons (by rw [bs_length]; exact h)]
  rfl
set_option maxRecDepth 100000 in
set_option maxHeartbeats 2000000 in
theorem BytesT_any (s : ByteArray) (w : World) (hs : s.size ≤ 1099511) : Calls Try.prog 58 #[.string s] w fun e w' => ∃ v, e = .returned v ∧ ByR.Own w' w.heap.size v (Lx.bytes 0 (bs s)) ∧ Below w.heap.size w w' := by
  have hbl := bytes_len _ 0 (bs s) (Nat.le_refl _)
  rw [bs_length] at hbl
  generalize hbb : Lx.bytes 0 (bs s) = BB at *
  have HBB : Hid _ := hbb
  clear hbb
  go_enter Try.func58, Try.ntmps58
  go_wp2
  go_loopw [3, 4] (fun v i wr => ∃ (k : Nat) (X : List (Lx.B Nat)), k ≤ s.size ∧ i = .int .i64 (k : Int) ∧ ByR.Own wr w.heap.size v X ∧ BB = X ++ Lx.bytes k ((bs s).drop k) ∧ Below w.heap.size w wr) (fun _ i _ => s.size - (intOf i).toNat)
  case atStart => exact ⟨0, [], Nat.zero_le _, rfl, Rc.Own.nil _ _, HBB.out.symm, Below.refl _ _⟩
  case round =>
    obtain ⟨k, X, hk, rfl, hO, hX, hB⟩ := hrel
    have hxl : X.length ≤ 1099511 := by
      have := congrArg List.length hX
      rw [List.length_append] at this
      omega
    have HX : Hid _ := hX
    clear hX
    by_cases hlt : k < s.size
    · have i1 : (k : Int) < (s.size : Int) := by omega
      have hd := drop_byte s k hlt
      by_cases hj : s[k] = 92 ∧ ∃ h : k + 1 < s.size, s[k + 1] = 10
      · obtain ⟨h92, hk1, h10⟩ := hj
        have hd1 := drop_byte s (k + 1) hk1
        have HX2 : Hid (BB = (X ++ [⟨32, true, k⟩]) ++ Lx.bytes (k + 2) ((bs s).drop (k + 2))) := by
          show _ = _
          rw [HX.out, hd, hd1, h92, h10, Lx.bytes_join]; simp
        have n92 : s[k].toNat = 92 := by rw [h92]; rfl
        have n10 : s[k + 1].toNat = 10 := by rw [h10]; rfl
        have i2 : (k : Int) + 1 < (s.size : Int) := by omega
        clear h92 h10 hd hd1
        have hL4 := ByR.lit wr ⟨32, true, k⟩ #[.int .u8 32, .bool true, .int .i64 (k : Int)] rfl
        have hO4 := hO.alloc (.cells #[.int .u8 32, .bool true, .int .i64 (k : Int)] 83)
        have hB4 := hB.alloc hB.size (.cells #[.int .u8 32, .bool true, .int .i64 (k : Int)] 83)
        have HLn : Hid (X.length + [(⟨32, true, k⟩ : Lx.B Nat)].length ≤ 1099511627) := by show _ ≤ _; simp only [List.length_cons, List.length_nil]; omega
        obtain ⟨a5, n5, c5, rfl⟩ := hO.isSl
        go_wp2_with (at_builtin; go_must (refine ByR.append rfl _ _ rfl w.heap.size (wr.heap.size + 1) _ _ X [⟨32, true, k⟩] rfl hO4 rfl hL4 HLn hB4.size ?_))
        intro v5 w5 hO5 hg5
        have hB5 := hB4.grown hg5 hB4.size fun j e => (hO4.lt j e).1
        clear hL4 hO4 hB4 HLn hg5 hO
        go_wp2
        exact ⟨⟨k + 2, _, by omega, by go_num, hO5, HX2.out, hB5⟩, by simp [intOf]; omega⟩
      · have HX2 : Hid (BB = (X ++ [⟨s[k], false, k⟩]) ++ Lx.bytes (k + 1) ((bs s).drop (k + 1))) := by
          show _ = _
          rw [HX.out, hd, Lx.bytes_one]
          · simp
          · by_cases h92 : s[k] = 92
            · right
              intro e
              by_cases hk1 : k + 1 < s.size
              · rw [drop_byte s (k + 1) hk1] at e
                exact hj ⟨h92, hk1, by simpa using e⟩
              · rw [List.drop_of_length_le (by rw [bs_length]; omega)] at e
                simp at e
            · exact .inl h92
        have hL4 := ByR.lit wr ⟨s[k], false, k⟩ #[.int .u8 (s[k].toNat : Int), .bool false, .int .i64 (k : Int)] rfl
        have hO4 := hO.alloc (.cells #[.int .u8 (s[k].toNat : Int), .bool false, .int .i64 (k : Int)] 83)
        have hB4 := hB.alloc hB.size (.cells #[.int .u8 (s[k].toNat : Int), .bool false, .int .i64 (k : Int)] 83)
        have HLn : Hid (X.length + [(⟨s[k], false, k⟩ : Lx.B Nat)].length ≤ 1099511627) := by show _ ≤ _; simp only [List.length_cons, List.length_nil]; omega
        have hj' : s[k] = 92 → ∀ h : k + 1 < s.size, s[k + 1] ≠ 10 := fun h h' e => hj ⟨h, h', e⟩
        clear hj hd
        have e92 := beq_lit s[k] 92
        rw [show ((92 : UInt8).toNat : Int) = 92 from rfl] at e92
        by_cases h92 : s[k] = 92
        · rw [decide_eq_true h92] at e92
          by_cases hk1 : k + 1 < s.size
          · have e10 := beq_lit s[k + 1] 10
            rw [show ((10 : UInt8).toNat : Int) = 10 from rfl, decide_eq_false (hj' h92 hk1)] at e10
            have i2 : (k : Int) + 1 < (s.size : Int) := by omega
            clear hj' h92
            obtain ⟨a5, n5, c5, rfl⟩ := hO.isSl
            go_wp2_with (at_builtin; go_must (refine ByR.append rfl _ _ rfl w.heap.size (wr.heap.size + 1) _ _ X [⟨s[k], false, k⟩] rfl hO4 rfl hL4 HLn hB4.size ?_))
            intro v5 w5 hO5 hg5
            have hB5 := hB4.grown hg5 hB4.size fun j e => (hO4.lt j e).1
            clear hL4 hO4 hB4 HLn hg5 hO
            go_wp2
            exact ⟨⟨k + 1, _, by omega, by go_num, hO5, HX2.out, hB5⟩, by simp [intOf]; omega⟩
          · have i2 : ¬ (k : Int) + 1 < (s.size : Int) := by omega
            clear hj' h92
            obtain ⟨a5, n5, c5, rfl⟩ := hO.isSl
            go_wp2_with (at_builtin; go_must (refine ByR.append rfl _ _ rfl w.heap.size (wr.heap.size + 1) _ _ X [⟨s[k], false, k⟩] rfl hO4 rfl hL4 HLn hB4.size ?_))
            intro v5 w5 hO5 hg5
            have hB5 := hB4.grown hg5 hB4.size fun j e => (hO4.lt j e).1
            clear hL4 hO4 hB4 HLn hg5 hO
            go_wp2
            exact ⟨⟨k + 1, _, by omega, by go_num, hO5, HX2.out, hB5⟩, by simp [intOf]; omega⟩
        · rw [decide_eq_false h92] at e92
          clear hj' h92
          obtain ⟨a5, n5, c5, rfl⟩ := hO.isSl
          go_wp2_with (at_builtin; go_must (refine ByR.append rfl _ _ rfl w.heap.size (wr.heap.size + 1) _ _ X [⟨s[k], false, k⟩] rfl hO4 rfl hL4 HLn hB4.size ?_))
          intro v5 w5 hO5 hg5
          have hB5 := hB4.grown hg5 hB4.size fun j e => (hO4.lt j e).1
          clear hL4 hO4 hB4 HLn hg5 hO
          go_wp2
          exact ⟨⟨k + 1, _, by omega, by go_num, hO5, HX2.out, hB5⟩, by simp [intOf]; omega⟩
    · obtain rfl : k = s.size := by omega
      have i1 : ¬ (s.size : Int) < (s.size : Int) := by omega
      have HF : Hid (BB = X) := by
        show _ = _
        rw [HX.out, List.drop_of_length_le (by rw [bs_length]; exact Nat.le_refl _)]
        simp [Lx.bytes]
      obtain ⟨a5, n5, c5, rfl⟩ := hO.isSl
      go_wp2
      go_ret
      exact ⟨_, rfl, by rw [HF.out]; exact hO, hB⟩

end Go.Proofs.Ythpipbkbldlfjaa
