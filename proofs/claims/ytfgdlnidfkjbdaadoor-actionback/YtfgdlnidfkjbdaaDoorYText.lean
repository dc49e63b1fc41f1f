/-
  WHAT THE DOCUMENT's Bare, Place, Plain, Quote, Show DO.
-/
import Derived.Test.YtfgdlnidfkjbdaaDoorXMath
import Derived.Test.YtfgdlnidfkjbdaaDoorKit
import Derived.Lib.Bytealg
import Derived.Lib.IndexLaws
namespace Go.Proofs.YtfgdlnidfkjbdaaDoor
open Go.RowKit

theorem bare_iff (c : UInt8) : Lx.bare c = decide (33 ≤ c.toNat ∧ c.toNat ≤ 126 ∧ c.toNat ≠ 34 ∧ c.toNat ≠ 35 ∧ c.toNat ≠ 58 ∧ c.toNat ≠ 61 ∧ c.toNat ≠ 92) := by
  have h : ∀ n : Fin 256, Lx.bare (UInt8.ofNat n.1) = decide (33 ≤ n.1 ∧ n.1 ≤ 126 ∧ n.1 ≠ 34 ∧ n.1 ≠ 35 ∧ n.1 ≠ 58 ∧ n.1 ≠ 61 ∧ n.1 ≠ 92) := by decide +kernel
  have := h ⟨c.toNat, c.toNat_lt⟩
  simpa using this
theorem take_byte (s : ByteArray) (k : Nat) (h : k < s.size) : (bs s).take (k + 1) = (bs s).take k ++ [s[k]] := by
  rw [List.take_succ_eq_append_getElem (by rw [bs_length]; exact h)]
  congr 2
theorem place_step (s : ByteArray) (k : Nat) (h : k < s.size) : Lx.place (bs s) (k + 1) = if s[k] = 10 then ((Lx.place (bs s) k).1 + 1, 0) else ((Lx.place (bs s) k).1, (Lx.place (bs s) k).2 + 1) := by
  unfold Lx.place
  rw [take_byte s k h, List.count_append, List.reverse_append, List.reverse_singleton, List.singleton_append, List.takeWhile_cons]
  by_cases hx : s[k] = 10
  · rw [if_pos hx, hx]
    simp only [bne_self_eq_false, Bool.false_eq_true, if_false, List.count_singleton_self, List.length_nil]
  · rw [if_neg hx, if_pos (by simpa using hx)]
    have : List.count 10 [s[k]] = 0 := List.count_eq_zero.2 (by simpa using fun e => hx e.symm)
    rw [this]
    rfl
/-- Place at any number -/
def placeI (t : List UInt8) (n : Int) : Nat × Nat := Lx.place t n.toNat
theorem place_le (s : ByteArray) (k : Nat) : (Lx.place (bs s) k).1 ≤ k + 1 ∧ (Lx.place (bs s) k).2 ≤ k := by
  unfold Lx.place
  have h1 : ((bs s).take k).length ≤ k := by rw [List.length_take]; omega
  have h2 := List.count_le_length (a := (10 : UInt8)) (l := (bs s).take k)
  have h3 := List.Sublist.length_le (List.takeWhile_sublist (fun c : UInt8 => c != 10) (l := ((bs s).take k).reverse))
  rw [List.length_reverse] at h3
  exact ⟨by show _ + 1 ≤ _; omega, by show _ ≤ _; omega⟩
theorem place_all (t : List UInt8) (n : Nat) (h : t.length ≤ n) : Lx.place t n = Lx.place t t.length := by
  unfold Lx.place
  rw [List.take_of_length_le h, List.take_length]
theorem plain_eq (s : ByteArray) : Lx.plain (bs s) = (decide (0 < s.size) && (bs s).all Lx.bare) := by
  unfold Lx.plain
  congr 1
  cases h : bs s with
  | nil =>
    have := bs_length s
    rw [h] at this
    simp [← this]
  | cons c r =>
    have := bs_length s
    rw [h] at this
    simp [← this]
theorem quote_step (s : ByteArray) (k : Nat) (h : k < s.size) : ((bs s).take (k + 1)).flatMap Lx.qb = ((bs s).take k).flatMap Lx.qb ++ Lx.qb s[k] := by
  rw [take_byte s k h]
  simp
theorem qb_len (l : List UInt8) : (l.flatMap Lx.qb).length ≤ 2 * l.length := by
  induction l with
  | nil => simp
  | cons c r ih =>
    simp only [List.flatMap_cons, List.length_append, List.length_cons]
    have : (Lx.qb c).length ≤ 2 := by unfold Lx.qb; split; · simp
                                      split; · simp
                                      split <;> simp
    omega
theorem own_sl {w : World} {base : Nat} {v : Value} {l : List UInt8} (h : Own w base v l) : ∃ a n c, v = .slice a n c := by
  rcases h.2 with ⟨rfl, -⟩ | ⟨g, cap, cur, rfl, -⟩
  · exact ⟨_, _, _, rfl⟩
  · exact ⟨_, _, _, rfl⟩
end Go.Proofs.YtfgdlnidfkjbdaaDoor

namespace Go.Proofs.YtfgdlnidfkjbdaaDoor
open Go.RowKit

def Lx.noB : Lx.B Nat := ⟨0, false, 0⟩
theorem bytes_len : ∀ (n p : Nat) (s : List UInt8), s.length ≤ n → (Lx.bytes p s).length ≤ s.length := by
  intro n
  induction n with
  | zero =>
    intro p s h
    have : s = [] := List.eq_nil_of_length_eq_zero (by omega)
    subst this
    simp [Lx.bytes]
  | succ n ih =>
    intro p s h
    rcases Lx.bytes_cases s with rfl | ⟨r, rfl⟩ | ⟨c, r, rfl, hc⟩
    · simp [Lx.bytes]
    · simp only [List.length_cons] at h
      rw [Lx.bytes_join]
      have := ih (p + 2) r (by omega)
      simp only [List.length_cons]; omega
    · simp only [List.length_cons] at h
      rw [Lx.bytes_one _ _ _ hc]
      have := ih (p + 1) r (by omega)
      simp only [List.length_cons]; omega
theorem drop_byte (s : ByteArray) (k : Nat) (h : k < s.size) : (bs s).drop k = s[k] :: (bs s).drop (k + 1) := by
  rw [List.drop_eq_getElem_cons (by rw [bs_length]; exact h)]
  rfl
end Go.Proofs.YtfgdlnidfkjbdaaDoor

namespace Go.Proofs.YtfgdlnidfkjbdaaDoor.Lx

/-- the bytes from the k-th on, joins told as blanks -/
def dn (s : ByteArray) (k : Nat) : List (B Nat) := bytes k ((bs s).drop k)
/-- up to the logical line's end -/
def ln (s : ByteArray) (k : Nat) : List (B Nat) := (dn s k).takeWhile fun x => x.c != 10
/-- from the logical line's end on -/
def bh (s : ByteArray) (k : Nat) : List (B Nat) := (dn s k).dropWhile fun x => x.c != 10
/-- a join stands there -/
def Join (s : ByteArray) (k : Nat) : Prop := ∃ h : k + 1 < s.size, s[k] = 92 ∧ s[k + 1] = 10
/-- the logical line is at its end -/
def Ends (s : ByteArray) (k : Nat) : Prop := k = s.size ∨ ∃ h : k < s.size, s[k] = 10

variable {s : ByteArray} {k : Nat}
theorem dn_end (h : s.size ≤ k) : dn s k = [] := by
  unfold dn
  rw [List.drop_of_length_le (by rw [bs_length]; exact h)]
  rfl
theorem dn_join (h : Join s k) : dn s k = ⟨32, true, k⟩ :: dn s (k + 2) := by
  obtain ⟨h1, h2, h3⟩ := h
  unfold dn
  rw [drop_byte s k (by omega), drop_byte s (k + 1) h1, h2, h3, bytes_join]
theorem dn_one (h : k < s.size) (hn : ¬ Join s k) : dn s k = ⟨s[k], false, k⟩ :: dn s (k + 1) := by
  unfold dn
  rw [drop_byte s k h, bytes_one]
  by_cases h92 : s[k] = 92
  · right
    by_cases hk : k + 1 < s.size
    · rw [drop_byte s (k + 1) hk]
      simp only [List.head?_cons, ne_eq, Option.some.injEq]
      exact fun e => hn ⟨hk, h92, e⟩
    · rw [List.drop_of_length_le (by rw [bs_length]; omega)]
      simp
  · exact .inl h92
theorem not_join {h : k < s.size} (hx : s[k] ≠ 92) : ¬ Join s k := fun ⟨_, h2, _⟩ => hx h2
theorem ln_end (h : Ends s k) : ln s k = [] ∧ bh s k = dn s k := by
  unfold ln bh
  rcases h with rfl | ⟨h, hx⟩
  · rw [dn_end (Nat.le_refl _)]
    exact ⟨rfl, rfl⟩
  · rw [dn_one h (not_join (h := h) (by rw [hx]; decide)), List.takeWhile_cons, List.dropWhile_cons, hx]
    exact ⟨rfl, rfl⟩
theorem ln_join (h : Join s k) : ln s k = ⟨32, true, k⟩ :: ln s (k + 2) ∧ bh s k = bh s (k + 2) := by
  unfold ln bh
  rw [dn_join h, List.takeWhile_cons, List.dropWhile_cons]
  exact ⟨rfl, rfl⟩
theorem ln_one (h : k < s.size) (hn : ¬ Join s k) (h10 : s[k] ≠ 10) : ln s k = ⟨s[k], false, k⟩ :: ln s (k + 1) ∧ bh s k = bh s (k + 1) := by
  have e : (s[k] != 10) = true := by simpa using h10
  unfold ln bh
  rw [dn_one h hn, List.takeWhile_cons, List.dropWhile_cons]
  rw [if_pos e, if_pos e]
  exact ⟨rfl, rfl⟩
/-- behind a line's end -/
theorem ends_next (h : Ends s k) (hk : k < s.size) : (dn s k).drop 1 = dn s (k + 1) := by
  rcases h with rfl | ⟨h, hx⟩
  · omega
  · rw [dn_one h (not_join (h := h) (by rw [hx]; decide))]
    rfl
theorem lns_at (h : k < s.size) : lns (dn s k) = (line (ln s k)).andThen fun (i, ws) => (lns ((bh s k).drop 1)).map id fun T => if ws = [] then T else ⟨k, i, ws⟩ :: T := by
  have : ∃ b r, dn s k = b :: r ∧ b.at_ = k := by
    by_cases hj : Join s k
    · exact ⟨_, _, dn_join hj, rfl⟩
    · exact ⟨_, _, dn_one h hj, rfl⟩
  obtain ⟨b, r, e, ha⟩ := this
  unfold ln bh
  rw [e, lns, ha]
theorem line_tab (h : k < s.size) (hx : s[k] = 9) : line (ln s k) = (rd (ln s (k + 1))).map id (true, ·) := by
  rw [(ln_one h (not_join (h := h) (by rw [hx]; decide)) (by rw [hx]; decide)).1, line, if_pos hx]
theorem line_not (h : k < s.size) (hx : s[k] ≠ 9) : line (ln s k) = (rd (ln s k)).map id (false, ·) := by
  by_cases he : Ends s k
  · rw [(ln_end he).1, line, rd]; rfl
  · by_cases hj : Join s k
    · rw [(ln_join hj).1, line, if_neg (by show ¬ (32 : UInt8) = 9; decide)]
    · rw [(ln_one h hj (fun e => he (.inr ⟨h, e⟩))).1, line, if_neg hx]
theorem lex_dn (s : ByteArray) : lex (bs s) = lns (dn s 0) := by
  unfold lex dn
  rw [List.drop_zero]

end Go.Proofs.YtfgdlnidfkjbdaaDoor.Lx

namespace Go.Proofs.YtfgdlnidfkjbdaaDoor
open Go.RowKit

set_option maxRecDepth 100000 in
theorem LiteIndexByte_any (s : ByteArray) (c : Int) (w : World) : Calls Tryd.prog 76 #[.string s, .int .u8 c] w fun e w' => e = .returned (.int .i64 (Lib.indexByte (bs s) c.toNat.toUInt8)) ∧ w' = w := by
  go_enter Tryd.func76, Tryd.ntmps76
  go_wp2
  rw [run_callFunc_extern Tryd.func83 (by kernel_rfl) (by kernel_rfl) (by kernel_rfl) (e := Extern.BytealgIndexByte.indexByte) (by kernel_rfl), Lib.run_indexByteString]
  simp only [Result.andThen]
  rw [Oper.upon_value]
  go_wp2
  go_ret
  exact ⟨rfl, rfl⟩
set_option maxRecDepth 100000 in
theorem IndexByte_any (s : ByteArray) (c : Int) (w : World) : Calls Tryd.prog 72 #[.string s, .int .u8 c] w fun e w' => e = .returned (.int .i64 (Lib.indexByte (bs s) c.toNat.toUInt8)) ∧ w' = w := by
  go_enter Tryd.func72, Tryd.ntmps72
  go_wp2_with fail
  refine (LiteIndexByte_any s c _).mono ?_
  rintro e w1 ⟨rfl, rfl⟩
  go_wp2
  go_ret
  exact ⟨rfl, rfl⟩
theorem indexByte_cases (l : List UInt8) (c : UInt8) : (Lib.indexByte l c = -1 ∧ c ∉ l) ∨ ∃ k : Nat, Lib.indexByte l c = k ∧ k < l.length ∧ l = l.take k ++ c :: l.drop (k + 1) ∧ c ∉ l.take k := by
  by_cases h : Lib.indexByte l c = -1
  · refine .inl ⟨h, fun hm => ?_⟩
    obtain ⟨k, hk, e⟩ := List.getElem_of_mem hm
    exact Lib.indexByte_none h k (by rw [List.getElem?_eq_getElem hk, e])
  · have hg := Lib.indexByte_ge l c
    obtain ⟨k, hk⟩ : ∃ k : Nat, Lib.indexByte l c = k := ⟨(Lib.indexByte l c).toNat, by omega⟩
    obtain ⟨h1, h2⟩ := Lib.indexByte_some hk
    have hlt : k < l.length := (List.getElem?_eq_some_iff.1 h1).1
    refine .inr ⟨k, hk, hlt, ?_, fun hm => ?_⟩
    · have e : l[k] = c := (List.getElem?_eq_some_iff.1 h1).2
      rw [← e, ← List.drop_eq_getElem_cons hlt, List.take_append_drop]
    · obtain ⟨j, hj, e⟩ := List.getElem_of_mem hm
      rw [List.length_take] at hj
      rw [List.getElem_take] at e
      exact h2 j (by omega) (by rw [List.getElem?_eq_getElem (by omega), e])
theorem bare_mem (c : UInt8) : Lx.bare c = decide (32 < c.toNat ∧ c.toNat ≤ 126 ∧ c ∉ ([34, 35, 58, 61, 92] : List UInt8)) := by
  unfold Lx.bare
  rw [decide_eq_decide]
  simp only [List.mem_cons, List.not_mem_nil, or_false, not_or]
  exact Iff.rfl

set_option maxRecDepth 100000 in
theorem bare_any (c : UInt8) (w : World) : Calls Tryd.prog 61 #[.int .u8 (c.toNat : Int)] w fun e w' => e = .returned (.bool (Lx.bare c)) ∧ w' = w := by
  have HB : Hid _ := bare_mem c
  generalize Lx.bare c = b at *
  go_enter Tryd.func61, Tryd.ntmps61
  by_cases h1 : 32 < c.toNat
  · have i1 : (32 : Int) < (c.toNat : Int) := by omega
    by_cases h2 : c.toNat ≤ 126
    · have i2 : (c.toNat : Int) ≤ 126 := by omega
      go_wp2_with fail
      refine (IndexByte_any _ _ _).mono ?_
      rintro e w1 ⟨rfl, rfl⟩
      have e1 : ((c.toNat : Int)).toNat.toUInt8 = c := by simp
      rw [e1]
      rcases indexByte_cases (bs ⟨#[34, 35, 58, 61, 92]⟩) c with ⟨e, hm⟩ | ⟨k, e, -, hm1, -⟩
      · rw [e]
        go_wp2
        go_ret
        refine ⟨?_, rfl⟩
        rw [HB.out, decide_eq_true ⟨h1, h2, hm⟩]
        rfl
      · rw [e]
        have i3 : ¬ (k : Int) < 0 := by omega
        have HM : Hid (c ∈ bs ⟨#[34, 35, 58, 61, 92]⟩) := by
          show c ∈ _
          rw [hm1]; simp
        clear hm1
        go_wp2
        go_ret
        refine ⟨?_, rfl⟩
        rw [HB.out.trans (decide_eq_false (fun h => h.2.2 HM.out))]
        rfl
    · have i2 : ¬ (c.toNat : Int) ≤ 126 := by omega
      go_wp2
      go_ret
      refine ⟨?_, rfl⟩
      rw [HB.out, decide_eq_false (fun h => h2 h.2.1)]
      rfl
  · have i1 : ¬ (32 : Int) < (c.toNat : Int) := by omega
    go_wp2
    go_ret
    refine ⟨?_, rfl⟩
    rw [HB.out, decide_eq_false (fun h => h1 h.1)]
    rfl

end Go.Proofs.YtfgdlnidfkjbdaaDoor
