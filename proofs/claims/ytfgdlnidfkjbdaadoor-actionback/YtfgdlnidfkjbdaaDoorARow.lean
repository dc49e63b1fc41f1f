/-
  STATEMENTS AS THEY LIE: rows of statements, each with a row of words and a body.
-/
import Derived.Test.YtfgdlnidfkjbdaaDoorAcMath
import Derived.Test.YtfgdlnidfkjbdaaDoorKit
namespace Go.Proofs.YtfgdlnidfkjbdaaDoor
open Go.RowKit

/-- rows of texts -/
def TxR : Rc (List UInt8) where
  e := 9
  st := 32
  k := 1
  bytes := 16
  z := .string .empty
  enc s := [.string (str s)]
  pos := by decide
  len _ := rfl
  one f u hu := by
    simp only [List.mem_cons, List.not_mem_nil, or_false] at hu
    subst hu; rfl
  info := by kernel_rfl
  under := Tryd.underlying32
  zk := rfl
  small := by decide
/-- a statement as it lies in a row -/
structure RawS where
  op : Int
  aa : Option Addr
  an : Nat
  ac : Nat
  n : Int
  ba : Option Addr
  bn : Nat
  bc : Nat
def RawS.args (r : RawS) : Value := .slice r.aa r.an r.ac
def RawS.body (r : RawS) : Value := .slice r.ba r.bn r.bc
/-- rows of statements as they lie -/
def SmR : Rc RawS where
  e := 34
  st := 25
  k := 4
  bytes := 64
  z := .agg #[.int .i64 0, .slice none 0 0, .int .i64 0, .slice none 0 0]
  enc r := [.int .i64 r.op, .slice r.aa r.an r.ac, .int .i64 r.n, .slice r.ba r.bn r.bc]
  pos := by decide
  len _ := rfl
  one f u hu := by
    simp only [List.mem_cons, List.not_mem_nil, or_false] at hu
    rcases hu with rfl | rfl | rfl | rfl <;> rfl
  info := by kernel_rfl
  under := Tryd.underlying25
  zk := rfl
  small := by decide
namespace Ac
def Fo.drop : Nat → Fo → Fo
  | 0, f => f
  | _ + 1, .nil => .nil
  | k + 1, .cons _ _ _ _ r => r.drop k
theorem Fo.drop_nil : ∀ k : Nat, Fo.drop k .nil = .nil
  | 0 => rfl
  | _ + 1 => rfl
theorem Fo.drop_next : ∀ {f : Fo} {k : Nat} {o : Int} {a : List (List UInt8)} {n : Int} {b r : Fo}, f.drop k = .cons o a n b r → f.drop (k + 1) = r
  | .nil, k, _, _, _, _, _, h => by rw [Fo.drop_nil] at h; cases h
  | .cons _ _ _ _ t, 0, _, _, _, _, _, h => by
    simp only [Fo.drop, Fo.cons.injEq] at h
    exact h.2.2.2.2
  | .cons _ _ _ _ t, k + 1, _, _, _, _, _, h => Fo.drop_next (f := t) (k := k) h
theorem Fo.drop_lt : ∀ {f : Fo} {k : Nat}, k < f.len → ∃ o a n b r, f.drop k = .cons o a n b r
  | .nil, _, h => by simp [Fo.len] at h
  | .cons o a n b t, 0, _ => ⟨o, a, n, b, t, rfl⟩
  | .cons _ _ _ _ t, k + 1, h => Fo.drop_lt (f := t) (k := k) (by simp only [Fo.len] at h; omega)
theorem Fo.drop_len : ∀ (f : Fo), f.drop f.len = .nil
  | .nil => rfl
  | .cons _ _ _ _ t => Fo.drop_len t
/-- a body is smaller than the list in which it stands -/
theorem size_body : ∀ {f : Fo} {k : Nat} {o : Int} {a : List (List UInt8)} {n : Int} {b r : Fo}, f.drop k = .cons o a n b r → size b < size f
  | .nil, k, _, _, _, _, _, h => by rw [Fo.drop_nil] at h; cases h
  | .cons _ _ _ _ t, 0, _, _, _, _, _, h => by
    simp only [Fo.drop, Fo.cons.injEq] at h
    rw [size, h.2.2.2.1]
    omega
  | .cons _ _ _ _ t, k + 1, _, _, _, _, _, h => by
    have := size_body (f := t) (k := k) h
    rw [size]
    omega
/-- what holds of a list where it holds of all its bodies, holds of all lists -/
theorem fo_ind {P : Fo → Prop} (h : ∀ f, (∀ k o a n b r, f.drop k = .cons o a n b r → P b) → P f) : ∀ f, P f := by
  have : ∀ m f, size f < m → P f := by
    intro m
    induction m with
    | zero => intro f hf; omega
    | succ m ih => exact fun f hf => h f fun k o a n b r e => ih b (by have := size_body e; omega)
  exact fun f => this (size f + 1) f (Nat.lt_succ_self _)
end Ac
/-- rows of statements that lie here read as these -/
def FoRow (w : World) (B : Nat) : Ac.Fo → List RawS → Prop
  | .nil, rs => rs = []
  | .cons op a n b t, rs => ∃ r rs', rs = r :: rs' ∧ r.op = op ∧ r.n = n ∧ TxR.Sl w B r.args a ∧ (∃ bs, SmR.Sl w B r.body bs ∧ FoRow w B b bs) ∧ FoRow w B t rs'
/-- v reads as these statements -/
def FoS (w : World) (B : Nat) (v : Value) (f : Ac.Fo) : Prop := ∃ rs, SmR.Sl w B v rs ∧ FoRow w B f rs
theorem FoRow.below {w w' : World} {B B' : Nat} (hb : Below B' w w') (hB : B ≤ B') : ∀ {f : Ac.Fo} {rs : List RawS}, FoRow w B f rs → FoRow w' B f rs
  | .nil, _, h => h
  | .cons _ _ _ _ _, _, ⟨r, rs', h1, h2, h3, h4, ⟨bs, h5, h6⟩, h7⟩ => ⟨r, rs', h1, h2, h3, h4.below hb hB, ⟨bs, h5.below hb hB, FoRow.below hb hB h6⟩, FoRow.below hb hB h7⟩
theorem FoRow.mono {w : World} {B B' : Nat} (hB : B ≤ B') : ∀ {f : Ac.Fo} {rs : List RawS}, FoRow w B f rs → FoRow w B' f rs
  | .nil, _, h => h
  | .cons _ _ _ _ _, _, ⟨r, rs', h1, h2, h3, h4, ⟨bs, h5, h6⟩, h7⟩ => ⟨r, rs', h1, h2, h3, h4.mono hB, ⟨bs, h5.mono hB, FoRow.mono hB h6⟩, FoRow.mono hB h7⟩
theorem FoRow.len {w : World} {B : Nat} : ∀ {f : Ac.Fo} {rs : List RawS}, FoRow w B f rs → rs.length = f.len
  | .nil, _, h => by rw [h]; rfl
  | .cons _ _ _ _ t, _, ⟨r, rs', h1, _, _, _, _, h7⟩ => by rw [h1, List.length_cons, FoRow.len h7]; rfl
theorem FoRow.at {w : World} {B : Nat} : ∀ {f : Ac.Fo} {rs : List RawS} (_ : FoRow w B f rs) {k : Nat} {o : Int} {a : List (List UInt8)} {n : Int} {b r : Ac.Fo} (_ : f.drop k = .cons o a n b r) (hk : k < rs.length), rs[k].op = o ∧ rs[k].n = n ∧ TxR.Sl w B rs[k].args a ∧ FoS w B rs[k].body b
  | .nil, _, _, k, _, _, _, _, _, e, _ => by rw [Ac.Fo.drop_nil] at e; cases e
  | .cons _ _ _ _ t, _, ⟨r, rs', h1, h2, h3, h4, h5, h7⟩, 0, _, _, _, _, _, e, hk => by
    simp only [Ac.Fo.drop, Ac.Fo.cons.injEq] at e
    obtain ⟨rfl, rfl, rfl, rfl, rfl⟩ := e
    subst h1
    exact ⟨h2, h3, h4, h5⟩
  | .cons _ _ _ _ t, _, ⟨r, rs', h1, h2, h3, h4, h5, h7⟩, k + 1, _, _, _, _, _, e, hk => by
    subst h1
    exact FoRow.at h7 (k := k) e (by simpa using hk)
theorem FoS.below {w w' : World} {B B' : Nat} {v : Value} {f : Ac.Fo} (h : FoS w B v f) (hb : Below B' w w') (hB : B ≤ B') : FoS w' B v f := by
  obtain ⟨rs, h1, h2⟩ := h
  exact ⟨rs, h1.below hb hB, h2.below hb hB⟩
theorem FoS.mono {w : World} {B B' : Nat} {v : Value} {f : Ac.Fo} (h : FoS w B v f) (hB : B ≤ B') : FoS w B' v f := by
  obtain ⟨rs, h1, h2⟩ := h
  exact ⟨rs, h1.mono hB, h2.mono hB⟩
theorem FoS.shape {w : World} {B : Nat} {v : Value} {f : Ac.Fo} (h : FoS w B v f) : ∃ ad c, v = .slice ad f.len c ∧ f.len ≤ c := by
  obtain ⟨rs, h1, h2⟩ := h
  obtain ⟨ad, c, e, hc⟩ := h1.shape
  rw [h2.len] at e hc
  exact ⟨ad, c, e, hc⟩
/-- the cells of a statement, its words and its body -/
theorem FoS.at {w : World} {B : Nat} {v : Value} {f : Ac.Fo} (h : FoS w B v f) {k : Nat} {op : Int} {a : List (List UInt8)} {n : Int} {b r : Ac.Fo} (e : f.drop k = .cons op a n b r) (hk : k < f.len) :
    ∃ g o c aa ac ba bc, v = .slice (some ⟨g, o, none⟩) f.len c ∧ g < B ∧ w.cell? ⟨g, o + k * 4, none⟩ = some (.int .i64 op) ∧ w.cell? ⟨g, o + k * 4 + 1, none⟩ = some (.slice aa a.length ac) ∧ w.cell? ⟨g, o + k * 4 + 2, none⟩ = some (.int .i64 n) ∧ w.cell? ⟨g, o + k * 4 + 3, none⟩ = some (.slice ba b.len bc) ∧
      TxR.Sl w B (.slice aa a.length ac) a ∧ FoS w B (.slice ba b.len bc) b := by
  obtain ⟨rs, h1, h2⟩ := h
  have hl := h2.len
  have hk' : k < rs.length := by omega
  obtain ⟨g, o, c, e1, hg, hc⟩ := h1.cells k hk'
  obtain ⟨q1, q2, q3, q4⟩ := h2.at e hk'
  obtain ⟨aa, ac, ea, -⟩ := q3.shape
  obtain ⟨ba, bc, eb, -⟩ := q4.shape
  have c0 := hc 0 _ (by decide) rfl
  have c1 := hc 1 _ (by decide) rfl
  have c2 := hc 2 _ (by decide) rfl
  have c3 := hc 3 _ (by decide) rfl
  rw [show o + (k * SmR.k + 0) = o + k * 4 by show o + (k * 4 + 0) = _; omega] at c0
  rw [show o + (k * SmR.k + 1) = o + k * 4 + 1 by show o + (k * 4 + 1) = _; omega] at c1
  rw [show o + (k * SmR.k + 2) = o + k * 4 + 2 by show o + (k * 4 + 2) = _; omega] at c2
  rw [show o + (k * SmR.k + 3) = o + k * 4 + 3 by show o + (k * 4 + 3) = _; omega] at c3
  rw [ea] at q3
  rw [eb] at q4
  unfold RawS.args at ea
  unfold RawS.body at eb
  rw [ea] at c1
  rw [eb] at c3
  rw [q1] at c0
  rw [q2] at c2
  exact ⟨g, o, c, aa, ac, ba, bc, by rw [e1, hl], hg, c0, c1, c2, c3, q3, q4⟩

end Go.Proofs.YtfgdlnidfkjbdaaDoor

namespace Go.Proofs.YtfgdlnidfkjbdaaDoor
open Go.RowKit

set_option maxRecDepth 100000 in
theorem OpensT_any (op : Int) (w : World) : Calls Tryd.prog 43 #[.int .i64 op] w fun e w' => e = .returned (.bool (Ac.opens op)) ∧ w' = w := by
  by_cases h1 : op = 10
  · subst h1
    go_enter Tryd.func43, Tryd.ntmps43
    go_wp2
    go_ret
    exact ⟨rfl, rfl⟩
  · have e1 : (op == 10) = false := by rw [beq_eq_false_iff_ne]; exact h1
    by_cases h2 : op = 11
    · subst h2
      go_enter Tryd.func43, Tryd.ntmps43
      go_wp2
      go_ret
      exact ⟨rfl, rfl⟩
    · have e2 : (op == 11) = false := by rw [beq_eq_false_iff_ne]; exact h2
      have HO : Hid (Ac.opens op = (op == 12)) := by
        show _ = _
        unfold Ac.opens
        rw [Bool.eq_iff_iff, decide_eq_true_eq, beq_iff_eq]
        omega
      generalize Ac.opens op = R at *
      clear h1 h2
      go_enter Tryd.func43, Tryd.ntmps43
      go_wp2
      all_goals (go_ret; rw [HO.out]; first | exact ⟨rfl, rfl⟩ | simp_all)

end Go.Proofs.YtfgdlnidfkjbdaaDoor

namespace Go.Proofs.YtfgdlnidfkjbdaaDoor
open Go.RowKit

/-- how many words a kind has; -1: any number -/
def Ac.argsN (op : Int) : Int := if op = 1 ∨ op = 2 ∨ op = 8 ∨ op = 11 then 1 else if op = 3 ∨ op = 9 then -1 else if op = 12 then 2 else 0
theorem Ac.argsOk_N (op : Int) (k : Nat) : Ac.argsOk op k = (decide (Ac.argsN op < 0) || decide (Ac.argsN op = (k : Int))) := by
  unfold Ac.argsOk Ac.argsN
  split
  · rw [Bool.eq_iff_iff]; simp; omega
  · split
    · simp
    · split
      · rw [Bool.eq_iff_iff]; simp; omega
      · rw [Bool.eq_iff_iff]; simp; omega
set_option maxRecDepth 100000 in
theorem WordT_any (op : Int) (w : World) : Calls Tryd.prog 56 #[.int .i64 op] w fun e w' => e = .returned (.string (str (Ac.word op))) ∧ w' = w := by
  by_cases h : Ac.word op = []
  · have hn : op ≠ 1 ∧ op ≠ 2 ∧ op ≠ 3 ∧ op ≠ 4 ∧ op ≠ 5 ∧ op ≠ 6 ∧ op ≠ 7 ∧ op ≠ 8 ∧ op ≠ 9 ∧ op ≠ 10 ∧ op ≠ 11 ∧ op ≠ 12 := by
      refine ⟨?_, ?_, ?_, ?_, ?_, ?_, ?_, ?_, ?_, ?_, ?_, ?_⟩ <;> (intro e; subst e; revert h; decide)
    rw [h]
    obtain ⟨h1, h2, h3, h4, h5, h6, h7, h8, h9, h10, h11, h12⟩ := hn
    have e1 : (op == 1) = false := by rw [beq_eq_false_iff_ne]; exact h1
    have e2 : (op == 2) = false := by rw [beq_eq_false_iff_ne]; exact h2
    have e3 : (op == 3) = false := by rw [beq_eq_false_iff_ne]; exact h3
    have e4 : (op == 4) = false := by rw [beq_eq_false_iff_ne]; exact h4
    have e5 : (op == 5) = false := by rw [beq_eq_false_iff_ne]; exact h5
    have e6 : (op == 6) = false := by rw [beq_eq_false_iff_ne]; exact h6
    have e7 : (op == 7) = false := by rw [beq_eq_false_iff_ne]; exact h7
    have e8 : (op == 8) = false := by rw [beq_eq_false_iff_ne]; exact h8
    have e9 : (op == 9) = false := by rw [beq_eq_false_iff_ne]; exact h9
    have e10 : (op == 10) = false := by rw [beq_eq_false_iff_ne]; exact h10
    have e11 : (op == 11) = false := by rw [beq_eq_false_iff_ne]; exact h11
    have e12 : (op == 12) = false := by rw [beq_eq_false_iff_ne]; exact h12
    clear h h1 h2 h3 h4 h5 h6 h7 h8 h9 h10 h11 h12
    go_enter Tryd.func56, Tryd.ntmps56
    go_wp2
    go_ret
    exact ⟨rfl, rfl⟩
  · rcases Ac.word_of h with rfl | rfl | rfl | rfl | rfl | rfl | rfl | rfl | rfl | rfl | rfl | rfl <;>
      (clear h; go_enter Tryd.func56, Tryd.ntmps56; go_wp2; go_ret; exact ⟨rfl, rfl⟩)
set_option maxRecDepth 100000 in
theorem ArgsT_any (op : Int) (w : World) : Calls Tryd.prog 58 #[.int .i64 op] w fun e w' => e = .returned (.int .i64 (Ac.argsN op)) ∧ w' = w := by
  by_cases h : op = 1 ∨ op = 2 ∨ op = 8 ∨ op = 11 ∨ op = 3 ∨ op = 9 ∨ op = 12
  · rcases h with rfl | rfl | rfl | rfl | rfl | rfl | rfl <;>
      (go_enter Tryd.func58, Tryd.ntmps58; go_wp2; go_ret; exact ⟨rfl, rfl⟩)
  · simp only [not_or] at h
    obtain ⟨h1, h2, h8, h11, h3, h9, h12⟩ := h
    have HA : Hid (Ac.argsN op = 0) := by
      show _ = _
      unfold Ac.argsN
      rw [if_neg (by omega), if_neg (by omega), if_neg h12]
    have e1 : (op == 1) = false := by rw [beq_eq_false_iff_ne]; exact h1
    have e2 : (op == 2) = false := by rw [beq_eq_false_iff_ne]; exact h2
    have e8 : (op == 8) = false := by rw [beq_eq_false_iff_ne]; exact h8
    have e11 : (op == 11) = false := by rw [beq_eq_false_iff_ne]; exact h11
    have e3 : (op == 3) = false := by rw [beq_eq_false_iff_ne]; exact h3
    have e9 : (op == 9) = false := by rw [beq_eq_false_iff_ne]; exact h9
    have e12 : (op == 12) = false := by rw [beq_eq_false_iff_ne]; exact h12
    generalize Ac.argsN op = R at *
    clear h1 h2 h8 h11 h3 h9 h12
    go_enter Tryd.func58, Tryd.ntmps58
    go_wp2
    go_ret
    rw [HA.out]
    exact ⟨rfl, rfl⟩
theorem Ac.deep_size : ∀ f : Ac.Fo, Ac.deep f ≤ Ac.size f
  | .nil => Nat.le_refl _
  | .cons op _ _ b t => by
    have h1 := Ac.deep_size b
    have h2 := Ac.deep_size t
    rw [Ac.deep, Ac.size]
    split <;> omega
end Go.Proofs.YtfgdlnidfkjbdaaDoor

namespace Go.Proofs.YtfgdlnidfkjbdaaDoor
open Go.RowKit

theorem Ac.digits_one {n : Nat} (h : n < 10) : Ac.digits n = [Ac.digit (n % 10)] := by
  rw [Ac.digits, if_pos h, Nat.mod_eq_of_lt h]
theorem Ac.digits_more {n : Nat} (h : 10 ≤ n) (h2 : n ≤ 9999) : Ac.digits n = Ac.digits (n / 10) ++ [Ac.digit (n % 10)] := by
  unfold Ac.digits
  rw [if_neg (show ¬ n < 10 by omega)]
  by_cases h3 : n < 100
  · rw [if_pos h3, if_pos (by omega)]; rfl
  · rw [if_neg h3]
    by_cases h4 : n < 1000
    · rw [if_pos h4, if_neg (by omega), if_pos (by omega), Nat.div_div_eq_div_mul]; rfl
    · rw [if_neg h4, if_neg (by omega), if_neg (by omega), if_pos (by omega), Nat.div_div_eq_div_mul, Nat.div_div_eq_div_mul]; rfl
theorem Ac.digits_len (n : Nat) : (Ac.digits n).length ≤ 4 := by
  unfold Ac.digits
  split
  · simp
  · split
    · simp
    · split <;> simp
theorem Ac.digit_nat (n : Nat) : ((Ac.digit (n % 10)).toNat : Int) = 48 + (n : Int) % 10 := by
  have h : (Ac.digit (n % 10)).toNat = 48 + n % 10 := by
    rw [Ac.digit, UInt8.toNat_ofNat']
    omega
  omega
theorem str_app (a b : List UInt8) : str a ++ str b = str (a ++ b) := by
  apply bs_inj
  rw [show bs (str (a ++ b)) = a ++ b from str_toList _]
  simp [bs, str]
set_option maxRecDepth 100000 in
set_option maxHeartbeats 1000000 in
theorem DigitsT_any : ∀ (n : Nat) (w : World), n ≤ 9999 → Calls Tryd.prog 23 #[.int .i64 (n : Int)] w fun e w' => e = .returned (.string (str (Ac.digits n))) ∧ Below w.heap.size w w' := by
  intro n
  induction n using Nat.strongRecOn with
  | ind n ih =>
  intro w hn
  have hcv : (convert 64 9 (.slice (some ⟨w.heap.size, 0, none⟩) 1 1)).run Tryd.prog (w.alloc (.cells #[.int .u8 (48 + (n : Int) % 10)] 5)) = .ok (.string (str [Ac.digit (n % 10)])) (w.alloc (.cells #[.int .u8 (48 + (n : Int) % 10)] 5)) := by
    refine conv_byts (byts_lit w _ [Ac.digit (n % 10)] 1 ?_ rfl)
    simp [bV, Ac.digit_nat]
  have hB := (Below.refl w.heap.size w).alloc (Nat.le_refl _) (.cells #[.int .u8 (48 + (n : Int) % 10)] 5)
  by_cases h : n < 10
  · have i1 : ¬ (10 : Int) ≤ (n : Int) := by omega
    have HD : Hid _ := Ac.digits_one h
    clear ih
    go_enter Tryd.func23, Tryd.ntmps23
    go_wp2
    go_ret
    rw [HD.out]
    exact ⟨rfl, hB⟩
  · have i1 : (10 : Int) ≤ (n : Int) := by omega
    have HD : Hid _ := Ac.digits_more (by omega) hn
    have hc := ih (n / 10) (by omega) (w.alloc (.cells #[.int .u8 (48 + (n : Int) % 10)] 5)) (by omega)
    clear ih
    rw [show ((n / 10 : Nat) : Int) = (n : Int) / 10 by omega] at hc
    go_enter Tryd.func23, Tryd.ntmps23
    go_wp2_with fail
    refine hc.mono ?_
    rintro e w1 ⟨rfl, hB1⟩
    have HA : Hid _ := str_app (Ac.digits (n / 10)) [Ac.digit (n % 10)]
    have i2 : ¬ 9223372036854775807 < (str (Ac.digits (n / 10))).size + (str [Ac.digit (n % 10)]).size := by
      have := Ac.digits_len (n / 10)
      rw [str_size, str_size]
      simp only [List.length_cons, List.length_nil]
      omega
    go_wp2
    go_ret
    rw [HD.out, HA.out]
    exact ⟨rfl, hB.trans (hB1.mono (by simp))⟩

/-- what Number answers -/
def Ac.numI (s : List UInt8) : Int := match Ac.number s with
  | some n => (n : Int)
  | none => -1
theorem Ac.numI_len {s : List UInt8} (h : s.length < 1 ∨ 4 < s.length) : Ac.numI s = -1 := by
  rw [Ac.numI, Ac.number, if_neg (by omega)]
theorem Ac.numI_bad {s : List UInt8} {k : Nat} (hk : k < s.length) (h : s[k].toNat < 48 ∨ 57 < s[k].toNat) : Ac.numI s = -1 := by
  rw [Ac.numI, Ac.number, if_neg]
  rintro ⟨-, -, h3, -⟩
  have := List.all_eq_true.1 h3 s[k] (List.getElem_mem hk)
  rw [decide_eq_true_eq] at this
  omega
theorem Ac.numI_end {s : List UInt8} (h1 : 1 ≤ s.length) (h2 : s.length ≤ 4) (h3 : (s.all fun c => decide (48 ≤ c.toNat ∧ c.toNat ≤ 57)) = true) :
    Ac.numI s = if Ac.value s ≤ 1000 ∧ Ac.digits (Ac.value s) = s then (Ac.value s : Int) else -1 := by
  rw [Ac.numI, Ac.number]
  by_cases h : Ac.value s ≤ 1000 ∧ Ac.digits (Ac.value s) = s
  · rw [if_pos h, if_pos ⟨h1, h2, h3, h.1, h.2⟩]
  · rw [if_neg h, if_neg (fun x => h ⟨x.2.2.2.1, x.2.2.2.2⟩)]
theorem Ac.value_next (s : List UInt8) (c : UInt8) : Ac.value (s ++ [c]) = 10 * Ac.value s + (c.toNat - 48) := by
  rw [Ac.value, List.foldl_append]; rfl
theorem take_byte13 (s : ByteArray) (k : Nat) (h : k < s.size) : (bs s).take (k + 1) = (bs s).take k ++ [s[k]] := by
  rw [List.take_succ_eq_append_getElem (by rw [bs_length]; exact h)]
  congr 2
set_option maxRecDepth 100000 in
set_option maxHeartbeats 1000000 in
theorem NumberT_any (s : ByteArray) (w : World) (hs : s.size ≤ 1099511627) : Calls Tryd.prog 57 #[.string s] w fun e w' => e = .returned (.int .i64 (Ac.numI (bs s))) ∧ Below w.heap.size w w' := by
  by_cases hl : s.size < 1 ∨ 4 < s.size
  · have HN : Hid (Ac.numI (bs s) = -1) := Ac.numI_len (by rw [bs_length]; exact hl)
    generalize Ac.numI (bs s) = R at *
    go_enter Tryd.func57, Tryd.ntmps57
    go_wp2
    all_goals first | (exfalso; omega) | (go_ret; rw [HN.out]; exact ⟨rfl, Below.refl _ _⟩)
  · have i1 : ¬ (s.size : Int) < 1 := by omega
    have i2 : ¬ (4 : Int) < (s.size : Int) := by omega
    have HB : Hid (∀ k : Nat, ∀ hk : k < s.size, s[k].toNat < 48 ∨ 57 < s[k].toNat → Ac.numI (bs s) = -1) := fun k hk h => Ac.numI_bad (k := k) (by rw [bs_length]; exact hk) h
    have HE : Hid (((bs s).all fun c => decide (48 ≤ c.toNat ∧ c.toNat ≤ 57)) = true → Ac.numI (bs s) = if Ac.value (bs s) ≤ 1000 ∧ Ac.digits (Ac.value (bs s)) = bs s then (Ac.value (bs s) : Int) else -1) := Ac.numI_end (by rw [bs_length]; omega) (by rw [bs_length]; omega)
    generalize Ac.numI (bs s) = R at *
    go_enter Tryd.func57, Tryd.ntmps57
    go_wp2
    go_loop [3, 4] (fun n i => ∃ k : Nat, k ≤ s.size ∧ i = .int .i64 (k : Int) ∧ n = .int .i64 (Ac.value ((bs s).take k) : Int) ∧ Hid (Ac.value ((bs s).take k) < 10 ^ k ∧ (((bs s).take k).all fun c => decide (48 ≤ c.toNat ∧ c.toNat ≤ 57)) = true)) (fun _ i => s.size - (intOf i).toNat)
    case atStart => exact ⟨0, Nat.zero_le _, rfl, rfl, by rw [List.take_zero]; decide, rfl⟩
    case round =>
      obtain ⟨k, hk, rfl, rfl, HM⟩ := hrel
      by_cases hlt : k < s.size
      · have i3 : (k : Int) < (s.size : Int) := by omega
        obtain ⟨h1, h2⟩ := HM.out
        have h3 := Ac.value_next ((bs s).take k) s[k]
        rw [← take_byte13 s k hlt] at h3
        have h4 : 10 ^ k ≤ 1000 := by
          have : k ≤ 3 := by omega
          exact Nat.le_trans (Nat.pow_le_pow_right (by decide) this) (by decide)
        by_cases hc : s[k].toNat < 48 ∨ 57 < s[k].toNat
        · have HR : Hid (R = -1) := HB.out k hlt hc
          clear HM h1 h2 h3 h4 HB HE
          go_wp2
          all_goals first | (exfalso; omega) | (go_ret; rw [HR.out]; exact ⟨rfl, Below.refl _ _⟩)
        · have j1 : ¬ (s[k].toNat : Int) < 48 := by omega
          have j2 : ¬ (57 : Int) < (s[k].toNat : Int) := by omega
          have HN : Hid (Ac.value ((bs s).take (k + 1)) < 10 ^ (k + 1) ∧ (((bs s).take (k + 1)).all fun c => decide (48 ≤ c.toNat ∧ c.toNat ≤ 57)) = true) := by
            refine ⟨?_, ?_⟩
            · rw [h3, Nat.pow_succ]; omega
            · rw [take_byte13 s k hlt, List.all_append, h2]
              simp; omega
          have HX : Hid (10 * (Ac.value ((bs s).take k) : Int) + ((s[k].toNat : Int) - 48) = (Ac.value ((bs s).take (k + 1)) : Int)) := by show _ = _; rw [h3]; omega
          have b1 : (Ac.value ((bs s).take k) : Int) < 1000 := by omega
          clear HM h1 h2 h3 h4 HB HE
          generalize Ac.value ((bs s).take k) = A at *
          go_wp2
          exact ⟨⟨k + 1, by omega, by go_num, by rw [← HX.out], HN.out⟩, by simp [intOf]; omega⟩
      · obtain rfl : k = s.size := by omega
        have i3 : ¬ (s.size : Int) < (s.size : Int) := by omega
        have et : (bs s).take s.size = bs s := by rw [← bs_length, List.take_length]
        obtain ⟨h1, h2⟩ := HM.out
        rw [et] at h1 h2
        have HR : Hid _ := HE.out h2
        rw [et]
        clear HM HE HB h1 h2 et
        obtain ⟨A, hA⟩ : ∃ A, Ac.value (bs s) = A := ⟨_, rfl⟩
        rw [hA] at HR ⊢
        clear hA
        by_cases ha : A ≤ 1000
        · have i4 : ¬ (1000 : Int) < (A : Int) := by omega
          go_wp2_with fail
          refine (DigitsT_any A _ (by omega)).mono ?_
          rintro e w1 ⟨rfl, hB⟩
          by_cases he : Ac.digits A = bs s
          · have e1 : str (Ac.digits A) = s := by rw [he]; exact str_of s
            rw [e1]
            rw [if_pos ⟨ha, he⟩] at HR
            clear he e1
            go_wp2
            go_ret
            rw [HR.out]
            exact ⟨rfl, hB⟩
          · have e1 : ((str (Ac.digits A)).toList == s.toList) = false := by
              rw [beq_eq_false_iff_ne, ByteArray.toList_eq, ByteArray.toList_eq, str_toList]
              exact he
            rw [if_neg (fun x => he x.2)] at HR
            clear he
            go_wp2
            go_ret
            rw [HR.out]
            exact ⟨rfl, hB⟩
        · have i4 : (1000 : Int) < (A : Int) := by omega
          rw [if_neg (fun x => ha x.1)] at HR
          go_wp2
          go_ret
          rw [HR.out]
          exact ⟨rfl, Below.refl _ _⟩

end Go.Proofs.YtfgdlnidfkjbdaaDoor
