/-
  TEXTS AND THEIR BYTES; segments by their bytes; a text behind a row of bytes.
-/
import Derived.Test.YtnobmgkdieaclaaGreatDoorAcMath
import Derived.Test.YtnobmgkdieaclaaGreatDoorPMath
import Derived.Test.YtnobmgkdieaclaaGreatDoorKit
namespace Go.Proofs.YtnobmgkdieaclaaGreatDoor
open Go.RowKit

/-- a text's bytes -/
abbrev bs (s : ByteArray) : List UInt8 := s.data.toList
theorem bs_length (s : ByteArray) : (bs s).length = s.size := by rw [Array.length_toList]; rfl

theorem okB_iff (c : UInt8) : Pm.okB c = decide ((97 ≤ c.toNat ∧ c.toNat ≤ 122) ∨ (48 ≤ c.toNat ∧ c.toNat ≤ 57) ∨ c.toNat = 95 ∨ c.toNat = 46 ∨ c.toNat = 45) := by
  have h : ∀ n : Fin 256, Pm.okB (UInt8.ofNat n.1) = decide ((97 ≤ n.1 ∧ n.1 ≤ 122) ∨ (48 ≤ n.1 ∧ n.1 ≤ 57) ∨ n.1 = 95 ∨ n.1 = 46 ∨ n.1 = 45) := by decide +kernel
  have := h ⟨c.toNat, c.toNat_lt⟩
  simpa using this
theorem seg_no {s : List UInt8} (h : s.length < 1 ∨ 32 < s.length ∨ s = [46] ∨ s = [46, 46]) : Pm.seg s = false := by
  unfold Pm.seg
  rcases h with h | h | rfl | rfl
  · rw [show decide (1 ≤ s.length) = false from decide_eq_false (by omega)]; rfl
  · rw [show decide (s.length ≤ 32) = false from decide_eq_false (by omega)]; simp
  · rfl
  · rfl
theorem seg_all {s : List UInt8} (h1 : ¬ s.length < 1) (h2 : ¬ 32 < s.length) (h3 : s ≠ [46]) (h4 : s ≠ [46, 46]) : Pm.seg s = s.all Pm.okB := by
  unfold Pm.seg
  rw [show decide (1 ≤ s.length) = true from decide_eq_true (by omega), show decide (s.length ≤ 32) = true from decide_eq_true (by omega), show decide (s = [46]) = false from decide_eq_false h3, show decide (s = [46, 46]) = false from decide_eq_false h4]
  rfl
theorem bs_extract (s : ByteArray) (a b : Nat) : bs (s.extract a b) = ((bs s).drop a).take (b - a) := by
  simp [bs, ByteArray.data_extract, Array.toList_extract, List.extract_eq_take_drop]
theorem bs_inj {s t : ByteArray} (h : bs s = bs t) : s = t := ByteArray.ext (Array.toList_inj.1 h)
/-- a text's size -/
def szOf : Value → Nat
  | .string s => s.size
  | _ => 0
theorem bs_bV (s : ByteArray) : Lib.strCells s = bV (bs s) := rfl
/-- 'append(out, x...)' on a row of the call's own, x a text -/
theorem wpList_append_text {ops : Array Oper} {rest : List Oper} {o : Oper} {a : Act} {Q : Exit → Act → World → Prop} {w : World} (hgd : o.guard = none) (s x : Operand)
    (ho : o.op = .call { callee := .builtin .append, args := #[s, x], argTypes := #[78, 9] }) (base : Nat) (v : Value) (l : List UInt8) (t : ByteArray)
    (hs : a.eval s = v) (hown : Own w base v l) (hx : a.eval x = .string t) (hlen : Hid (l.length + t.size ≤ 1099511627800)) (hbase : base ≤ w.heap.size)
    (h : ∀ v' w', Own w' base v' (l ++ bs t) → Below base w w' → wpList Tryz.prog ops Q rest (a.put o.dst v') w') :
    wpList Tryz.prog ops Q (o :: rest) a w := by
  obtain ⟨i0, hi, hz0, hz1, hz2⟩ := info_parts info5
  have hl := hlen.out
  refine Lib.wpList_append_own_string _ hgd s x 78 9 ho base 5 i0 Tryz.underlying78 Tryz.underlying9 hi hz0 hz1 hz2 v _ _ hs hown t hx ?_ ?_ hbase ?_
  · unfold maxLen; omega
  · omega
  · intro v' w' h1 h2 _
    refine h v' w' ?_ ((Below.refl base w).grown h2 hbase fun k hk => (World.ownsRow.lt hown k hk).1)
    unfold Own
    rw [bV_append, List.length_append, bs_length]
    exact h1
theorem beq_lit (x n : UInt8) : ((x.toNat : Int) == (n.toNat : Int)) = decide (x = n) := by
  by_cases h : x = n
  · subst h; simp
  · rw [decide_eq_false h, beq_eq_false_iff_ne]
    intro e
    exact h (UInt8.toNat_inj.1 (by omega))

end Go.Proofs.YtnobmgkdieaclaaGreatDoor

namespace Go.Proofs.YtnobmgkdieaclaaGreatDoor
open Go.RowKit

/-- rows of texts -/
def TxR : Rc (List UInt8) where
  e := 9
  st := 23
  k := 1
  bytes := 16
  z := .string .empty
  enc s := [.string (str s)]
  pos := by decide
  len _ := rfl
  one f u hu := by
    simp only [List.mem_cons, List.not_mem_nil, or_false] at hu
    subst hu; rfl
  info := by kernel_rfl
  under := Tryz.underlying23
  zk := rfl
  small := by decide
/-- a statement as it lies in a row -/
structure RawS where
  op : Int
  aa : Option Addr
  an : Nat
  ac : Nat
  n : Int
  ba : Option Addr
  bn : Nat
  bc : Nat
def RawS.args (r : RawS) : Value := .slice r.aa r.an r.ac
def RawS.body (r : RawS) : Value := .slice r.ba r.bn r.bc
/-- rows of statements as they lie -/
def SmR : Rc RawS where
  e := 75
  st := 22
  k := 4
  bytes := 64
  z := .agg #[.int .i64 0, .slice none 0 0, .int .i64 0, .slice none 0 0]
  enc r := [.int .i64 r.op, .slice r.aa r.an r.ac, .int .i64 r.n, .slice r.ba r.bn r.bc]
  pos := by decide
  len _ := rfl
  one f u hu := by
    simp only [List.mem_cons, List.not_mem_nil, or_false] at hu
    rcases hu with rfl | rfl | rfl | rfl <;> rfl
  info := by kernel_rfl
  under := Tryz.underlying22
  zk := rfl
  small := by decide
namespace Ac
def Fo.drop : Nat → Fo → Fo
  | 0, f => f
  | _ + 1, .nil => .nil
  | k + 1, .cons _ _ _ _ r => r.drop k
theorem Fo.drop_nil : ∀ k : Nat, Fo.drop k .nil = .nil
  | 0 => rfl
  | _ + 1 => rfl
theorem Fo.drop_next : ∀ {f : Fo} {k : Nat} {o : Int} {a : List (List UInt8)} {n : Int} {b r : Fo}, f.drop k = .cons o a n b r → f.drop (k + 1) = r
  | .nil, k, _, _, _, _, _, h => by rw [Fo.drop_nil] at h; cases h
  | .cons _ _ _ _ t, 0, _, _, _, _, _, h => by
    simp only [Fo.drop, Fo.cons.injEq] at h
    exact h.2.2.2.2
  | .cons _ _ _ _ t, k + 1, _, _, _, _, _, h => Fo.drop_next (f := t) (k := k) h
theorem Fo.drop_lt : ∀ {f : Fo} {k : Nat}, k < f.len → ∃ o a n b r, f.drop k = .cons o a n b r
  | .nil, _, h => by simp [Fo.len] at h
  | .cons o a n b t, 0, _ => ⟨o, a, n, b, t, rfl⟩
  | .cons _ _ _ _ t, k + 1, h => Fo.drop_lt (f := t) (k := k) (by simp only [Fo.len] at h; omega)
theorem Fo.drop_len : ∀ (f : Fo), f.drop f.len = .nil
  | .nil => rfl
  | .cons _ _ _ _ t => Fo.drop_len t
/-- a body is smaller than the list in which it stands -/
theorem size_body : ∀ {f : Fo} {k : Nat} {o : Int} {a : List (List UInt8)} {n : Int} {b r : Fo}, f.drop k = .cons o a n b r → size b < size f
  | .nil, k, _, _, _, _, _, h => by rw [Fo.drop_nil] at h; cases h
  | .cons _ _ _ _ t, 0, _, _, _, _, _, h => by
    simp only [Fo.drop, Fo.cons.injEq] at h
    rw [size, h.2.2.2.1]
    omega
  | .cons _ _ _ _ t, k + 1, _, _, _, _, _, h => by
    have := size_body (f := t) (k := k) h
    rw [size]
    omega
/-- what holds of a list where it holds of all its bodies, holds of all lists -/
theorem fo_ind {P : Fo → Prop} (h : ∀ f, (∀ k o a n b r, f.drop k = .cons o a n b r → P b) → P f) : ∀ f, P f := by
  have : ∀ m f, size f < m → P f := by
    intro m
    induction m with
    | zero => intro f hf; omega
    | succ m ih => exact fun f hf => h f fun k o a n b r e => ih b (by have := size_body e; omega)
  exact fun f => this (size f + 1) f (Nat.lt_succ_self _)
end Ac
/-- rows of statements that lie here read as these -/
def FoRow (w : World) (B : Nat) : Ac.Fo → List RawS → Prop
  | .nil, rs => rs = []
  | .cons op a n b t, rs => ∃ r rs', rs = r :: rs' ∧ r.op = op ∧ r.n = n ∧ TxR.Sl w B r.args a ∧ (∃ bs, SmR.Sl w B r.body bs ∧ FoRow w B b bs) ∧ FoRow w B t rs'
/-- v reads as these statements -/
def FoS (w : World) (B : Nat) (v : Value) (f : Ac.Fo) : Prop := ∃ rs, SmR.Sl w B v rs ∧ FoRow w B f rs
theorem FoRow.below {w w' : World} {B B' : Nat} (hb : Below B' w w') (hB : B ≤ B') : ∀ {f : Ac.Fo} {rs : List RawS}, FoRow w B f rs → FoRow w' B f rs
  | .nil, _, h => h
  | .cons _ _ _ _ _, _, ⟨r, rs', h1, h2, h3, h4, ⟨bs, h5, h6⟩, h7⟩ => ⟨r, rs', h1, h2, h3, h4.below hb hB, ⟨bs, h5.below hb hB, FoRow.below hb hB h6⟩, FoRow.below hb hB h7⟩
theorem FoRow.mono {w : World} {B B' : Nat} (hB : B ≤ B') : ∀ {f : Ac.Fo} {rs : List RawS}, FoRow w B f rs → FoRow w B' f rs
  | .nil, _, h => h
  | .cons _ _ _ _ _, _, ⟨r, rs', h1, h2, h3, h4, ⟨bs, h5, h6⟩, h7⟩ => ⟨r, rs', h1, h2, h3, h4.mono hB, ⟨bs, h5.mono hB, FoRow.mono hB h6⟩, FoRow.mono hB h7⟩
theorem FoRow.len {w : World} {B : Nat} : ∀ {f : Ac.Fo} {rs : List RawS}, FoRow w B f rs → rs.length = f.len
  | .nil, _, h => by rw [h]; rfl
  | .cons _ _ _ _ t, _, ⟨r, rs', h1, _, _, _, _, h7⟩ => by rw [h1, List.length_cons, FoRow.len h7]; rfl
theorem FoRow.at {w : World} {B : Nat} : ∀ {f : Ac.Fo} {rs : List RawS} (_ : FoRow w B f rs) {k : Nat} {o : Int} {a : List (List UInt8)} {n : Int} {b r : Ac.Fo} (_ : f.drop k = .cons o a n b r) (hk : k < rs.length), rs[k].op = o ∧ rs[k].n = n ∧ TxR.Sl w B rs[k].args a ∧ FoS w B rs[k].body b
  | .nil, _, _, k, _, _, _, _, _, e, _ => by rw [Ac.Fo.drop_nil] at e; cases e
  | .cons _ _ _ _ t, _, ⟨r, rs', h1, h2, h3, h4, h5, h7⟩, 0, _, _, _, _, _, e, hk => by
    simp only [Ac.Fo.drop, Ac.Fo.cons.injEq] at e
    obtain ⟨rfl, rfl, rfl, rfl, rfl⟩ := e
    subst h1
    exact ⟨h2, h3, h4, h5⟩
  | .cons _ _ _ _ t, _, ⟨r, rs', h1, h2, h3, h4, h5, h7⟩, k + 1, _, _, _, _, _, e, hk => by
    subst h1
    exact FoRow.at h7 (k := k) e (by simpa using hk)
theorem FoS.below {w w' : World} {B B' : Nat} {v : Value} {f : Ac.Fo} (h : FoS w B v f) (hb : Below B' w w') (hB : B ≤ B') : FoS w' B v f := by
  obtain ⟨rs, h1, h2⟩ := h
  exact ⟨rs, h1.below hb hB, h2.below hb hB⟩
theorem FoS.mono {w : World} {B B' : Nat} {v : Value} {f : Ac.Fo} (h : FoS w B v f) (hB : B ≤ B') : FoS w B' v f := by
  obtain ⟨rs, h1, h2⟩ := h
  exact ⟨rs, h1.mono hB, h2.mono hB⟩
theorem FoS.shape {w : World} {B : Nat} {v : Value} {f : Ac.Fo} (h : FoS w B v f) : ∃ ad c, v = .slice ad f.len c ∧ f.len ≤ c := by
  obtain ⟨rs, h1, h2⟩ := h
  obtain ⟨ad, c, e, hc⟩ := h1.shape
  rw [h2.len] at e hc
  exact ⟨ad, c, e, hc⟩
/-- the cells of a statement, its words and its body -/
theorem FoS.at {w : World} {B : Nat} {v : Value} {f : Ac.Fo} (h : FoS w B v f) {k : Nat} {op : Int} {a : List (List UInt8)} {n : Int} {b r : Ac.Fo} (e : f.drop k = .cons op a n b r) (hk : k < f.len) :
    ∃ g o c aa ac ba bc, v = .slice (some ⟨g, o, none⟩) f.len c ∧ g < B ∧ w.cell? ⟨g, o + k * 4, none⟩ = some (.int .i64 op) ∧ w.cell? ⟨g, o + k * 4 + 1, none⟩ = some (.slice aa a.length ac) ∧ w.cell? ⟨g, o + k * 4 + 2, none⟩ = some (.int .i64 n) ∧ w.cell? ⟨g, o + k * 4 + 3, none⟩ = some (.slice ba b.len bc) ∧
      TxR.Sl w B (.slice aa a.length ac) a ∧ FoS w B (.slice ba b.len bc) b := by
  obtain ⟨rs, h1, h2⟩ := h
  have hl := h2.len
  have hk' : k < rs.length := by omega
  obtain ⟨g, o, c, e1, hg, hc⟩ := h1.cells k hk'
  obtain ⟨q1, q2, q3, q4⟩ := h2.at e hk'
  obtain ⟨aa, ac, ea, -⟩ := q3.shape
  obtain ⟨ba, bc, eb, -⟩ := q4.shape
  have c0 := hc 0 _ (by decide) rfl
  have c1 := hc 1 _ (by decide) rfl
  have c2 := hc 2 _ (by decide) rfl
  have c3 := hc 3 _ (by decide) rfl
  rw [show o + (k * SmR.k + 0) = o + k * 4 by show o + (k * 4 + 0) = _; omega] at c0
  rw [show o + (k * SmR.k + 1) = o + k * 4 + 1 by show o + (k * 4 + 1) = _; omega] at c1
  rw [show o + (k * SmR.k + 2) = o + k * 4 + 2 by show o + (k * 4 + 2) = _; omega] at c2
  rw [show o + (k * SmR.k + 3) = o + k * 4 + 3 by show o + (k * 4 + 3) = _; omega] at c3
  rw [ea] at q3
  rw [eb] at q4
  unfold RawS.args at ea
  unfold RawS.body at eb
  rw [ea] at c1
  rw [eb] at c3
  rw [q1] at c0
  rw [q2] at c2
  exact ⟨g, o, c, aa, ac, ba, bc, by rw [e1, hl], hg, c0, c1, c2, c3, q3, q4⟩

end Go.Proofs.YtnobmgkdieaclaaGreatDoor

namespace Go.Proofs.YtnobmgkdieaclaaGreatDoor
open Go.RowKit

set_option maxRecDepth 100000 in
theorem OpensT_any (op : Int) (w : World) : Calls Tryz.prog 91 #[.int .i64 op] w fun e w' => e = .returned (.bool (Ac.opens op)) ∧ w' = w := by
  by_cases h1 : op = 10
  · subst h1
    go_enter Tryz.func91, Tryz.ntmps91
    go_wp2
    go_ret
    exact ⟨rfl, rfl⟩
  · have e1 : (op == 10) = false := by rw [beq_eq_false_iff_ne]; exact h1
    by_cases h2 : op = 11
    · subst h2
      go_enter Tryz.func91, Tryz.ntmps91
      go_wp2
      go_ret
      exact ⟨rfl, rfl⟩
    · have e2 : (op == 11) = false := by rw [beq_eq_false_iff_ne]; exact h2
      have HO : Hid (Ac.opens op = (op == 12)) := by
        show _ = _
        unfold Ac.opens
        rw [Bool.eq_iff_iff, decide_eq_true_eq, beq_iff_eq]
        omega
      generalize Ac.opens op = R at *
      clear h1 h2
      go_enter Tryz.func91, Tryz.ntmps91
      go_wp2
      all_goals (go_ret; rw [HO.out]; first | exact ⟨rfl, rfl⟩ | simp_all)

end Go.Proofs.YtnobmgkdieaclaaGreatDoor

namespace Go.Proofs.YtnobmgkdieaclaaGreatDoor
open Go.RowKit

/-- how many words a kind has; -1: any number -/
def Ac.argsN (op : Int) : Int := if op = 1 ∨ op = 2 ∨ op = 8 ∨ op = 11 then 1 else if op = 3 ∨ op = 9 then -1 else if op = 12 then 2 else 0
theorem Ac.argsOk_N (op : Int) (k : Nat) : Ac.argsOk op k = (decide (Ac.argsN op < 0) || decide (Ac.argsN op = (k : Int))) := by
  unfold Ac.argsOk Ac.argsN
  split
  · rw [Bool.eq_iff_iff]; simp; omega
  · split
    · simp
    · split
      · rw [Bool.eq_iff_iff]; simp; omega
      · rw [Bool.eq_iff_iff]; simp; omega
set_option maxRecDepth 100000 in
theorem WordT_any (op : Int) (w : World) : Calls Tryz.prog 89 #[.int .i64 op] w fun e w' => e = .returned (.string (str (Ac.word op))) ∧ w' = w := by
  by_cases h : Ac.word op = []
  · have hn : op ≠ 1 ∧ op ≠ 2 ∧ op ≠ 3 ∧ op ≠ 4 ∧ op ≠ 5 ∧ op ≠ 6 ∧ op ≠ 7 ∧ op ≠ 8 ∧ op ≠ 9 ∧ op ≠ 10 ∧ op ≠ 11 ∧ op ≠ 12 := by
      refine ⟨?_, ?_, ?_, ?_, ?_, ?_, ?_, ?_, ?_, ?_, ?_, ?_⟩ <;> (intro e; subst e; revert h; decide)
    rw [h]
    obtain ⟨h1, h2, h3, h4, h5, h6, h7, h8, h9, h10, h11, h12⟩ := hn
    have e1 : (op == 1) = false := by rw [beq_eq_false_iff_ne]; exact h1
    have e2 : (op == 2) = false := by rw [beq_eq_false_iff_ne]; exact h2
    have e3 : (op == 3) = false := by rw [beq_eq_false_iff_ne]; exact h3
    have e4 : (op == 4) = false := by rw [beq_eq_false_iff_ne]; exact h4
    have e5 : (op == 5) = false := by rw [beq_eq_false_iff_ne]; exact h5
    have e6 : (op == 6) = false := by rw [beq_eq_false_iff_ne]; exact h6
    have e7 : (op == 7) = false := by rw [beq_eq_false_iff_ne]; exact h7
    have e8 : (op == 8) = false := by rw [beq_eq_false_iff_ne]; exact h8
    have e9 : (op == 9) = false := by rw [beq_eq_false_iff_ne]; exact h9
    have e10 : (op == 10) = false := by rw [beq_eq_false_iff_ne]; exact h10
    have e11 : (op == 11) = false := by rw [beq_eq_false_iff_ne]; exact h11
    have e12 : (op == 12) = false := by rw [beq_eq_false_iff_ne]; exact h12
    clear h h1 h2 h3 h4 h5 h6 h7 h8 h9 h10 h11 h12
    go_enter Tryz.func89, Tryz.ntmps89
    go_wp2
    go_ret
    exact ⟨rfl, rfl⟩
  · rcases Ac.word_of h with rfl | rfl | rfl | rfl | rfl | rfl | rfl | rfl | rfl | rfl | rfl | rfl <;>
      (clear h; go_enter Tryz.func89, Tryz.ntmps89; go_wp2; go_ret; exact ⟨rfl, rfl⟩)
set_option maxRecDepth 100000 in
theorem ArgsT_any (op : Int) (w : World) : Calls Tryz.prog 90 #[.int .i64 op] w fun e w' => e = .returned (.int .i64 (Ac.argsN op)) ∧ w' = w := by
  by_cases h : op = 1 ∨ op = 2 ∨ op = 8 ∨ op = 11 ∨ op = 3 ∨ op = 9 ∨ op = 12
  · rcases h with rfl | rfl | rfl | rfl | rfl | rfl | rfl <;>
      (go_enter Tryz.func90, Tryz.ntmps90; go_wp2; go_ret; exact ⟨rfl, rfl⟩)
  · simp only [not_or] at h
    obtain ⟨h1, h2, h8, h11, h3, h9, h12⟩ := h
    have HA : Hid (Ac.argsN op = 0) := by
      show _ = _
      unfold Ac.argsN
      rw [if_neg (by omega), if_neg (by omega), if_neg h12]
    have e1 : (op == 1) = false := by rw [beq_eq_false_iff_ne]; exact h1
    have e2 : (op == 2) = false := by rw [beq_eq_false_iff_ne]; exact h2
    have e8 : (op == 8) = false := by rw [beq_eq_false_iff_ne]; exact h8
    have e11 : (op == 11) = false := by rw [beq_eq_false_iff_ne]; exact h11
    have e3 : (op == 3) = false := by rw [beq_eq_false_iff_ne]; exact h3
    have e9 : (op == 9) = false := by rw [beq_eq_false_iff_ne]; exact h9
    have e12 : (op == 12) = false := by rw [beq_eq_false_iff_ne]; exact h12
    generalize Ac.argsN op = R at *
    clear h1 h2 h8 h11 h3 h9 h12
    go_enter Tryz.func90, Tryz.ntmps90
    go_wp2
    go_ret
    rw [HA.out]
    exact ⟨rfl, rfl⟩
theorem Ac.deep_size : ∀ f : Ac.Fo, Ac.deep f ≤ Ac.size f
  | .nil => Nat.le_refl _
  | .cons op _ _ b t => by
    have h1 := Ac.deep_size b
    have h2 := Ac.deep_size t
    rw [Ac.deep, Ac.size]
    split <;> omega
end Go.Proofs.YtnobmgkdieaclaaGreatDoor

namespace Go.Proofs.YtnobmgkdieaclaaGreatDoor
open Go.RowKit

theorem Ac.digits_one {n : Nat} (h : n < 10) : Ac.digits n = [Ac.digit (n % 10)] := by
  rw [Ac.digits, if_pos h, Nat.mod_eq_of_lt h]
theorem Ac.digits_more {n : Nat} (h : 10 ≤ n) (h2 : n ≤ 9999) : Ac.digits n = Ac.digits (n / 10) ++ [Ac.digit (n % 10)] := by
  unfold Ac.digits
  rw [if_neg (show ¬ n < 10 by omega)]
  by_cases h3 : n < 100
  · rw [if_pos h3, if_pos (by omega)]; rfl
  · rw [if_neg h3]
    by_cases h4 : n < 1000
    · rw [if_pos h4, if_neg (by omega), if_pos (by omega), Nat.div_div_eq_div_mul]; rfl
    · rw [if_neg h4, if_neg (by omega), if_neg (by omega), if_pos (by omega), Nat.div_div_eq_div_mul, Nat.div_div_eq_div_mul]; rfl
theorem Ac.digits_len (n : Nat) : (Ac.digits n).length ≤ 4 := by
  unfold Ac.digits
  split
  · simp
  · split
    · simp
    · split <;> simp
theorem Ac.digit_nat (n : Nat) : ((Ac.digit (n % 10)).toNat : Int) = 48 + (n : Int) % 10 := by
  have h : (Ac.digit (n % 10)).toNat = 48 + n % 10 := by
    rw [Ac.digit, UInt8.toNat_ofNat']
    omega
  omega
theorem str_app (a b : List UInt8) : str a ++ str b = str (a ++ b) := by
  apply bs_inj
  rw [show bs (str (a ++ b)) = a ++ b from str_toList _]
  simp [bs, str]
set_option maxRecDepth 100000 in
set_option maxHeartbeats 1000000 in
theorem DigitsT_any : ∀ (n : Nat) (w : World), n ≤ 9999 → Calls Tryz.prog 38 #[.int .i64 (n : Int)] w fun e w' => e = .returned (.string (str (Ac.digits n))) ∧ Below w.heap.size w w' := by
  intro n
  induction n using Nat.strongRecOn with
  | ind n ih =>
  intro w hn
  have hcv : (convert 78 9 (.slice (some ⟨w.heap.size, 0, none⟩) 1 1)).run Tryz.prog (w.alloc (.cells #[.int .u8 (48 + (n : Int) % 10)] 5)) = .ok (.string (str [Ac.digit (n % 10)])) (w.alloc (.cells #[.int .u8 (48 + (n : Int) % 10)] 5)) := by
    refine conv_byts (byts_lit w _ [Ac.digit (n % 10)] 1 ?_ rfl)
    simp [bV, Ac.digit_nat]
  have hB := (Below.refl w.heap.size w).alloc (Nat.le_refl _) (.cells #[.int .u8 (48 + (n : Int) % 10)] 5)
  by_cases h : n < 10
  · have i1 : ¬ (10 : Int) ≤ (n : Int) := by omega
    have HD : Hid _ := Ac.digits_one h
    clear ih
    go_enter Tryz.func38, Tryz.ntmps38
    go_wp2
    go_ret
    rw [HD.out]
    exact ⟨rfl, hB⟩
  · have i1 : (10 : Int) ≤ (n : Int) := by omega
    have HD : Hid _ := Ac.digits_more (by omega) hn
    have hc := ih (n / 10) (by omega) (w.alloc (.cells #[.int .u8 (48 + (n : Int) % 10)] 5)) (by omega)
    clear ih
    rw [show ((n / 10 : Nat) : Int) = (n : Int) / 10 by omega] at hc
    go_enter Tryz.func38, Tryz.ntmps38
    go_wp2_with fail
    refine hc.mono ?_
    rintro e w1 ⟨rfl, hB1⟩
    have HA : Hid _ := str_app (Ac.digits (n / 10)) [Ac.digit (n % 10)]
    have i2 : ¬ 9223372036854775807 < (str (Ac.digits (n / 10))).size + (str [Ac.digit (n % 10)]).size := by
      have := Ac.digits_len (n / 10)
      rw [str_size, str_size]
      simp only [List.length_cons, List.length_nil]
      omega
    go_wp2
    go_ret
    rw [HD.out, HA.out]
    exact ⟨rfl, hB.trans (hB1.mono (by simp))⟩

/-- what Number answers -/
def Ac.numI (s : List UInt8) : Int := match Ac.number s with
  | some n => (n : Int)
  | none => -1
theorem Ac.numI_len {s : List UInt8} (h : s.length < 1 ∨ 4 < s.length) : Ac.numI s = -1 := by
  rw [Ac.numI, Ac.number, if_neg (by omega)]
theorem Ac.numI_bad {s : List UInt8} {k : Nat} (hk : k < s.length) (h : s[k].toNat < 48 ∨ 57 < s[k].toNat) : Ac.numI s = -1 := by
  rw [Ac.numI, Ac.number, if_neg]
  rintro ⟨-, -, h3, -⟩
  have := List.all_eq_true.1 h3 s[k] (List.getElem_mem hk)
  rw [decide_eq_true_eq] at this
  omega
theorem Ac.numI_end {s : List UInt8} (h1 : 1 ≤ s.length) (h2 : s.length ≤ 4) (h3 : (s.all fun c => decide (48 ≤ c.toNat ∧ c.toNat ≤ 57)) = true) :
    Ac.numI s = if Ac.value s ≤ 1000 ∧ Ac.digits (Ac.value s) = s then (Ac.value s : Int) else -1 := by
  rw [Ac.numI, Ac.number]
  by_cases h : Ac.value s ≤ 1000 ∧ Ac.digits (Ac.value s) = s
  · rw [if_pos h, if_pos ⟨h1, h2, h3, h.1, h.2⟩]
  · rw [if_neg h, if_neg (fun x => h ⟨x.2.2.2.1, x.2.2.2.2⟩)]
theorem Ac.value_next (s : List UInt8) (c : UInt8) : Ac.value (s ++ [c]) = 10 * Ac.value s + (c.toNat - 48) := by
  rw [Ac.value, List.foldl_append]; rfl
theorem take_byte13 (s : ByteArray) (k : Nat) (h : k < s.size) : (bs s).take (k + 1) = (bs s).take k ++ [s[k]] := by
  rw [List.take_succ_eq_append_getElem (by rw [bs_length]; exact h)]
  congr 2
end Go.Proofs.YtnobmgkdieaclaaGreatDoor

namespace Go.Proofs.YtnobmgkdieaclaaGreatDoor.Lx
variable {α β : Type}

theorem rd_hash {b : B α} {r : List (B α)} (h : b.c = 35) : rd (b :: r) = .ok [] := by rw [rd, if_pos h]
theorem rd_blank {b : B α} {r : List (B α)} (h : b.c = 32) : rd (b :: r) = rd r := by rw [rd, if_neg (by rw [h]; decide), if_pos h]
theorem rd_mark {b : B α} {r : List (B α)} (h : b.c = 58 ∨ b.c = 61) : rd (b :: r) = (rd r).map id (⟨[b.c], b.at_, false, true⟩ :: ·) := by
  rw [rd, if_neg (by rcases h with h | h <;> rw [h] <;> decide), if_neg (by rcases h with h | h <;> rw [h] <;> decide), if_pos h]
/-- a quoted word and what follows, by what its quotes hold -/
def afterQ (a : α) : R α (Option (List UInt8 × List (B α))) → R α (List (W α))
  | .bad x => .bad x
  | .ok none => .bad a
  | .ok (some (s, r')) => (rd r').map id (⟨s, a, true, false⟩ :: ·)
theorem rd_quote {b : B α} {r : List (B α)} (h : b.c = 34) : rd (b :: r) = afterQ b.at_ (quo r []) := by
  rw [rd, if_neg (by rw [h]; decide), if_neg (by rw [h]; decide), if_neg (by rw [h]; decide), if_pos h]
  unfold afterQ
  split <;> simp_all
theorem not_bare {c : UInt8} (h : bare c = true) : c ≠ 35 ∧ c ≠ 32 ∧ ¬ (c = 58 ∨ c = 61) ∧ c ≠ 34 ∧ c ≠ 10 ∧ c ≠ 9 ∧ c ≠ 92 := by
  unfold bare at h
  simp only [decide_eq_true_eq] at h
  obtain ⟨h1, h2, h3, h4, h5, h6, h7⟩ := h
  refine ⟨h4, ?_, fun h => h.elim h5 h6, h3, ?_, ?_, h7⟩ <;> (rintro rfl; revert h1; decide)
theorem rd_bare {b : B α} {r : List (B α)} (h : bare b.c = true) : rd (b :: r) = (rd (r.dropWhile fun x => bare x.c)).map id (⟨b.c :: (r.takeWhile fun x => bare x.c).map B.c, b.at_, false, false⟩ :: ·) := by
  obtain ⟨h1, h2, h3, h4, -⟩ := not_bare h
  rw [rd, if_neg h1, if_neg h2, if_neg h3, if_neg h4, if_pos h]
theorem rd_bad {b : B α} {r : List (B α)} (h1 : b.c ≠ 35) (h2 : b.c ≠ 32) (h3 : ¬ (b.c = 58 ∨ b.c = 61)) (h4 : b.c ≠ 34) (h5 : bare b.c = false) : rd (b :: r) = .bad b.at_ := by
  rw [rd, if_neg h1, if_neg h2, if_neg h3, if_neg h4, if_neg (by rw [h5]; simp)]

theorem map_takeWhile (f : α → β) (p : UInt8 → Bool) (l : List (B α)) : (l.map (B.map f)).takeWhile (fun x => p x.c) = (l.takeWhile fun x => p x.c).map (B.map f) := by
  induction l with
  | nil => rfl
  | cons b r ih =>
    rw [List.map_cons, List.takeWhile_cons, List.takeWhile_cons, ih]
    show (if p b.c = true then _ else _) = _
    split <;> rfl
theorem map_dropWhile (f : α → β) (p : UInt8 → Bool) (l : List (B α)) : (l.map (B.map f)).dropWhile (fun x => p x.c) = (l.dropWhile fun x => p x.c).map (B.map f) := by
  induction l with
  | nil => rfl
  | cons b r ih =>
    rw [List.map_cons, List.dropWhile_cons, List.dropWhile_cons, ih]
    show (if p b.c = true then _ else _) = _
    split <;> rfl
theorem quo_map (f : α → β) : ∀ (n : Nat) (l : List (B α)) (acc : List UInt8), l.length ≤ n → quo (l.map (B.map f)) acc = (quo l acc).map f (Option.map fun p => (p.1, p.2.map (B.map f))) := by
  intro n
  induction n with
  | zero =>
    intro l acc h
    have : l = [] := List.eq_nil_of_length_eq_zero (by omega)
    subst this
    rfl
  | succ n ih =>
    intro l acc h
    cases l with
    | nil => rfl
    | cons b r =>
      simp only [List.length_cons] at h
      rw [List.map_cons, quo, quo]
      by_cases h1 : b.c = 34
      · rw [if_pos (show (B.map f b).c = 34 from h1), if_pos h1]; rfl
      rw [if_neg (show ¬ (B.map f b).c = 34 from h1), if_neg h1]
      by_cases h2 : b.c ≠ 92
      · rw [if_pos (show (B.map f b).c ≠ 92 from h2), if_pos h2]
        exact ih r _ (by omega)
      rw [if_neg (show ¬ (B.map f b).c ≠ 92 from h2), if_neg h2]
      cases r with
      | nil => rfl
      | cons e r' =>
        simp only [List.length_cons] at h
        rw [List.map_cons, quo.qesc, quo.qesc]
        by_cases h3 : e.join = true
        · rw [if_pos (show (B.map f e).join = true from h3), if_pos h3]; rfl
        rw [if_neg (show ¬ (B.map f e).join = true from h3), if_neg h3]
        show (match esc e.c with | some x => _ | none => _) = _
        cases esc e.c with
        | none => rfl
        | some x => exact ih r' _ (by omega)
theorem R.map_map {γ δ ε ζ : Type} (f : α → γ) (g : β → δ) (f' : γ → ε) (g' : δ → ζ) (r : R α β) : (r.map f g).map f' g' = r.map (f' ∘ f) (g' ∘ g) := by cases r <;> rfl
theorem rd_map (f : α → β) : ∀ (n : Nat) (l : List (B α)), l.length ≤ n → rd (l.map (B.map f)) = (rd l).map f (List.map (W.map f)) := by
  intro n
  induction n with
  | zero =>
    intro l h
    have : l = [] := List.eq_nil_of_length_eq_zero (by omega)
    subst this
    simp [rd, R.map]
  | succ n ih =>
    intro l h
    cases l with
    | nil => simp [rd, R.map]
    | cons b r =>
      simp only [List.length_cons] at h
      rw [List.map_cons]
      have hc : (B.map f b).c = b.c := rfl
      have fin : ∀ (r' : List (B α)) (w : W α), r'.length ≤ n → (rd (r'.map (B.map f))).map id (W.map f w :: ·) = ((rd r').map id (w :: ·)).map f (List.map (W.map f)) := fun r' w hr => by
        rw [ih r' hr, R.map_map, R.map_map]; rfl
      by_cases h1 : b.c = 35
      · rw [rd_hash h1, rd_hash (by rw [hc]; exact h1)]; rfl
      by_cases h2 : b.c = 32
      · rw [rd_blank h2, rd_blank (by rw [hc]; exact h2)]; exact ih r (by omega)
      by_cases h3 : b.c = 58 ∨ b.c = 61
      · rw [rd_mark h3, rd_mark (by rw [hc]; exact h3)]; exact fin r ⟨[b.c], b.at_, false, true⟩ (by omega)
      by_cases h4 : b.c = 34
      · rw [rd_quote h4, rd_quote (by rw [hc]; exact h4), quo_map f _ r [] (Nat.le_refl _)]
        have hq := fun s r' => quo_len _ r [] s r' (Nat.le_refl _)
        cases hqr : quo r [] with
        | bad a => rfl
        | ok o =>
          cases o with
          | none => rfl
          | some p =>
            obtain ⟨s, r'⟩ := p
            exact fin r' ⟨s, b.at_, true, false⟩ (by have := hq s r' hqr; omega)
      cases h5 : bare b.c with
      | true =>
        rw [rd_bare h5, rd_bare (by rw [hc]; exact h5), map_dropWhile f bare, map_takeWhile f bare, List.map_map]
        exact fin (r.dropWhile fun x => bare x.c) ⟨b.c :: (r.takeWhile fun x => bare x.c).map B.c, b.at_, false, false⟩ (Nat.le_trans (List.Sublist.length_le (List.dropWhile_sublist _)) (by omega))
      | false => rw [rd_bad h1 h2 h3 h4 h5, rd_bad (by rw [hc]; exact h1) (by rw [hc]; exact h2) (by rw [hc]; exact h3) (by rw [hc]; exact h4) (by rw [hc]; exact h5)]; rfl
theorem line_map (f : α → β) (l : List (B α)) : line (l.map (B.map f)) = (line l).map f (fun p => (p.1, p.2.map (W.map f))) := by
  cases l with
  | nil => rfl
  | cons b r =>
    rw [List.map_cons, line, line]
    by_cases h : b.c = 9
    · rw [if_pos (show (B.map f b).c = 9 from h), if_pos h, rd_map f _ r (Nat.le_refl _), R.map_map, R.map_map]; rfl
    · rw [if_neg (show ¬ (B.map f b).c = 9 from h), if_neg h, ← List.map_cons, rd_map f _ (b :: r) (Nat.le_refl _), R.map_map, R.map_map]; rfl
theorem lns_map (f : α → β) : ∀ (n : Nat) (l : List (B α)), l.length ≤ n → lns (l.map (B.map f)) = (lns l).map f (List.map (Ln.map f)) := by
  intro n
  induction n with
  | zero =>
    intro l h
    have : l = [] := List.eq_nil_of_length_eq_zero (by omega)
    subst this
    simp [lns, R.map]
  | succ n ih =>
    intro l h
    cases l with
    | nil => simp [lns, R.map]
    | cons b r =>
      simp only [List.length_cons] at h
      rw [List.map_cons, lns, lns, ← List.map_cons, map_takeWhile f (fun c => c != 10), map_dropWhile f (fun c => c != 10), line_map, ← List.map_drop]
      cases line ((b :: r).takeWhile fun x => x.c != 10) with
      | bad a => rfl
      | ok p =>
        obtain ⟨i, ws⟩ := p
        have hd := List.Sublist.length_le (List.dropWhile_sublist (fun x : B α => x.c != 10) (l := b :: r))
        simp only [List.length_cons] at hd
        show (lns _).map id _ = _
        rw [ih _ (by rw [List.length_drop]; omega), R.map_map]
        show _ = ((lns _).map id _).map f _
        rw [R.map_map]
        cases lns (((b :: r).dropWhile fun x => x.c != 10).drop 1) with
        | bad a => rfl
        | ok t =>
          show R.ok _ = R.ok _
          congr 1
          cases ws with
          | nil => rfl
          | cons w ws => rfl

end Go.Proofs.YtnobmgkdieaclaaGreatDoor.Lx

namespace Go.Proofs.YtnobmgkdieaclaaGreatDoor.Lx
variable {α β : Type}

theorem bytes_join (p : Nat) (r : List UInt8) : bytes p (92 :: 10 :: r) = ⟨32, true, p⟩ :: bytes (p + 2) r := by rw [bytes]
theorem bytes_one (p : Nat) (c : UInt8) (r : List UInt8) (h : c ≠ 92 ∨ r.head? ≠ some 10) : bytes p (c :: r) = ⟨c, false, p⟩ :: bytes (p + 1) r := by
  rw [bytes.eq_3]
  rintro r' rfl rfl
  rcases h with h | h <;> simp at h
/-- a text's bytes: the first ones -/
theorem bytes_cases (t : List UInt8) : t = [] ∨ (∃ r, t = 92 :: 10 :: r) ∨ ∃ c r, t = c :: r ∧ (c ≠ 92 ∨ r.head? ≠ some 10) := by
  cases t with
  | nil => exact .inl rfl
  | cons c r =>
    by_cases h : c = 92 ∧ r.head? = some 10
    · obtain ⟨rfl, h⟩ := h
      cases r with
      | nil => simp at h
      | cons d r =>
        simp only [List.head?_cons, Option.some.injEq] at h
        subst h
        exact .inr (.inl ⟨r, rfl⟩)
    · refine .inr (.inr ⟨c, r, rfl, ?_⟩)
      by_cases h1 : c = 92
      · exact .inr fun h2 => h ⟨h1, h2⟩
      · exact .inl h1
theorem bytes_shift (k : Nat) : ∀ (n p : Nat) (t : List UInt8), t.length ≤ n → bytes (p + k) t = (bytes p t).map (B.map (· + k)) := by
  intro n
  induction n with
  | zero =>
    intro p t h
    have : t = [] := List.eq_nil_of_length_eq_zero (by omega)
    subst this
    simp [bytes]
  | succ n ih =>
    intro p t h
    rcases bytes_cases t with rfl | ⟨r, rfl⟩ | ⟨c, r, rfl, hc⟩
    · simp [bytes]
    · simp only [List.length_cons] at h
      rw [bytes_join, bytes_join, List.map_cons, ← ih (p + 2) r (by omega), show p + k + 2 = p + 2 + k by omega]; rfl
    · simp only [List.length_cons] at h
      rw [bytes_one _ _ _ hc, bytes_one _ _ _ hc, List.map_cons, ← ih (p + 1) r (by omega), show p + k + 1 = p + 1 + k by omega]; rfl
theorem bytes_nl (b : List UInt8) : ∀ (n p : Nat) (a : List UInt8), a.length ≤ n → a.getLast? ≠ some 92 → bytes p (a ++ 10 :: b) = bytes p a ++ ⟨10, false, p + a.length⟩ :: bytes (p + a.length + 1) b := by
  intro n
  induction n with
  | zero =>
    intro p a h _
    have : a = [] := List.eq_nil_of_length_eq_zero (by omega)
    subst this
    rw [List.nil_append, bytes_one _ _ _ (.inl (by decide))]
    simp [bytes]
  | succ n ih =>
    intro p a h hl
    rcases bytes_cases a with rfl | ⟨r, rfl⟩ | ⟨c, r, rfl, hc⟩
    · rw [List.nil_append, bytes_one _ _ _ (.inl (by decide))]
      simp [bytes]
    · simp only [List.length_cons] at h ⊢
      rw [List.cons_append, List.cons_append, bytes_join, bytes_join, List.cons_append, ih (p + 2) r (by omega) (by
        intro e
        apply hl
        cases r with
        | nil => simp at e
        | cons x r => simpa [List.getLast?_cons_cons] using e)]
      rw [show p + 2 + r.length = p + (r.length + 1 + 1) by omega]
    · simp only [List.length_cons] at h ⊢
      rw [List.cons_append, bytes_one _ _ _ hc, List.cons_append, bytes_one _ _ (r ++ 10 :: b) (by
        cases r with
        | nil =>
          left
          rintro rfl
          simp at hl
        | cons x r => simpa using hc), ih (p + 1) r (by omega) (by
        intro e
        apply hl
        cases r with
        | nil => simp at e
        | cons x r => simpa [List.getLast?_cons_cons] using e)]
      rw [show p + 1 + r.length = p + (r.length + 1) by omega]

theorem tw_append {γ : Type} (p : γ → Bool) (x y : List γ) (n : γ) (hn : p n = false) : (x ++ n :: y).takeWhile p = x.takeWhile p ∧ (x ++ n :: y).dropWhile p = x.dropWhile p ++ n :: y := by
  induction x with
  | nil => simp [hn]
  | cons a x ih =>
    rw [List.cons_append, List.takeWhile_cons, List.dropWhile_cons, List.takeWhile_cons, List.dropWhile_cons]
    cases p a with
    | true => exact ⟨by rw [if_pos rfl, if_pos rfl, ih.1], by rw [if_pos rfl, if_pos rfl, ih.2]⟩
    | false => exact ⟨rfl, rfl⟩
theorem lns_nl {nl : B α} (hn : nl.c = 10) (y : List (B α)) : ∀ (n : Nat) (x : List (B α)), x.length ≤ n → lns (x ++ nl :: y) = (lns x).andThen fun l => (lns y).map id (l ++ ·) := by
  have hp : (fun x : B α => x.c != 10) nl = false := by simp [hn]
  have h0 : lns (nl :: y) = lns y := by
    rw [lns, List.takeWhile_cons, List.dropWhile_cons, if_neg (by simp [hn]), if_neg (by simp [hn])]
    show (lns y).map id _ = _
    cases lns y <;> rfl
  have hid : ∀ r : R α (List (Ln α)), r.map id ([] ++ ·) = r := fun r => by cases r <;> rfl
  intro n
  induction n with
  | zero =>
    intro x h
    have : x = [] := List.eq_nil_of_length_eq_zero (by omega)
    subst this
    rw [List.nil_append, h0, lns]
    exact (hid _).symm
  | succ n ih =>
    intro x h
    cases x with
    | nil =>
      rw [List.nil_append, h0, lns]
      exact (hid _).symm
    | cons b r =>
      simp only [List.length_cons] at h
      obtain ⟨t1, t2⟩ := tw_append (fun x : B α => x.c != 10) (b :: r) y nl hp
      rw [List.cons_append, lns, lns, ← List.cons_append, t1, t2]
      cases line ((b :: r).takeWhile fun x => x.c != 10) with
      | bad a => rfl
      | ok p =>
        obtain ⟨i, ws⟩ := p
        have hd := List.Sublist.length_le (List.dropWhile_sublist (fun x : B α => x.c != 10) (l := b :: r))
        simp only [List.length_cons] at hd
        have key : lns (((b :: r).dropWhile (fun x => x.c != 10) ++ nl :: y).drop 1) = (lns (((b :: r).dropWhile fun x => x.c != 10).drop 1)).andThen fun l => (lns y).map id (l ++ ·) := by
          cases hdw : (b :: r).dropWhile (fun x => x.c != 10) with
          | nil =>
            show lns y = (lns []).andThen _
            rw [lns]
            exact (hid _).symm
          | cons z zs =>
            rw [hdw] at hd
            simp only [List.length_cons] at hd
            exact ih zs (by omega)
        show (lns _).map id _ = R.andThen ((lns _).map id _) _
        rw [key]
        cases lns (((b :: r).dropWhile fun x => x.c != 10).drop 1) with
        | bad a => rfl
        | ok t =>
          show ((lns y).map id (t ++ ·)).map id _ = (lns y).map id _
          rw [R.map_map]
          cases lns y with
          | bad a => rfl
          | ok u =>
            show R.ok _ = R.ok _
            congr 1
            cases ws with
            | nil => rfl
            | cons w ws => rfl
/-- two texts, the first one not ending with a backslash -/
theorem lex_two {a b : List UInt8} (ha : a.getLast? ≠ some 92) : lex (a ++ 10 :: b) = (lex a).andThen fun l => ((lex b).map (· + (a.length + 1)) (List.map (Ln.map (· + (a.length + 1))))).map id (l ++ ·) := by
  unfold lex
  rw [bytes_nl b _ 0 a (Nat.le_refl _) ha, lns_nl rfl _ _ _ (Nat.le_refl _), Nat.zero_add, show a.length + 1 = 0 + (a.length + 1) by omega, bytes_shift (a.length + 1) _ 0 b (Nat.le_refl _), lns_map _ _ _ (Nat.le_refl _)]
  simp only [Nat.zero_add]

theorem place_low {a b : List UInt8} {n : Nat} (h : n ≤ a.length) : place (a ++ b) n = place a n := by
  unfold place
  rw [List.take_append_of_le_length h]
theorem place_high (a b : List UInt8) (n : Nat) : place (a ++ 10 :: b) (n + (a.length + 1)) = ((place b n).1 + (a.count 10 + 1), (place b n).2) := by
  unfold place
  rw [show n + (a.length + 1) = a.length + (n + 1) by omega, List.take_length_add_append, List.take_succ_cons]
  refine Prod.ext ?_ ?_
  · simp only [List.count_append, List.count_cons_self]
    omega
  · show (List.takeWhile _ (a ++ 10 :: b.take n).reverse).length = _
    rw [List.reverse_append, List.reverse_cons, List.append_assoc, List.singleton_append, (tw_append (fun c : UInt8 => c != 10) (b.take n).reverse a.reverse 10 rfl).1]

end Go.Proofs.YtnobmgkdieaclaaGreatDoor.Lx
