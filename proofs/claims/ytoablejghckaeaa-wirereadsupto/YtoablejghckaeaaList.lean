/-
  THE WALKS OF List, New.
-/
import Derived.Test.YtoablejghckaeaaText
namespace Go.Proofs.Ytoablejghckaeaa
open Go.RowKit

/-- texts as cells -/
def sV (l : List ByteArray) : List Value := l.map Value.string
/-- w's row v, among the blocks from base on, holds just the texts l -/
def OwnS (w : World) (base : Nat) (v : Value) (l : List ByteArray) : Prop := w.ownsRow base 9 1 v l.length (sV l)
theorem OwnS.alloc {w : World} {base : Nat} {v : Value} {l : List ByteArray} (h : OwnS w base v l) (o : Obj) : OwnS (w.alloc o) base v l := World.ownsRow.alloc h o
theorem OwnS.nil (w : World) (base : Nat) : OwnS w base (.slice none 0 0) [] := World.ownsRow_nil w base 9 1
theorem OwnS.kept {w w' : World} {base : Nat} {v : Value} {l : List ByteArray} {p : Nat} (h : OwnS w base v l) (hg : w.grownBy w' (some p)) (hp : p < base) : OwnS w' base v l := by
  refine World.ownsRow.kept h hg (.inr fun e => ?_)
  have := (World.ownsRow.lt h p e).1
  omega
theorem OwnS.form {w : World} {base : Nat} {v : Value} {l : List ByteArray} (h : OwnS w base v l) : ∃ ad c, v = .slice ad l.length c := by
  rcases h.2 with ⟨rfl, h0⟩ | ⟨g, cap, cur, rfl, _⟩
  · exact ⟨none, 0, by rw [h0]⟩
  · exact ⟨_, _, rfl⟩
/-- a row of the call's own, read -/
theorem OwnS.strs {w : World} {base : Nat} {v : Value} {l : List ByteArray} (h : OwnS w base v l) : Strs w w.heap.size v l := by
  have hlt := World.ownsRow.lt h
  have hcs := fun g hg => World.ownsRow.cells (g := g) h hg
  rcases h.2 with ⟨rfl, h0⟩ | ⟨g, cap, cur, rfl, _, _, hle, _⟩
  · refine ⟨none, 0, by rw [h0], by omega, fun _ => rfl, fun hne => ?_⟩
    exact absurd (List.eq_nil_of_length_eq_zero h0) hne
  · refine ⟨_, _, rfl, hle, (fun h => by cases h), fun _ => ⟨g, 0, rfl, (hlt g rfl).2, fun j hj => ?_⟩⟩
    have := hcs g rfl j (.string (l.getD j .empty)) (by simp [sV, List.getD, List.getElem?_eq_getElem hj])
    have e : (⟨g, 0, none⟩ : Addr).add j = ⟨g, 0 + j, none⟩ := by unfold Addr.add; split <;> simp_all
    rwa [e] at this

/-- one text more: 'append(l, s)' on a row of the call's own -/
theorem wpList_append_str {ops : Array Oper} {rest : List Oper} {o : Oper} {a : Act} {Q : Exit → Act → World → Prop} (w0 : World) (hgd : o.guard = none) (s x : Operand)
    (ho : o.op = .call { callee := .builtin .append, args := #[s, x], argTypes := #[38, 38] }) (base : Nat) (v : Value) (l : List ByteArray) (t : ByteArray)
    (hs : a.eval s = v) (hown : OwnS w0 base v l) (hz : Nat) (hsz : w0.heap.size = hz) (hx : a.eval x = .slice (some ⟨hz, 0, none⟩) 1 1) (hlen : Hid (l.length ≤ 1099511627800)) (hbase : base ≤ w0.heap.size)
    (h : ∀ v' w', OwnS w' base v' (l ++ [t]) → w0.grownBy w' v.ownBlock → wpList Try.prog ops Q rest (a.put o.dst v') w') :
    wpList Try.prog ops Q (o :: rest) a (w0.alloc (.cells #[.string t] 9)) := by
  obtain ⟨i0, hi, hz0, hz1, hz2⟩ := info_parts info9
  have hl := hlen.out
  subst hsz
  refine wpList_append_own _ hgd s x 38 ho base 9 i0 (.string .empty) 1 16 Try.underlying38 hi hz0 hz1 hz2 rfl (by decide) v l.length (sV l) hs (hown.alloc _) ⟨w0.heap.size, 0, none⟩ 1 1 [.string t] hx rfl
    (cell_one_new _ _ _) ?_ ?_ ?_ ?_ ?_
  · intro u hu; simp at hu; subst hu; rfl
  · unfold maxLen; omega
  · omega
  · simp; omega
  · intro v' w' h1 h2 _
    refine h v' w' ?_ ?_
    · unfold OwnS sV; rw [List.map_append, List.length_append]; exact h1
    · exact grownBy_trans (World.grownBy_alloc w0 _ _) h2

/-- n texts from the place x on: the texts, the error, how many bytes are gone over -/
def getTs (bs : List UInt8) (longest : Int) : Nat → Nat → List (List UInt8) × Nat × Nat
  | 0, _ => ([], 0, 0)
  | n + 1, x =>
    if (askT bs x longest).2.1 = 0 then
      if (getTs bs longest n (x + (askT bs x longest).2.2)).2.1 = 0 then
        ((askT bs x longest).1 :: (getTs bs longest n (x + (askT bs x longest).2.2)).1, 0, (askT bs x longest).2.2 + (getTs bs longest n (x + (askT bs x longest).2.2)).2.2)
      else ([], (getTs bs longest n (x + (askT bs x longest).2.2)).2.1, 0)
    else ([], (askT bs x longest).2.1, 0)

/-- P1.3: the list, the error, how many bytes are gone over -/
def askL (bs : List UInt8) (a : Nat) (most longest : Int) : List (List UInt8) × Nat × Nat :=
  if (askN bs a most).2.1 = 0 then
    if (getTs bs longest (askN bs a most).1 (a + (askN bs a most).2.2)).2.1 = 0 then
      ((getTs bs longest (askN bs a most).1 (a + (askN bs a most).2.2)).1, 0, (askN bs a most).2.2 + (getTs bs longest (askN bs a most).1 (a + (askN bs a most).2.2)).2.2)
    else ([], (getTs bs longest (askN bs a most).1 (a + (askN bs a most).2.2)).2.1, 0)
  else ([], (askN bs a most).2.1, 0)

/-- texts that are read already, ahead of the others -/
def glue (done : List (List UInt8)) (k : Nat) (r : List (List UInt8) × Nat × Nat) : List (List UInt8) × Nat × Nat :=
  if r.2.1 = 0 then (done ++ r.1, 0, k + r.2.2) else ([], r.2.1, 0)

theorem glue_more (bs : List UInt8) (longest : Int) (done : List (List UInt8)) (k m x : Nat) (h : (askT bs x longest).2.1 = 0) :
    glue done k (getTs bs longest (m + 1) x) = glue (done ++ [(askT bs x longest).1]) (k + (askT bs x longest).2.2) (getTs bs longest m (x + (askT bs x longest).2.2)) := by
  simp only [getTs]
  rw [if_pos h]
  by_cases h2 : (getTs bs longest m (x + (askT bs x longest).2.2)).2.1 = 0
  · rw [if_pos h2]
    simp only [glue, h2, if_true, List.append_assoc, List.cons_append, List.nil_append, Nat.add_assoc]
  · rw [if_neg h2]
    simp only [glue, h2, if_false]
theorem glue_bad (bs : List UInt8) (longest : Int) (done : List (List UInt8)) (k m x : Nat) (h : ¬ (askT bs x longest).2.1 = 0) :
    glue done k (getTs bs longest (m + 1) x) = ([], (askT bs x longest).2.1, 0) := by
  simp only [getTs]
  rw [if_neg h]
  simp only [glue, h, if_false]

theorem askT_le (bs : List UInt8) (x : Nat) (longest : Int) (hx : x ≤ bs.length) : x + (askT bs x longest).2.2 ≤ bs.length := by
  unfold askT
  by_cases h : (askN bs x longest).2.1 = 0
  · rw [if_pos h]
    have := (askN_ok h).1
    simp only; omega
  · rw [if_neg h]; simpa using hx

theorem getTs_err (bs : List UInt8) (longest : Int) (n x : Nat) (h : ¬ (getTs bs longest n x).2.1 = 0) : getTs bs longest n x = ([], (getTs bs longest n x).2.1, 0) := by
  cases n with
  | zero => simp [getTs] at h
  | succ n =>
    simp only [getTs] at h ⊢
    by_cases h1 : (askT bs x longest).2.1 = 0
    · rw [if_pos h1] at h ⊢
      by_cases h2 : (getTs bs longest n (x + (askT bs x longest).2.2)).2.1 = 0
      · rw [if_pos h2] at h; simp at h
      · rw [if_neg h2]
    · rw [if_neg h1]
theorem glue_nil (bs : List UInt8) (longest : Int) (n x : Nat) : glue [] 0 (getTs bs longest n x) = getTs bs longest n x := by
  unfold glue
  by_cases h : (getTs bs longest n x).2.1 = 0
  · rw [if_pos h]
    generalize getTs bs longest n x = r at h
    obtain ⟨r1, r2, r3⟩ := r
    simp only at h
    subst h
    simp
  · rw [if_neg h]
    exact (getTs_err bs longest n x h).symm

/-- how many elements a slice has -/
def lenV : Value → Nat
  | .slice _ n _ => n
  | _ => 0

end Go.Proofs.Ytoablejghckaeaa
