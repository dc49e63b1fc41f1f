/-
  A strings.Builder OF THE CALL's OWN: what it holds, and what its methods do.
-/
import Derived.Test.YtnobmgkdieaclaaGreatDoorSLib
import Derived.Test.YtnobmgkdieaclaaGreatDoorPBs
import Derived.Test.YtnobmgkdieaclaaGreatDoorAcLaid
import Derived.Shelf.Strings.BuilderK
import Derived.Test.YtnobmgkdieaclaaGreatDoorLaid
import Derived.Test.YtnobmgkdieaclaaGreatDoorIpRow
namespace Go.Proofs.YtnobmgkdieaclaaGreatDoor
open Go.RowKit

/-- block b is a builder that holds the bytes X; all of it lies among the blocks from B on -/
def Bd (w : World) (B b : Nat) (X : List UInt8) : Prop := Lib.IsBuilderF 156 5 B b (Lib.byteCells X) w

theorem Bd.new (w : World) : Bd (w.alloc (.cells #[.pointer none, .slice none 0 0] 156)) w.heap.size w.heap.size [] :=
  .inl (Lib.BuilderAtF.of ⟨Nat.le_refl _, .slice none 0 0, heap_alloc_new w _, World.ownsRow_nil _ _ _ _, by simp [Value.ownBlock]⟩)
theorem ownsRowF_turn {w w' : World} {base : Nat} {e : TypeId} {size : Nat} {v : Value} {n : Nat} {xs : List Value} (h : w.ownsRowF base e size v n xs) (ht : Turn [] w w') : w'.ownsRowF base e size v n xs := by
  refine ⟨h.1, ?_⟩
  rcases h.2 with h | ⟨g, cap, cur, fz, rfl, h2, h3, h4⟩
  · exact .inl h
  · exact .inr ⟨g, cap, cur, fz, rfl, h2, (ht.block g (Array.getElem?_eq_some_iff.1 h3).1 (by simp)).trans h3, h4⟩
theorem Bd.turn {w w' : World} {B b : Nat} {X : List UInt8} (h : Bd w B b X) (ht : Turn [] w w') : Bd w' B b X := by
  have key : ∀ {p : Value}, Lib.BuilderAtF 156 5 B b p (Lib.byteCells X) w → Lib.BuilderAtF 156 5 B b p (Lib.byteCells X) w' := by
    rintro p ⟨h1, v, h2, h3, h4⟩
    exact ⟨h1, v, (ht.block b (Array.getElem?_eq_some_iff.1 h2).1 (by simp)).trans h2, ownsRowF_turn h3 ht, h4⟩
  exact h.elim (fun x => .inl (key x)) (fun x => .inr (key x))
theorem Bd.alloc {w : World} {B b : Nat} {X : List UInt8} (h : Bd w B b X) (o : Obj) : Bd (w.alloc o) B b X := h.turn ((Turn.refl [] w).alloc o)
theorem Bd.below {w w' : World} {B b : Nat} {X : List UInt8} (h : Bd w B b X) (hb : Below w.heap.size w w') : Bd w' B b X := h.turn (Turn.of_below hb)
theorem byteCells_app (X Y : List UInt8) : Lib.byteCells (X ++ Y) = Lib.byteCells X ++ Lib.byteCells Y := by simp [Lib.byteCells]
theorem byteCells_len (X : List UInt8) : (Lib.byteCells X).length = X.length := by simp [Lib.byteCells]

theorem WriteByte_any (w : World) (B b : Nat) (X : List UInt8) (c : UInt8) (h : Bd w B b X) (hl : X.length ≤ 1099511627) (hB : B ≤ w.heap.size) :
    Calls Tryz.prog 134 #[.pointer (some ⟨b, 0, none⟩), .int .u8 (c.toNat : Int)] w fun e w' => e = .returned .nilIface ∧ Bd w' B b (X ++ [c]) ∧ Below B w w' ∧ Lib.OthersKept 5 (some b) w w' := by
  refine (Any.Builder_WriteByte_k Tryz.lays167 Tryz.Builder_Extra_167 B b (Lib.byteCells X) (c.toNat : Int) w h (by rw [byteCells_len]; omega) hB).mono ?_
  rintro e w' ⟨rfl, h1, h2, h3⟩
  refine ⟨rfl, .inr ?_, h2, h3⟩
  rw [byteCells_app]
  exact h1
theorem WriteString_any (w : World) (B b : Nat) (X : List UInt8) (s : ByteArray) (h : Bd w B b X) (hl : X.length ≤ 1099511627) (hs : s.size ≤ 1099511627) (hB : B ≤ w.heap.size) :
    Calls Tryz.prog 132 #[.pointer (some ⟨b, 0, none⟩), .string s] w fun e w' => e = .returned (.tuple #[.int .i64 (s.size : Int), .nilIface]) ∧ Bd w' B b (X ++ bs s) ∧ Below B w w' ∧ Lib.OthersKept 5 (some b) w w' := by
  refine (Any.Builder_WriteString_k Tryz.lays166 Tryz.Builder_Extra_166 B b (Lib.byteCells X) s w h (by rw [byteCells_len]; omega) hB).mono ?_
  rintro e w' ⟨rfl, h1, h2, h3⟩
  refine ⟨rfl, .inr ?_, h2, h3⟩
  rw [byteCells_app]
  exact h1
theorem String_any (w : World) (B b : Nat) (X : List UInt8) (h : Bd w B b X) (hB : B ≤ w.heap.size) :
    Calls Tryz.prog 133 #[.pointer (some ⟨b, 0, none⟩)] w fun e w' => e = .returned (.string (str X)) ∧ Below B w w' := by
  refine (Any.Builder_String_any_k Tryz.lays169 Tryz.Builder_Extra_169 B b X w h hB).mono ?_
  rintro e w' ⟨rfl, -, h2, -⟩
  exact ⟨rfl, h2⟩

end Go.Proofs.YtnobmgkdieaclaaGreatDoor

namespace Go.Proofs.YtnobmgkdieaclaaGreatDoor
open Go.RowKit Go.Shelf

/-- texts of bytes, texts as they are kept: one row -/
theorem st_vals (l : List (List UInt8)) : StR.vals (l.map str) = TxR.vals l := by
  induction l with
  | nil => rfl
  | cons a r ih =>
    show Value.string (str a) :: StR.vals (r.map str) = Value.string (str a) :: TxR.vals r
    rw [ih]
theorem own_st {w : World} {base : Nat} {v : Value} {l : List (List UInt8)} : TxR.Own w base v l ↔ StR.Own w base v (l.map str) := by
  unfold Rc.Own
  rw [st_vals, List.length_map]
  exact Iff.rfl
theorem own_ts {w : World} {base : Nat} {v : Value} {l : List ByteArray} (h : StR.Own w base v l) : TxR.Own w base v (l.map bs) := by
  rw [own_st]
  have e : (l.map bs).map str = l := by
    rw [List.map_map]
    conv => rhs; rw [← List.map_id l]
    apply List.map_congr_left
    intro x _
    exact str_of x
  rw [e]
  exact h
theorem sort_lines (l : List (List UInt8)) : (Ks.sortT (l.map str)).map bs = Ip.sorted l := by
  unfold Ks.sortT Ip.sorted
  rw [List.map_map, List.map_map]
  have e1 : (bs ∘ Ks.ba) = id := by funext x; exact Ks.bs_ba x
  have e2 : l.map (bs ∘ str) = l := by
    conv => rhs; rw [← List.map_id l]
    apply List.map_congr_left
    intro x _
    simp [bs, str]
  rw [e1, e2, List.map_id]
  rfl

set_option maxRecDepth 100000 in
theorem sorted_any (l : List (List UInt8)) (v : Value) (w : World) (base : Nat) (h : TxR.Own w base v l) (hl : l.length ≤ 1000000) :
    Calls Tryz.prog 119 #[v] w fun e w' => ∃ v', e = .returned v' ∧ TxR.Own w' w.heap.size v' (Ip.sorted l) ∧ Below w.heap.size w w' := by
  have hV := Values_any (own_st.1 h) (by rw [List.length_map]; exact hl)
  obtain ⟨ad, n, c, rfl⟩ := h.isSl
  go_enter Tryz.func119, Tryz.ntmps119
  go_wp2_with (first | (go_at_call 136; refine hV.mono ?_; rintro e w1 ⟨gf, lb, D, rfl, h1, h2, h3, h4⟩) | (go_at_call 135; refine (Sorted_any (l.map str) gf lb D w1 (by rw [List.length_map]; exact hl) h1 h2 h3).mono ?_; rintro e w2 ⟨v', rfl, h5, h6⟩) | fail)
  go_ret
  refine ⟨v', rfl, ?_, h4.trans (h6.mono h4.size)⟩
  rw [← sort_lines]
  exact (own_ts h5).low h4.size

namespace Ip
theorem unlike_eq (l : List (List UInt8)) : (Ks.compT (l.map str)).map bs = Lib.compact l := by
  unfold Ks.compT
  rw [List.map_map, List.map_map]
  have e1 : (bs ∘ Ks.ba) = id := by funext x; exact Ks.bs_ba x
  have e2 : l.map (bs ∘ str) = l := by
    conv => rhs; rw [← List.map_id l]
    apply List.map_congr_left
    intro x _
    simp [bs, str]
  rw [e1, e2, List.map_id]
end Ip

set_option maxRecDepth 100000 in
theorem unlike_any (l : List (List UInt8)) (v : Value) (w : World) (base : Nat) (h : TxR.Own w base v l) (hl : l.length ≤ 1000000) :
    Calls Tryz.prog 120 #[v] w fun e w' => ∃ v', e = .returned v' ∧ TxR.Own w' w.heap.size v' (Lib.compact l) ∧ Below w.heap.size w w' := by
  have hC := CloneL_any l v w.heap.size w (sl_ln.2 h.sl) (Nat.le_refl _) (by omega)
  obtain ⟨ad, n, c, rfl⟩ := h.isSl
  go_enter Tryz.func120, Tryz.ntmps120
  go_wp2_with (first | (go_at_call 138; refine hC.mono ?_; rintro e w1 ⟨a1, n1, c1, rfl, h1, h2⟩) | (go_at_call 137; refine (Compact_any (own_st.1 (own_ln.1 h1)) (by rw [List.length_map]; omega)).mono ?_; rintro e w2 ⟨v', rfl, h3, h4, h5⟩) | fail)
  go_ret
  refine ⟨v', rfl, ?_, h2.grown h5 h2.size (fun k hk => (h1.lt k hk).1)⟩
  rw [← Ip.unlike_eq]
  exact own_ts h3

set_option maxRecDepth 100000 in
theorem counted_any (l : List (List UInt8)) (v : Value) (w : World) (base : Nat) (h : TxR.Own w base v l) (hl : l.length ≤ 1000) (hL : Laid w) :
    Calls Tryz.prog 121 #[v] w fun e w' => ∃ v', e = .returned v' ∧ TxR.Own w' w.heap.size v' [Ac.digits l.length] ∧ Below w.heap.size w w' := by
  have hI := Itoa_any l.length w hL hl
  obtain ⟨ad, c, rfl, hle⟩ := h.sl.shape
  generalize hD : Ac.digits l.length = D at *
  have lb : (l.length : Int) ≤ 1000 := by omega
  go_enter Tryz.func121, Tryz.ntmps121
  go_wp2_with (first | (go_at_call 139; refine hI.mono ?_; rintro e w1 ⟨rfl, h1⟩) | fail)
  go_ret
  refine ⟨_, rfl, ?_, h1.alloc h1.size _⟩
  have h0 : TxB (w1.alloc (.cells #[.string (str D)] 9)) w1.heap.size [D] := Rw.new w1 _ 9
  exact h0.own h1.size (by simp)

set_option maxRecDepth 100000 in
theorem joined_any (l : List (List UInt8)) (v : Value) (w : World) (B : Nat) (h : TxR.Sl w B v l) (hB : B ≤ w.heap.size) (hl : (Ip.joined l).length ≤ 1000000) :
    Calls Tryz.prog 118 #[v] w fun e w' => e = .returned (.string (str (Ip.joined l))) ∧ Below w.heap.size w w' := by
  obtain ⟨ad, c, rfl, hle⟩ := h.shape
  have hll : l.length ≤ (Ip.joined l).length := by
    clear hl h hle
    induction l with
    | nil => simp
    | cons a r ih => simp only [Ip.joined, List.flatMap_cons, List.length_append, List.length_cons] at ih ⊢; omega
  have jt : ∀ k, k < l.length → Ip.joined (l.take (k + 1)) = Ip.joined (l.take k) ++ (l.getD k [] ++ [10]) := by
    intro k hk
    rw [List.take_succ_eq_append_getElem hk]
    unfold Ip.joined
    rw [List.flatMap_append, List.flatMap_singleton]
    simp [List.getD, hk]
  have jl : ∀ k, (Ip.joined (l.take k)).length ≤ 1000000 := by
    intro k
    refine Nat.le_trans ?_ hl
    conv => rhs; rw [← List.take_append_drop k l]
    simp only [Ip.joined, List.flatMap_append, List.length_append]
    omega
  have b0 := Bd.new w
  have HL : Hid (l.length ≤ 1000000) := Nat.le_trans hll hl
  have nb : (l.length : Int) ≤ 1000000 := by omega
  have HJ : Hid _ := jt
  have HJL : Hid _ := jl
  clear hll jt jl hl
  go_enter Tryz.func118, Tryz.ntmps118
  go_wp2
  have hB0 : Below w.heap.size w (w.alloc (.cells #[.pointer none, .slice none 0 0] 156)) := (Below.refl _ w).alloc (Nat.le_refl _) _
  generalize w.alloc (.cells #[.pointer none, .slice none 0 0] 156) = W0 at *
  go_loopw [8] (fun i wr => ∃ k : Nat, k ≤ l.length ∧ i = .int .i64 (k : Int) ∧ Hid (Bd wr w.heap.size w.heap.size (Ip.joined (l.take k))) ∧ Hid (Below w.heap.size w wr)) (fun i _ => l.length - (intOf i).toNat)
  case atStart => exact ⟨0, Nat.zero_le _, rfl, b0, hB0⟩
  case round =>
    obtain ⟨k, hk, rfl, HBd, HB⟩ := hrel
    by_cases hlt : k < l.length
    · have i1 : (k : Int) < (l.length : Int) := by omega
      have hwr := h.below HB.out (by omega)
      obtain ⟨g, o, c', e1, hg, p1⟩ := TxR.at hwr hlt
      simp only [Value.slice.injEq] at e1
      obtain ⟨rfl, -, rfl⟩ := e1
      have hjt := HJ.out k hlt
      have hj1 := HJL.out k
      have hj2 := HJL.out (k + 1)
      have hgd : l.getD k [] = l[k] := by simp [List.getD, hlt]
      rw [hgd] at hjt
      obtain ⟨x, hx⟩ : ∃ x, l[k] = x := ⟨_, rfl⟩
      rw [hx] at hjt p1
      have hsl : x.length ≤ 1000000 := by rw [hjt] at hj2; simp at hj2; omega
      have hW1 := WriteString_any wr w.heap.size w.heap.size _ (str x) HBd.out (by omega) (by rw [str_size]; omega) HB.out.size
      rw [show bs (str x) = x by simp [bs, str]] at hW1
      have hW2 := fun W hb hz => WriteByte_any W w.heap.size w.heap.size (Ip.joined (l.take k) ++ x) 10 hb (by rw [List.length_append]; omega) hz
      have HJ2 : Hid (Ip.joined (l.take (k + 1)) = (Ip.joined (l.take k) ++ x) ++ [10]) := by show _ = _; rw [hjt]; simp
      clear hgd hx hjt hj1 hj2 HBd hsl hwr
      generalize str x = S at *
      go_wp2_with (first | (go_at_call 132; refine hW1.mono ?_; rintro e w1 ⟨rfl, hb1, hw1, -⟩) | (go_at_call 134; refine (hW2 w1 hb1 (Nat.le_trans HB.out.size hw1.size)).mono ?_; rintro e w2 ⟨rfl, hb2, hw2, -⟩) | fail)
      rw [← HJ2.out] at hb2
      exact ⟨⟨k + 1, by omega, by go_num, hb2, (HB.out.trans hw1).trans hw2⟩, by simp [intOf]; omega⟩
    · obtain rfl : k = l.length := by omega
      have i1 : ¬ (l.length : Int) < (l.length : Int) := by omega
      have hS := String_any wr w.heap.size w.heap.size _ HBd.out HB.out.size
      rw [List.take_length] at hS
      go_wp2_with (first | (go_at_call 133; refine hS.mono ?_; rintro e w1 ⟨rfl, hw1⟩) | fail)
      go_ret
      exact ⟨rfl, HB.out.trans hw1⟩

end Go.Proofs.YtnobmgkdieaclaaGreatDoor

namespace Go.Proofs.YtnobmgkdieaclaaGreatDoor
open Go.RowKit Go.Shelf

namespace Ip
theorem told_app (line a b : B) : told line (a ++ b) = told line a ++ told line b := by simp [told]
theorem told_nil (line : B) : told line [] = [] := rfl
theorem told_len (line : B) : ∀ w : B, ((told line w).length : Int) = (w.length : Int) + (w.count 64 : Int) * ((line.length : Int) - 1)
  | [] => by simp [told]
  | c :: r => by
    have h := told_len line r
    have e : told line (c :: r) = (if c = 64 then line else [c]) ++ told line r := by simp [told]
    rw [e, List.length_append, List.length_cons]
    by_cases hc : c = 64
    · subst hc
      rw [if_pos rfl, List.count_cons_self]
      push_cast
      rw [h, Int.add_mul]
      omega
    · rw [if_neg hc, List.count_cons_of_ne (fun e => hc e)]
      push_cast
      rw [h]
      simp
      omega
def sumT (line : B) : List B → Nat
  | [] => 0
  | w :: r => (told line w).length + sumT line r
theorem words_one (line w : B) : words line [w] = told line w := rfl
theorem words_nil (line : B) : words line [] = [] := rfl
theorem words_cons (line w v : B) (r : List B) : words line (w :: v :: r) = told line w ++ 32 :: words line (v :: r) := by
  show told line (w ++ 32 :: joinW (v :: r)) = _
  rw [told_app]
  rfl
theorem words_len (line : B) : ∀ ws : List B, (words line ws).length = (ws.length - 1) + sumT line ws
  | [] => rfl
  | [w] => by rw [words_one]; simp [sumT]
  | w :: v :: r => by
    rw [words_cons, List.length_append, List.length_cons, words_len line (v :: r)]
    show _ = _ + ((told line w).length + sumT line (v :: r))
    simp
    omega
theorem joinW_mem : ∀ {ws : List B} {w : B}, w ∈ ws → w.length ≤ (joinW ws).length
  | [], _, h => by cases h
  | [v], w, h => by
    rw [List.mem_singleton] at h
    rw [h]; exact Nat.le_refl _
  | v :: u :: r, w, h => by
    rw [joinW, List.length_append, List.length_cons]
    · rcases List.mem_cons.1 h with rfl | h
      · omega
      · have := joinW_mem h
        omega
    · simp
theorem told_le (line w : B) (hl : line.length ≤ 10000) (hw : w.length ≤ 10000) : (told line w).length ≤ 100010000 := by
  have h := flat_len 64 line w
  rw [← told_flat] at h
  have : w.length * (line.length + 1) ≤ 10000 * 10001 := Nat.mul_le_mul hw (by omega)
  omega
theorem sumT_le (line : B) (hl : line.length ≤ 10000) : ∀ ws : List B, (∀ w ∈ ws, w.length ≤ 10000) → sumT line ws ≤ ws.length * 100010000
  | [], _ => Nat.le_refl _
  | w :: r, h => by
    have h1 := told_le line w hl (h w (by simp))
    have h2 := sumT_le line hl r fun x hx => h x (by simp [hx])
    rw [sumT, List.length_cons, Nat.add_mul]
    omega
theorem sumT_take (line : B) (ws : List B) (k : Nat) (h : k < ws.length) : sumT line (ws.take (k + 1)) = sumT line (ws.take k) + (told line ws[k]).length := by
  have app : ∀ a b : List B, sumT line (a ++ b) = sumT line a + sumT line b := by
    intro a b
    induction a with
    | nil => simp [sumT]
    | cons x r ih => rw [List.cons_append, sumT, sumT, ih]; omega
  rw [List.take_succ_eq_append_getElem h, app]
  simp [sumT]
end Ip

set_option maxRecDepth 100000 in
theorem lenAsTold_any (line : List UInt8) (ws : List (List UInt8)) (v : Value) (w : World) (B : Nat) (h : TxR.Sl w B v ws) (hs : (Ip.joinW ws).length ≤ 10000) (hn : ws.length ≤ 10000) (hl : line.length ≤ 10000) :
    Calls Tryz.prog 100 #[.string (str line), v] w fun e w' => e = .returned (.int .i64 ((Ip.words line ws).length : Int)) ∧ w' = w := by
  obtain ⟨ad, c, rfl, hle⟩ := h.shape
  rw [Ip.words_len]
  have hw : ∀ x ∈ ws, x.length ≤ 10000 := fun x hx => Nat.le_trans (Ip.joinW_mem hx) hs
  have hlz := str_size line
  have HL : Hid (line.length ≤ 10000) := hl
  have lb : ((str line).size : Int) ≤ 10000 := by omega
  have HZ : Hid ((str line).size = line.length) := hlz
  have nb : (ws.length : Int) ≤ 10000 := by omega
  have HW : Hid _ := hw
  have hm : max ((ws.length : Int) - 1) 0 = ((ws.length - 1 : Nat) : Int) := by omega
  clear hs hl hlz hw
  generalize str line = L at *
  go_enter Tryz.func100, Tryz.ntmps100
  go_wp2
  go_loop [5, 14] (fun n i => ∃ k : Nat, k ≤ ws.length ∧ i = .int .i64 (k : Int) ∧ ∃ m : Nat, n = .int .i64 (m : Int) ∧ Hid (m = ws.length - 1 + Ip.sumT line (ws.take k))) (fun _ i => ws.length - (intOf i).toNat)
  case atStart => exact ⟨0, Nat.zero_le _, rfl, ws.length - 1, by first | rfl | rw [hm] | (simp; omega), by show _ = _; simp [Ip.sumT]⟩
  case round =>
    obtain ⟨k, hk, rfl, m, rfl, HM⟩ := hrel
    by_cases hlt : k < ws.length
    · have i1 : (k : Int) < (ws.length : Int) := by omega
      obtain ⟨g, o, c', e1, hg, p1⟩ := TxR.at h hlt
      simp only [Value.slice.injEq] at e1
      obtain ⟨rfl, -, rfl⟩ := e1
      have hx := HW.out _ (List.getElem_mem hlt)
      have hC := Count_one (str ws[k]) 64
      have hcnt : ((bs (str ws[k])).count 64) = ws[k].count 64 := by simp [bs, str]
      rw [hcnt] at hC
      have hTl := Ip.told_len line ws[k]
      have hS := Ip.sumT_take line ws k hlt
      have hsz := str_size ws[k]
      have hle2 := Ip.told_le line ws[k] HL.out hx
      have hsum := Ip.sumT_le line HL.out (ws.take k) (fun x hx => HW.out x (List.mem_of_mem_take hx))
      rw [List.length_take, Nat.min_eq_left hk] at hsum
      have hmb : m ≤ 1000200000000 := by
        have := HM.out
        have : k * 100010000 ≤ 10000 * 100010000 := Nat.mul_le_mul_right _ (by omega)
        omega
      rw [← HZ.out] at hTl
      have hcl : (ws[k].count 64 : Int) ≤ 10000 := by
        have := List.count_le_length (a := (64 : UInt8)) (l := ws[k])
        omega
      generalize ws[k] = x at *
      generalize x.count 64 = q at *
      generalize (Ip.told line x).length = T at *
      have hpb : (q : Int) * ((L.size : Int) - 1) = (T : Int) - (x.length : Int) := by omega
      have HX : Hid (m + T = ws.length - 1 + Ip.sumT line (ws.take (k + 1))) := by
        show _ = _
        rw [hS, HM.out]; omega
      have xb : ((str x).size : Int) ≤ 10000 := by omega
      have tb : (T : Int) ≤ 100010000 := by omega
      have mb : (m : Int) ≤ 1000200000000 := by omega
      have xz : ((str x).size : Int) = (x.length : Int) := by omega
      have w1 : IntKind.i64.wrap ((q : Int) * ((L.size : Int) - 1)) = (T : Int) - ((str x).size : Int) := by
        rw [hpb, xz]
        simp [IntKind.wrap, IntKind.signed, IntKind.bits]
        omega
      clear hTl hS HM hsum hle2 hcnt hpb xz hx hsz
      generalize str x = S at *
      go_wp2_with (first | (go_at_call 115; refine (hC _).mono ?_; rintro e w1 ⟨rfl, hw1⟩; rw [hw1]; clear hw1) | fail)
      exact ⟨⟨k + 1, by omega, by go_num, m + T, by first | rfl | go_num | (rw [w1]; go_num), HX.out⟩, by simp [intOf]; omega⟩
    · obtain rfl : k = ws.length := by omega
      have i1 : ¬ (ws.length : Int) < (ws.length : Int) := by omega
      go_wp2
      go_ret
      refine ⟨?_, rfl⟩
      rw [HM.out, List.take_length]
      refine congrArg (fun z => Ending.returned (Value.int .i64 z)) ?_
      push_cast
      rfl

theorem row_one (W : World) (s : List UInt8) : TxR.Sl (W.alloc (.cells #[.string (str s)] 9)) (W.heap.size + 1) (.slice (some ⟨W.heap.size, 0, none⟩) 1 1) [s] := Rc.lit (R := TxR) W s _ rfl
set_option maxRecDepth 100000 in
theorem alike_any (line v u : List UInt8) (w : World) (hv : v.length ≤ 10000) (hu : u.length ≤ 10000) (hl : line.length ≤ 10000) :
    Calls Tryz.prog 110 #[.string (str line), .string (str v), .string (str u)] w fun e w' => e = .returned (.bool (decide (Ip.told line v = Ip.told line u))) ∧ Below w.heap.size w w' := by
  have hr := fun (s : List UInt8) (W : World) => row_one W s
  have hLn : ∀ (s : List UInt8) (W : World) (k : Nat), s.length ≤ 10000 → W.heap.size = k → Calls Tryz.prog 100 #[.string (str line), .slice (some ⟨k, 0, none⟩) 1 1] (W.alloc (.cells #[.string (str s)] 9)) fun e w' => e = .returned (.int .i64 ((Ip.told line s).length : Int)) ∧ w' = W.alloc (.cells #[.string (str s)] 9) := by
    intro s W k hs hk
    subst hk
    exact lenAsTold_any line [s] _ _ _ (hr s W) hs (by simp) hl
  have hTl : ∀ (s : List UInt8) (W : World) (k : Nat), s.length ≤ 10000 → W.heap.size = k → Calls Tryz.prog 101 #[.string (str line), .slice (some ⟨k, 0, none⟩) 1 1] (W.alloc (.cells #[.string (str s)] 9)) fun e w' => e = .returned (.string (str (Ip.told line s))) ∧ Below (W.alloc (.cells #[.string (str s)] 9)).heap.size (W.alloc (.cells #[.string (str s)] 9)) w' := by
    intro s W k hs hk
    subst hk
    exact asTold_any line [s] _ _ _ (hr s W) (by rw [size_alloc]; exact Nat.le_refl _) hs (by simp) hl
  have hL1 := fun W k => hLn v W k hv
  have hL2 := fun W k => hLn u W k hu
  have hT1 := fun W k => hTl v W k hv
  have hT2 := fun W k => hTl u W k hu
  have HQ : Hid ((decide (Ip.told line v = Ip.told line u)) = ((str (Ip.told line v)).toList == (str (Ip.told line u)).toList)) := (beq_str _ _).symm
  have hbq := beq_str v u
  by_cases he : v = u
  · have q1 : ((str v).toList == (str u).toList) = true := by rw [hbq]; simpa using he
    have HD : Hid (decide (Ip.told line v = Ip.told line u) = true) := by show _ = _; rw [he]; simp
    clear hL1 hL2 hT1 hT2 hLn hTl hr HQ hbq he
    generalize str v = V at *
    generalize str u = U at *
    go_enter Tryz.func110, Tryz.ntmps110
    go_wp2
    go_ret
    rw [HD.out]
    exact ⟨rfl, Below.refl _ _⟩
  · have q1 : ((str v).toList == (str u).toList) = false := by rw [hbq]; simpa using he
    by_cases hlen : (Ip.told line v).length = (Ip.told line u).length
    · have q2 : (((Ip.told line v).length : Int) == ((Ip.told line u).length : Int)) = true := by rw [hlen]; simp
      obtain ⟨R, hR⟩ : ∃ R, decide (Ip.told line v = Ip.told line u) = R := ⟨_, rfl⟩
      rw [hR]
      have q3 : ((str (Ip.told line v)).toList == (str (Ip.told line u)).toList) = R := by rw [← HQ.out, hR]
      clear hLn hTl hr HQ hbq he hlen hR
      generalize (Ip.told line v).length = n1 at *
      generalize (Ip.told line u).length = n2 at *
      generalize str (Ip.told line v) = T1 at *
      generalize str (Ip.told line u) = T2 at *
      generalize str line = L at *
      generalize str v = V at *
      generalize str u = U at *
      go_enter Tryz.func110, Tryz.ntmps110
      have b0 := (Below.refl w.heap.size w).alloc (Nat.le_refl _) (.cells #[.string V] 9)
      have b1 := b0.alloc b0.size (.cells #[.string U] 9)
      have b2 := b1.alloc b1.size (.cells #[.string V] 9)
      go_wp2_with (first | (go_at_call 100; first | (refine (hL1 _ _ (by simp)).mono ?_; rintro e w1 ⟨rfl, rfl⟩) | (refine (hL2 _ _ (by simp)).mono ?_; rintro e w1 ⟨rfl, rfl⟩)) | (go_at_call 101; first | (refine (hT1 _ _ (by simp)).mono ?_; rintro e w2 ⟨rfl, hb2⟩) | (refine (hT2 _ _ (by simp)).mono ?_; rintro e w3 ⟨rfl, hb3⟩)) | fail)
      go_ret
      refine ⟨rfl, ?_⟩
      have b3 := b2.trans (hb2.mono b2.size)
      have b4 := b3.alloc b3.size (.cells #[.string U] 9)
      exact b4.trans (hb3.mono b4.size)
    · have q2 : (((Ip.told line v).length : Int) == ((Ip.told line u).length : Int)) = false := by simp; omega
      have HD : Hid (decide (Ip.told line v = Ip.told line u) = false) := by
        show _ = _
        simp only [decide_eq_false_iff_not]
        exact fun e => hlen (congrArg List.length e)
      clear hLn hTl hr HQ hbq he hlen hT1 hT2
      generalize (Ip.told line v).length = n1 at *
      generalize (Ip.told line u).length = n2 at *
      generalize str line = L at *
      generalize str v = V at *
      generalize str u = U at *
      go_enter Tryz.func110, Tryz.ntmps110
      have b0 := (Below.refl w.heap.size w).alloc (Nat.le_refl _) (.cells #[.string V] 9)
      have b1 := b0.alloc b0.size (.cells #[.string U] 9)
      go_wp2_with (first | (go_at_call 100; first | (refine (hL1 _ _ (by simp)).mono ?_; rintro e w1 ⟨rfl, rfl⟩) | (refine (hL2 _ _ (by simp)).mono ?_; rintro e w1 ⟨rfl, rfl⟩)) | fail)
      go_ret
      rw [HD.out]
      exact ⟨rfl, b1⟩

end Go.Proofs.YtnobmgkdieaclaaGreatDoor
