/-
  THE WALK OF THE DOCUMENT's Find.
-/
import Derived.Test.YtohdakjfacalbaaRSmall
namespace Go.Proofs.Ytohdakjfacalbaa
open Go.RowKit

def Cm.placeTo (n : Cm.Nd) (key : ByteArray) (k : Nat) : Nat := ((n.items.take k).filter (Cm.ahead n key)).length
def Cm.isTo (n : Cm.Nd) (key : ByteArray) (k : Nat) : Bool := (n.items.take k).any fun x => decide (x.key = key)
theorem take_get (l : List Cm.It) (k : Nat) (h : k < l.length) : l.take (k + 1) = l.take k ++ [l.getD k Cm.zero] := by
  rw [List.take_succ_eq_append_getElem h]; simp [List.getD, List.getElem?_eq_getElem h]
theorem Cm.placeTo_succ (n : Cm.Nd) (key : ByteArray) (k : Nat) (h : k < n.items.length) : Cm.placeTo n key (k + 1) = Cm.placeTo n key k + if Cm.ahead n key (n.items.getD k Cm.zero) = true then 1 else 0 := by
  unfold Cm.placeTo
  rw [take_get _ _ h, List.filter_append, List.length_append]
  congr 1
  generalize n.items.getD k Cm.zero = x
  cases h : Cm.ahead n key x <;> simp [List.filter, h]
theorem Cm.isTo_succ (n : Cm.Nd) (key : ByteArray) (k : Nat) (h : k < n.items.length) : Cm.isTo n key (k + 1) = (Cm.isTo n key k || decide ((n.items.getD k Cm.zero).key = key)) := by
  unfold Cm.isTo
  rw [take_get _ _ h, List.any_append]
  simp
theorem Cm.placeTo_le (n : Cm.Nd) (key : ByteArray) (k : Nat) : Cm.placeTo n key k ≤ n.items.length := by
  unfold Cm.placeTo
  have h1 := List.length_filter_le (Cm.ahead n key) (n.items.take k)
  have h2 := List.length_take_le' k n.items
  omega

set_option maxRecDepth 100000 in
set_option maxHeartbeats 2000000 in
theorem Find_any (n : Cm.Nd) (key : ByteArray) (v : Value) (B : Nat) (w : World) (hv : NdS w B v n) (hB : B ≤ w.heap.size) (hl : n.items.length ≤ 1000000) :
    Calls Try.prog 27 #[v, .string key] w fun e w' => e = .returned (.tuple #[.int .i64 (Cm.place n key : Int), .bool (Cm.isIn n key)]) ∧ Below w.heap.size w w' := by
  obtain ⟨vi, vk, rfl, ⟨ad, c, rfl, hc, hn, hi⟩, ⟨kd, d, rfl, hd, hkn, hki⟩⟩ := hv
  have Hi : Hid _ := hi
  clear hi hki
  go_enter Try.func27, Try.ntmps27
  go_wp2
  go_loopw [6, 7, 8] (fun p is i wr => ∃ k : Nat, k ≤ n.items.length ∧ i = .int .i64 (k : Int) ∧ p = .int .i64 (Cm.placeTo n key k : Int) ∧ is = .bool (Cm.isTo n key k) ∧ wr.heap[w.heap.size]? = some (.cells #[.bool n.leaf, .slice ad n.items.length c, .slice kd n.kids.length d] 28 (0, 0)) ∧ Below w.heap.size w wr)
    (fun _ _ i _ => n.items.length - (intOf i).toNat)
  case atStart => exact ⟨0, Nat.zero_le _, rfl, rfl, rfl, heap_alloc_new w _, (Below.refl _ w).alloc (Nat.le_refl _) _⟩
  case round =>
    obtain ⟨k, hkl, rfl, rfl, rfl, hbx, hbr⟩ := hrel
    obtain ⟨n0, n1, n2⟩ := cells3_of hbx
    by_cases hlt : k < n.items.length
    · obtain ⟨b, o, rfl, hbl, hcs⟩ := Hi.out (by intro h; rw [h] at hlt; simp at hlt)
      have c0 := (World.cell?_of_block (a := ⟨b, o + k * 4, none⟩) (hbr.block b (Nat.lt_of_lt_of_le hbl hB))).trans (hcs k hlt).1
      have HP : Hid _ := Cm.placeTo_succ n key k hlt
      have HS : Hid _ := Cm.isTo_succ n key k hlt
      have hple := Cm.placeTo_le n key k
      obtain ⟨x, hx⟩ : ∃ x, n.items.getD k Cm.zero = x := ⟨_, rfl⟩
      rw [hx] at c0 HP HS
      obtain ⟨xk, xv, xp, xl⟩ := x
      simp only at c0
      generalize Cm.placeTo n key k = P at *
      generalize Cm.isTo n key k = S at *
      have hE : (xk.toList == key.toList) = decide (xk = key) := str_eq xk key
      obtain ⟨eq, heq⟩ : ∃ eq, decide (xk = key) = eq := ⟨_, rfl⟩
      rw [heq] at hE
      have HA : Hid (Cm.ahead n key ⟨xk, xv, xp, xl⟩ = (Op.bytesLess xk.toList key.toList || (!n.leaf && eq))) := by rw [← heq]; rfl
      have HS2 : Hid (Cm.isTo n key (k + 1) = (S || eq)) := by rw [← heq]; exact HS.out
      obtain ⟨ls, hls⟩ : ∃ ls, Op.bytesLess xk.toList key.toList = ls := ⟨_, rfl⟩
      rw [hls] at HA
      generalize n.leaf = lf at *
      have i1 : (k : Int) < (n.items.length : Int) := by omega
      clear hx heq hcs HS Hi
      have Hb : Hid (wr.heap[w.heap.size]? = some (.cells #[.bool lf, .slice (some ⟨b, o, none⟩) n.items.length c, .slice kd n.kids.length d] 28 (0, 0))) := hbx
      clear hbx
      cases ls <;> cases lf <;> cases eq <;> cases S
      all_goals go_wp2
      all_goals
        refine ⟨⟨k + 1, by omega, by go_num, ?_, ?_, Hb.out, hbr⟩, by simp [intOf]; omega⟩
        · rw [HP.out, HA.out]; simp
        · rw [HS2.out]; rfl
    · obtain rfl : k = n.items.length := by omega
      go_wp2
      go_ret2
      refine ⟨?_, hbr⟩
      have e1 : Cm.placeTo n key n.items.length = Cm.place n key := by unfold Cm.placeTo Cm.place; rw [List.take_length]
      have e2 : Cm.isTo n key n.items.length = Cm.isIn n key := by unfold Cm.isTo Cm.isIn; rw [List.take_length]
      rw [← e1, ← e2]
      rfl
end Go.Proofs.Ytohdakjfacalbaa
