/-
  WHAT do DOES, at a statement of whatever kind.
-/
import Derived.Test.YtnobmgkdieaclaaGreatDoorIpMul
import Derived.Test.YtnobmgkdieaclaaGreatDoorIpDo3
import Derived.Test.YtnobmgkdieaclaaGreatDoorIpDo4
import Derived.Test.YtnobmgkdieaclaaGreatDoorIpDo10
import Derived.Test.YtnobmgkdieaclaaGreatDoorIpDo11
import Derived.Test.YtnobmgkdieaclaaGreatDoorIpDo12
namespace Go.Proofs.YtnobmgkdieaclaaGreatDoor
open Go.RowKit

namespace Ip
/-- the words of a statement are few and short -/
def slim (a : List B) : Prop := (joinW a).length ≤ 4000 ∧ a.length ≤ 4000
/-- a list of statements that may be done -/
def good : Ac.Fo → Prop
  | .nil => True
  | .cons op a n b t => Ac.ok1 op a n = true ∧ slim a ∧ b.len ≤ 1000000 ∧ good b ∧ good t
theorem good_at : ∀ {f : Ac.Fo} {k : Nat} {op : Int} {a : List B} {n : Int} {b r : Ac.Fo}, good f → f.drop k = .cons op a n b r → Ac.ok1 op a n = true ∧ slim a ∧ b.len ≤ 1000000 ∧ good b
  | .nil, k, _, _, _, _, _, _, e => by rw [Ac.Fo.drop_nil] at e; cases e
  | .cons _ _ _ _ _, 0, _, _, _, _, _, h, e => by
    simp only [Ac.Fo.drop, Ac.Fo.cons.injEq] at e
    obtain ⟨rfl, rfl, rfl, rfl, rfl⟩ := e
    exact ⟨h.1, h.2.1, h.2.2.1, h.2.2.2.1⟩
  | .cons _ _ _ _ _, k + 1, _, _, _, _, _, h, e => good_at (k := k) h.2.2.2.2 e
end Ip
theorem ok_args {op : Int} {a : List (List UInt8)} {n : Int} (h : Ac.ok1 op a n = true) : (op = 1 ∨ op = 2 ∨ op = 3 ∨ op = 4 ∨ op = 5 ∨ op = 6 ∨ op = 7 ∨ op = 8 ∨ op = 9 ∨ op = 10 ∨ op = 11 ∨ op = 12) ∧ (op = 1 ∨ op = 2 ∨ op = 8 ∨ op = 11 → a.length = 1) ∧ (op = 12 → a.length = 2) ∧ 0 ≤ n ∧ n ≤ 1000 := by
  unfold Ac.ok1 at h
  simp only [Bool.and_eq_true, decide_eq_true_eq] at h
  obtain ⟨⟨⟨h1, h2⟩, h3⟩, h4⟩ := h
  refine ⟨Ac.word_of h1, fun ho => ?_, fun ho => ?_, h3.1, h3.2⟩
  · rcases ho with rfl | rfl | rfl | rfl <;> simpa [Ac.argsOk] using h2
  · subst ho; simpa [Ac.argsOk] using h2
theorem do_any (op : Int) (a : List (List UInt8)) (n : Int) (body : Ac.Fo) (line : List UInt8) (aa : Option Addr) (an ac : Nat) (ba : Option Addr) (bn bc : Nat) (w : World) (O : List Nat) (x : RP) (s : Ip.St) (h : RunS w O x s) (hf : s.Fine) (hL : Laid w)
    (ha : TxR.SlP w (fun b => b < w.heap.size ∧ b ∉ O) (.slice aa an ac) a) (hb : FoP w (fun b => b < w.heap.size ∧ b ∉ O) (.slice ba bn bc) body) (hok : Ac.ok1 op a n = true) (hs : Ip.slim a) (hl : line.length ≤ 256) (hbl : body.len ≤ 1000000) :
    Calls Tryz.prog 93 #[.pointer (some ⟨x.p, 0, none⟩), .agg #[.int .i64 op, .slice aa an ac, .int .i64 n, .slice ba bn bc], .string (str line)] w fun e w' => e = .returned (.tuple #[]) ∧ Went w O x (s.act op a n.toNat body line) w' := by
  obtain ⟨h1, h2, h3, h4, h5⟩ := ok_args hok
  obtain ⟨m, rfl⟩ : ∃ m : Nat, n = (m : Int) := ⟨n.toNat, by omega⟩
  rw [Int.toNat_natCast]
  have hm : m ≤ 1000 := by omega
  have one : a.length = 1 → ∃ u, a = [u] := fun e => by
    match a, e with
    | [u], _ => exact ⟨u, rfl⟩
  have two : a.length = 2 → ∃ u v, a = [u, v] := fun e => by
    match a, e with
    | [u, v], _ => exact ⟨u, v, rfl⟩
  rcases h1 with rfl | rfl | rfl | rfl | rfl | rfl | rfl | rfl | rfl | rfl | rfl | rfl
  · obtain ⟨u, rfl⟩ := one (h2 (by simp))
    exact do_1 u m body line aa an ac ba bn bc w O x s h hf hL ha hb hs.1 hs.2 hl hm hbl
  · obtain ⟨u, rfl⟩ := one (h2 (by simp))
    exact do_2 u m body line aa an ac ba bn bc w O x s h hf hL ha hb hs.1 hs.2 hl hm hbl
  · exact do_3 a m body line aa an ac ba bn bc w O x s h hf hL ha hb hs.1 hs.2 hl hm hbl
  · exact do_4 a m body line aa an ac ba bn bc w O x s h hf hL ha hb hs.1 hs.2 hl hm hbl
  · exact do_5 a m body line aa an ac ba bn bc w O x s h hf hL ha hb hs.1 hs.2 hl hm hbl
  · exact do_6 a m body line aa an ac ba bn bc w O x s h hf hL ha hb hs.1 hs.2 hl hm hbl
  · exact do_7 a m body line aa an ac ba bn bc w O x s h hf hL ha hb hs.1 hs.2 hl hm hbl
  · obtain ⟨u, rfl⟩ := one (h2 (by simp))
    exact do_8 u m body line aa an ac ba bn bc w O x s h hf hL ha hb hs.1 hs.2 hl hm hbl
  · exact do_9 a m body line aa an ac ba bn bc w O x s h hf hL ha hb hs.1 hs.2 hl hm hbl
  · exact do_10 a m body line aa an ac ba bn bc w O x s h hf hL ha hb hs.1 hs.2 hl hm hbl
  · obtain ⟨u, rfl⟩ := one (h2 (by simp))
    exact do_11 u m body line aa an ac ba bn bc w O x s h hf hL ha hb hs.1 hs.2 hl hm hbl
  · obtain ⟨u, v, rfl⟩ := two (h3 rfl)
    exact do_12 u v m body line aa an ac ba bn bc w O x s h hf hL ha hb hs.1 hs.2 hl hm hbl

end Go.Proofs.YtnobmgkdieaclaaGreatDoor
