/-
  slices.Insert OF ONE ELEMENT, at items and at numbers, anywhere in a row of the call's own.
-/
import Derived.Test.YtplfcpbjlhobeaaInsG
namespace Go.Proofs.Ytplfcpbjlhobeaa
open Go.RowKit

theorem Clit_read {w : World} {p : Nat} {x : Cm.It} (hp : w.heap[p]? = some (.cells (itsV [x]).toArray 24 (0, 0))) : Its w w.heap.size (.slice (some ⟨p, 0, none⟩) 1 1) [x] := by
  have hlt := (Array.getElem?_eq_some_iff.1 hp).1
  refine ⟨some ⟨p, 0, none⟩, 1, rfl, Nat.le_refl _, (fun h => by cases h), fun _ => ⟨p, 0, rfl, hlt, fun j hj => ?_⟩⟩
  obtain rfl : j = 0 := by simp at hj; omega
  simp [World.cell?, hp, itsV, itA]
theorem InsertC_any (l : List Cm.It) (x : Cm.It) (i base p : Nat) (v : Value) (w : World) (hown : OwnC w base v l) (hi : i ≤ l.length) (hl : l.length ≤ 1000000) (hbase : base ≤ w.heap.size)
    (hp : w.heap[p]? = some (.cells (itsV [x]).toArray 24 (0, 0))) (hpne : v.ownBlock ≠ some p) :
    Calls Try.prog 20 #[v, .int .i64 (i : Int), .slice (some ⟨p, 0, none⟩) 1 1] w fun e w' => ∃ v', e = .returned v' ∧ OwnC w' base v' (l.take i ++ x :: l.drop i) ∧ w.grownBy w' v.ownBlock := by
  have hlen : (l.take i ++ x :: l.drop i).length = l.length + 1 := by simp; omega
  have hvl : (itsV (l.take i ++ x :: l.drop i)).length = (l.length + 1) * 4 := by rw [itsV_length, hlen]
  rcases Nat.lt_or_ge i l.length with hlt | hge
  · rcases hown.2 with ⟨rfl, h0⟩ | ⟨g, c, cur, rfl, hb, hg, hc, hcm, hsz, hx⟩
    · omega
    · have hne : p ≠ g := fun e => hpne (by simp [Value.ownBlock, e])
      by_cases hroom : l.length + 1 ≤ c
      · refine (Cins_shift l x i g c p cur w hlt hl hroom hcm hg hsz hx hp hne).mono ?_
        rintro e w' ⟨cur', rfl, h1, h2, h3, h4⟩
        refine ⟨_, rfl, ⟨by rw [hlen]; exact hvl, .inr ⟨g, c, cur', by rw [hlen], hb, h1, by rw [hlen]; exact hroom, hcm, h2, by rw [hlen]; exact h3⟩⟩, h4⟩
      · refine (Cins_grow l x i g c p cur w hlt hl hc (by omega) hg hx hp).mono ?_
        rintro e w' ⟨G, cur', rfl, h1, h2, h3, h4, h5, h6⟩
        refine ⟨_, rfl, ⟨by rw [hlen]; exact hvl, .inr ⟨w.heap.size, G, cur', by rw [hlen], hbase, h1, by rw [hlen]; exact h2, h3, h4, by rw [hlen]; exact h5⟩⟩, ⟨h6.os, h6.tape, h6.output, h6.size, fun k hk _ => h6.block k hk⟩⟩
  · obtain rfl : i = l.length := by omega
    refine (Cins_end l x base p v w hown hl hbase (Clit_read hp)).mono ?_
    rintro e w' ⟨v', rfl, h1, h2⟩
    refine ⟨v', rfl, ?_, h2⟩
    rw [List.take_length, List.drop_length]
    exact h1

theorem Nlit_read {w : World} {p : Nat} {x : Int} (hp : w.heap[p]? = some (.cells (intsV [x]).toArray 3 (0, 0))) : Ints w w.heap.size (.slice (some ⟨p, 0, none⟩) 1 1) [x] := by
  have hlt := (Array.getElem?_eq_some_iff.1 hp).1
  refine ⟨some ⟨p, 0, none⟩, 1, rfl, Nat.le_refl _, (fun h => by cases h), fun _ => ⟨p, 0, rfl, hlt, fun j hj => ?_⟩⟩
  obtain rfl : j = 0 := by simp at hj; omega
  simp [World.cell?, hp, intsV]
theorem InsertN_any (l : List Int) (x : Int) (i base p : Nat) (v : Value) (w : World) (hown : OwnN w base v l) (hi : i ≤ l.length) (hl : l.length ≤ 1000000) (hbase : base ≤ w.heap.size)
    (hp : w.heap[p]? = some (.cells (intsV [x]).toArray 3 (0, 0))) (hpne : v.ownBlock ≠ some p) :
    Calls Try.prog 21 #[v, .int .i64 (i : Int), .slice (some ⟨p, 0, none⟩) 1 1] w fun e w' => ∃ v', e = .returned v' ∧ OwnN w' base v' (l.take i ++ x :: l.drop i) ∧ w.grownBy w' v.ownBlock := by
  have hlen : (l.take i ++ x :: l.drop i).length = l.length + 1 := by simp; omega
  have hvl : (intsV (l.take i ++ x :: l.drop i)).length = (l.length + 1) * 1 := by rw [intsV_length1, hlen]
  rcases Nat.lt_or_ge i l.length with hlt | hge
  · rcases hown.2 with ⟨rfl, h0⟩ | ⟨g, c, cur, rfl, hb, hg, hc, hcm, hsz, hx⟩
    · omega
    · have hne : p ≠ g := fun e => hpne (by simp [Value.ownBlock, e])
      by_cases hroom : l.length + 1 ≤ c
      · refine (Nins_shift l x i g c p cur w hlt hl hroom hcm hg hsz hx hp hne).mono ?_
        rintro e w' ⟨cur', rfl, h1, h2, h3, h4⟩
        refine ⟨_, rfl, ⟨by rw [hlen]; exact hvl, .inr ⟨g, c, cur', by rw [hlen], hb, h1, by rw [hlen]; exact hroom, hcm, h2, by rw [hlen]; exact h3⟩⟩, h4⟩
      · refine (Nins_grow l x i g c p cur w hlt hl hc (by omega) hg hx hp).mono ?_
        rintro e w' ⟨G, cur', rfl, h1, h2, h3, h4, h5, h6⟩
        refine ⟨_, rfl, ⟨by rw [hlen]; exact hvl, .inr ⟨w.heap.size, G, cur', by rw [hlen], hbase, h1, by rw [hlen]; exact h2, h3, h4, by rw [hlen]; exact h5⟩⟩, ⟨h6.os, h6.tape, h6.output, h6.size, fun k hk _ => h6.block k hk⟩⟩
  · obtain rfl : i = l.length := by omega
    refine (Nins_end l x base p v w hown hl hbase (Nlit_read hp)).mono ?_
    rintro e w' ⟨v', rfl, h1, h2⟩
    refine ⟨v', rfl, ?_, h2⟩
    rw [List.take_length, List.drop_length]
    exact h1

end Go.Proofs.Ytplfcpbjlhobeaa
