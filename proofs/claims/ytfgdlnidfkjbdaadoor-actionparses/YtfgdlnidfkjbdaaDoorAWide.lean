/-
  WHAT THE LAWS' OWN wide DOES.
-/
import Derived.Test.YtfgdlnidfkjbdaaDoorAWorks
namespace Go.Proofs.YtfgdlnidfkjbdaaDoor
open Go.RowKit

namespace Ac
/-- how much a line, how much lines have -/
def bulkL : List (List UInt8) → Nat
  | [] => 0
  | s :: r => 1 + s.length + bulkL r
def bulk : List (List (List UInt8)) → Nat
  | [] => 0
  | l :: r => 1 + bulkL l + bulk r
theorem bulkL_len : ∀ l : List (List UInt8), l.length ≤ bulkL l
  | [] => Nat.le_refl _
  | s :: r => by have := bulkL_len r; rw [List.length_cons, bulkL]; omega
theorem bulkL_mem : ∀ {l : List (List UInt8)} {s : List UInt8}, s ∈ l → s.length ≤ bulkL l
  | s :: r, x, h => by
    rw [bulkL]
    rcases List.mem_cons.1 h with rfl | h
    · omega
    · have := bulkL_mem h; omega
theorem bulk_len : ∀ ls : List (List (List UInt8)), ls.length ≤ bulk ls
  | [] => Nat.le_refl _
  | l :: r => by have := bulk_len r; rw [List.length_cons, bulk]; omega
theorem bulk_mem : ∀ {ls : List (List (List UInt8))} {l : List (List UInt8)}, l ∈ ls → bulkL l ≤ bulk ls
  | l :: r, x, h => by
    rw [bulk]
    rcases List.mem_cons.1 h with rfl | h
    · omega
    · have := bulk_mem h; omega
end Ac
theorem fit_bulk {ls : List (List (List UInt8))} (h : Ac.bulk ls < 262144) : Fit ls := by
  refine ⟨by have := Ac.bulk_len ls; omega, fun l hl => ?_, fun l hl s hs => ?_⟩
  · have h1 := Ac.bulk_mem hl
    have h2 := Ac.bulkL_len l
    omega
  · have h1 := Ac.bulk_mem hl
    have h2 := Ac.bulkL_mem hs
    omega
/-- lines as great as a machine can have them -/
def Sized (ls : List (List (List UInt8))) : Prop := ls.length ≤ 140737488355328 ∧ ∀ l ∈ ls, l.length ≤ 140737488355328 ∧ ∀ s ∈ l, s.length ≤ 140737488355328

set_option maxRecDepth 100000 in
set_option maxHeartbeats 1000000 in
theorem wide_any (v : Value) (ls : List (List (List UInt8))) (B : Nat) (w : World) (hv : LiS w B v ls) (hz : Sized ls) :
    Calls Tryd.prog 10 #[v] w fun e w' => e = .returned (.bool (decide (262144 ≤ Ac.bulk ls))) ∧ w' = w := by
  obtain ⟨ad, c, rfl, hle⟩ := hv.shape
  obtain ⟨hz1, hz2⟩ := hz
  obtain ⟨T, hT⟩ : ∃ T, Ac.bulk ls = T := ⟨_, rfl⟩
  rw [hT]
  have HT : Hid _ := hT
  clear hT
  have bl : (ls.length : Int) ≤ 140737488355328 := by omega
  go_enter Tryd.func10, Tryd.ntmps10
  go_wp2
  go_loop [3, 4] (fun n i => ∃ j m : Nat, j ≤ ls.length ∧ i = .int .i64 (j : Int) ∧ n = .int .i64 (m : Int) ∧ (m : Int) ≤ 140737488900000 ∧ Hid (m < 262144 → m + Ac.bulk (ls.drop j) = T) ∧ Hid (m ≤ T)) (fun _ i => ls.length - (intOf i).toNat)
  case atStart => exact ⟨0, 0, Nat.zero_le _, rfl, rfl, by omega, by show _ → _; intro _; rw [List.drop_zero, Nat.zero_add]; exact HT.out, Nat.zero_le _⟩
  case round =>
    obtain ⟨j, m, hj, rfl, rfl, hmb, HE, HL⟩ := hrel
    by_cases hlt : j < ls.length
    · have i1 : (j : Int) < (ls.length : Int) := by omega
      by_cases hm : m < 262144
      · have m1 : (m : Int) < 262144 := by omega
        have hd := List.drop_eq_getElem_cons hlt
        have hmem := List.getElem_mem hlt
        obtain ⟨hzl, hzs⟩ := hz2 _ hmem
        have hE := HE.out hm
        rw [hd, Ac.bulk] at hE
        obtain ⟨g, o, c', aa, ac, e, hg, c0, hs⟩ := hv.at hlt
        simp only [Value.slice.injEq] at e
        obtain ⟨rfl, -, rfl⟩ := e
        generalize ls[j] = l at *
        have bl2 : (l.length : Int) ≤ 140737488355328 := by omega
        have HE1 : Hid _ := hE
        obtain ⟨RS, hRS⟩ : ∃ RS, Ac.bulk (ls.drop (j + 1)) = RS := ⟨_, rfl⟩
        rw [hRS] at HE1
        have HRS : Hid _ := hRS
        clear HE HL hd hmem hE hRS
        go_wp2
        go_loop [3, 5] (fun n i => ∃ q m' : Nat, q ≤ l.length ∧ i = .int .i64 (q : Int) ∧ n = .int .i64 (m' : Int) ∧ (m' : Int) ≤ 140737488900000 ∧ Hid (m' < 262144 → m' + Ac.bulkL (l.drop q) + RS = T) ∧ Hid (m' ≤ T)) (fun _ i => l.length - (intOf i).toNat)
        case atStart => exact ⟨0, m + 1, Nat.zero_le _, rfl, by go_num, by omega, by show _ → _; intro _; rw [List.drop_zero]; have := HE1.out; omega, by show _ ≤ _; have := HE1.out; omega⟩
        case round =>
          obtain ⟨q, m', hq, rfl, rfl, hmb', HE', HL'⟩ := hrel
          by_cases hqt : q < l.length
          · have i2 : (q : Int) < (l.length : Int) := by omega
            by_cases hm' : m' < 262144
            · have m2 : (m' : Int) < 262144 := by omega
              have hd := List.drop_eq_getElem_cons hqt
              have hmem := List.getElem_mem hqt
              have hss := hzs _ hmem
              have hE := HE'.out hm'
              rw [hd, Ac.bulkL] at hE
              obtain ⟨g2, o2, c2, e2, hg2, p2⟩ := TxR.at hs hqt
              simp only [Value.slice.injEq] at e2
              obtain ⟨rfl, -, rfl⟩ := e2
              have hsz := str_size l[q]
              generalize l[q] = s at *
              generalize str s = S at *
              have bs2 : (S.size : Int) ≤ 140737488355328 := by omega
              have HA : Hid (m' + (1 + S.size) < 262144 → m' + (1 + S.size) + Ac.bulkL (l.drop (q + 1)) + RS = T) := by show _ → _; intro _; omega
              have HB : Hid (m' + (1 + S.size) ≤ T) := by show _ ≤ _; omega
              clear hd hmem hE HE' HL' hss hsz
              go_wp2
              exact ⟨⟨q + 1, m' + (1 + S.size), by omega, by go_num, by go_num, by omega, HA.out, HB.out⟩, by simp [intOf]; omega⟩
            · have m2 : ¬ (m' : Int) < 262144 := by omega
              have HA : Hid (m' < 262144 → m' + Ac.bulk (ls.drop (j + 1)) = T) := by show _ → _; intro h; omega
              have HB : Hid (m' ≤ T) := HL'.out
              clear HE' HL'
              go_wp2
              exact ⟨⟨j + 1, m', by omega, by go_num, rfl, hmb', HA.out, HB.out⟩, by simp [intOf]; omega⟩
          · obtain rfl : q = l.length := by omega
            have i2 : ¬ (l.length : Int) < (l.length : Int) := by omega
            have HA : Hid (m' < 262144 → m' + Ac.bulk (ls.drop (j + 1)) = T) := by
              show _ → _
              intro h
              have := HE'.out h
              rw [List.drop_length, Ac.bulkL] at this
              rw [HRS.out]
              omega
            have HB : Hid (m' ≤ T) := HL'.out
            clear HE' HL'
            go_wp2
            exact ⟨⟨j + 1, m', by omega, by go_num, rfl, hmb', HA.out, HB.out⟩, by simp [intOf]; omega⟩
      · have m1 : ¬ (m : Int) < 262144 := by omega
        have m3 : (262144 : Int) ≤ (m : Int) := by omega
        have HF : Hid (decide (262144 ≤ T) = true) := decide_eq_true (by have := HL.out; omega)
        clear HE HL
        go_wp2
        go_ret
        rw [HF.out]
        exact ⟨rfl, rfl⟩
    · obtain rfl : j = ls.length := by omega
      have i1 : ¬ (ls.length : Int) < (ls.length : Int) := by omega
      by_cases hm : m < 262144
      · have HF : Hid (decide (262144 ≤ T) = false) := decide_eq_false (by have := HE.out hm; rw [List.drop_length, Ac.bulk] at this; omega)
        have m3 : ¬ (262144 : Int) ≤ (m : Int) := by omega
        clear HE HL
        go_wp2
        go_ret
        rw [HF.out]
        exact ⟨rfl, rfl⟩
      · have HF : Hid (decide (262144 ≤ T) = true) := decide_eq_true (by have := HL.out; omega)
        have m3 : (262144 : Int) ≤ (m : Int) := by omega
        clear HE HL
        go_wp2
        go_ret
        rw [HF.out]
        exact ⟨rfl, rfl⟩

end Go.Proofs.YtfgdlnidfkjbdaaDoor
