/-
  THE WALKS OF THE DOCUMENT's ANSWERS AskUint, AskText, AskList.
-/
import Derived.Test.YtoablejghckaeaaRefReads
namespace Go.Proofs.Ytoablejghckaeaa
open Go.RowKit

set_option maxRecDepth 100000 in
set_option maxHeartbeats 1000000 in
theorem AskUint_any (v : Value) (bs : List UInt8) (B most : Nat) (w : World) (hv : Byts w B v bs) (hbs : bs.length ≤ 1099511627776) :
    Calls Try.prog 26 #[v, .int .u64 (most : Int)] w fun e w' => e = .returned (.tuple #[.int .u64 ((askU bs 0 most).1 : Int), .int .i64 ((askU bs 0 most).2.2 : Int), .int .i64 ((askU bs 0 most).2.1 : Int)]) ∧ w' = w := by
  go_enter Try.func26, Try.ntmps26
  go_wp2_with fail
  refine (ReadUint_any v bs B _ hv hbs).mono ?_
  rintro e w' ⟨rfl, rfl⟩
  cases hg : Wm.getU 0 bs with
  | none =>
    have Hask : Hid (askU bs 0 most = (0, 7, 0)) := by show _ = _; simp [askU, hg]
    rw [show rdU bs = (0, 0) by simp [rdU, hg]]
    clear hg
    go_wp2
    go_ret3
    rw [Hask.out]
    exact ⟨rfl, rfl⟩
  | some q =>
    obtain ⟨n, c⟩ := q
    have hc := (Wm.put_get hg).2.2.1
    rw [show rdU bs = (n, c) by simp [rdU, hg]]
    have hc' : ((c : Int) == 0) = false := by rw [beq_eq_false_iff_ne]; omega
    by_cases hm : n ≤ most
    · have Hask : Hid (askU bs 0 most = (n, 0, c)) := by show _ = _; simp [askU, hg, hm]
      have hm' : ¬ (most : Int) < (n : Int) := by omega
      clear hg
      go_wp2
      go_ret3
      rw [Hask.out]
      exact ⟨rfl, rfl⟩
    · have Hask : Hid (askU bs 0 most = (0, 3, 0)) := by show _ = _; simp [askU, hg, hm]
      have hm' : (most : Int) < (n : Int) := by omega
      clear hg
      go_wp2
      go_ret3
      rw [Hask.out]
      exact ⟨rfl, rfl⟩

/-- a part of bytes -/
theorem Byts.part {W : World} {B g o n cap : Nat} {t : List UInt8} (h : Byts W B (.slice (some ⟨g, o, none⟩) t.length n) t) (l m : Nat) (hlm : l + m ≤ t.length) (hcap : l + m ≤ cap) :
    Byts W B (.slice (if cap = l then some ⟨g, o, none⟩ else some ⟨g, o + l, none⟩) m (cap - l)) ((t.drop l).take m) := by
  have e : m = ((t.drop l).take m).length := by simp; omega
  refine ⟨if cap = l then some ⟨g, o, none⟩ else some ⟨g, o + l, none⟩, cap - l, by rw [← e], by rw [← e]; omega, (fun h => by split at h <;> cases h), fun hne => ?_⟩
  have hm : m ≠ 0 := by intro h0; subst h0; simp at hne
  rw [if_neg (by omega)]
  obtain ⟨ad, c', hv, _, _, h⟩ := h
  simp only [Value.slice.injEq] at hv
  obtain ⟨rfl, _, rfl⟩ := hv
  have htn : t ≠ [] := by intro e; subst e; simp at hne
  obtain ⟨b, o', ha, hb, hcell⟩ := h htn
  simp only [Option.some.injEq, Addr.mk.injEq, and_true] at ha
  obtain ⟨rfl, rfl⟩ := ha
  refine ⟨g, o + l, rfl, hb, fun j hj => ?_⟩
  have hjm : j < m := by simp at hj; omega
  have := hcell (l + j) (by omega)
  rw [← Nat.add_assoc] at this
  rw [this]
  simp [List.getD, hjm, List.getElem?_drop]

set_option maxRecDepth 100000 in
set_option maxHeartbeats 1000000 in
theorem AskText_any (v : Value) (bs : List UInt8) (B : Nat) (most : Int) (w : World) (hv : Byts w B v bs) (hbs : bs.length ≤ 1099511627776) (hmost : most ≤ 9223372036854775807) :
    Calls Try.prog 27 #[v, .int .i64 most] w fun e w' => e = .returned (.tuple #[.string (str (askT bs 0 most).1), .int .i64 ((askT bs 0 most).2.2 : Int), .int .i64 ((askT bs 0 most).2.1 : Int)]) ∧ w' = w := by
  have hv0 := hv
  obtain ⟨ad, cap, rfl, hcap, _, _⟩ := hv0
  have Hmost : Hid (most ≤ 9223372036854775807) := hmost
  clear hmost
  go_enter Try.func27, Try.ntmps27
  go_wp2_with fail
  refine (ReadUint_any _ bs B _ hv hbs).mono ?_
  rintro e w' ⟨rfl, rfl⟩
  cases hg : Wm.getU 0 bs with
  | none =>
    have Hask : Hid (askT bs 0 most = ([], 7, 0)) := by show _ = _; simp [askT, askN, hg]
    rw [show rdU bs = (0, 0) by simp [rdU, hg]]
    clear hg
    go_wp2
    go_ret3
    rw [Hask.out]
    exact ⟨rfl, rfl⟩
  | some q =>
    obtain ⟨n, c⟩ := q
    obtain ⟨_, hcl, hc, _⟩ := Wm.put_get hg
    rw [show rdU bs = (n, c) by simp [rdU, hg]]
    have hc' : ((c : Int) == 0) = false := by rw [beq_eq_false_iff_ne]; omega
    by_cases hneg : most < 0
    · have Hask : Hid (askT bs 0 most = ([], 3, 0)) := by show _ = _; simp [askT, askN, hg, hneg]
      clear hg
      go_wp2
      go_ret3
      rw [Hask.out]
      exact ⟨rfl, rfl⟩
    · have hw : IntKind.u64.wrap most = most := u64_wrap_pos (by omega) (by have := Hmost.out; omega)
      by_cases hlong : most < (n : Int)
      · have Hask : Hid (askT bs 0 most = ([], 3, 0)) := by show _ = _; simp [askT, askN, hg, hlong]
        clear hg
        go_wp2
        go_ret3
        rw [Hask.out]
        exact ⟨rfl, rfl⟩
      · have hcl' : (c : Int) ≤ (bs.length : Int) := by omega
        have hw2 : IntKind.u64.wrap ((bs.length : Int) - (c : Int)) = (bs.length : Int) - (c : Int) := u64_wrap_pos (by omega) (by omega)
        by_cases hleft : bs.length - c < n
        · have Hask : Hid (askT bs 0 most = ([], 7, 0)) := by show _ = _; simp [askT, askN, hg, hneg, hlong, hleft]
          have hleft' : (bs.length : Int) - (c : Int) < (n : Int) := by omega
          clear hg
          go_wp2
          go_ret3
          rw [Hask.out]
          exact ⟨rfl, rfl⟩
        · have Hask : Hid (askT bs 0 most = ((bs.drop c).take n, 0, c + n)) := by show _ = _; simp [askT, askN, hg, hneg, hlong, hleft]
          have hleft' : ¬ (bs.length : Int) - (c : Int) < (n : Int) := by omega
          have hnn : (n : Int) ≤ 1099511627776 := by omega
          have i1 : (0 : Int) ≤ (c : Int) := by omega
          have i2 : (c : Int) ≤ (c : Int) + (n : Int) := by omega
          have i3 : (c : Int) + (n : Int) ≤ (cap : Int) := by omega
          clear hg hleft
          obtain ⟨g, o, had, hgl, _⟩ := hv.open (by intro h; subst h; simp at hcl; omega)
          subst had
          have hcv := conv_byts (hv.part (cap := cap) c n (by omega) (by omega))
          generalize ht : (bs.drop c).take n = t at hcv Hask
          clear ht
          rcases Nat.eq_or_lt_of_le (show c ≤ cap by omega) with hcl2 | hcl2
          · subst hcl2
            have es : (Value.slice (some ⟨g, o, none⟩) n (c - c)) = .slice (some ⟨g, o, none⟩) 0 0 := by rw [show n = 0 by omega, Nat.sub_self]
            rw [if_pos rfl, es] at hcv
            clear es
            go_wp2
            go_ret3
            rw [Hask.out]
            exact ⟨rfl, rfl⟩
          · have hne : ¬ cap = c := by omega
            rw [if_neg hne] at hcv
            go_wp2
            go_ret3
            rw [Hask.out]
            exact ⟨rfl, rfl⟩
end Go.Proofs.Ytoablejghckaeaa
