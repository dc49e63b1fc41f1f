/-
  'string(b)' OF BYTES; bytes.Equal, bytes.HasPrefix, slices.Equal.
-/
import Derived.Test.YtoablejghckaeaaCur
namespace Go.Proofs.Ytoablejghckaeaa
open Go.RowKit

/-- a list of bytes as a text -/
def str (l : List UInt8) : ByteArray := ⟨l.toArray⟩
theorem str_toList (l : List UInt8) : (str l).data.toList = l := by simp [str]
theorem str_size (l : List UInt8) : (str l).size = l.length := by simp [str, ByteArray.size]
theorem str_of (s : ByteArray) : str s.data.toList = s := by cases s; simp [str]

theorem strOfNums_str (t : List UInt8) : strOfNums (t.map fun b => (b.toNat : Int)) = str t := by
  unfold strOfNums str
  congr 1
  rw [List.map_map]
  congr 1
  conv => rhs; rw [← List.map_id t]
  apply List.map_congr_left
  intro x _
  simp

theorem conv_byts {W : World} {B : Nat} {v : Value} {t : List UInt8} (h : Byts W B v t) : (convert 24 9 v).run Try.prog W = .ok (.string (str t)) W := by
  obtain ⟨ad, c, rfl, _, _, hc⟩ := h
  by_cases hne : t = []
  · subst hne
    cases ad with
    | none => rw [run_convert_bytes_nil (P := Try.prog) W 24 5 Try.underlying24 Try.underlying5 _ _ 9 Try.underlying9]; rfl
    | some x =>
      rw [run_convert_bytes_string W 24 9 5 _ _ c Try.underlying24 Try.underlying5 Try.underlying9]
      have hl := run_loadCells_list (P := Try.prog) W x [] (fun j v hj => by simp at hj)
      have := run_bytesToString (P := Try.prog) W x 0 c [] (by simpa using hl)
      rw [List.length_nil, this]
      rfl
  · obtain ⟨b, o, rfl, _, hcell⟩ := hc hne
    have := run_convert_bytes_arg (P := Try.prog) W 24 5 Try.underlying24 Try.underlying5 b o t.length c (t.map fun b => (b.toNat : Int)) (by simp) (fun i hi => by
      rw [hcell i hi]
      simp [List.getD, List.getElem?_eq_getElem hi]) 9 Try.underlying9
    rw [this, strOfNums_str]

/-- a part of bytes -/
theorem Byts.sub {W : World} {B g n cap : Nat} {t : List UInt8} (h : Byts W B (.slice (some ⟨g, 0, none⟩) t.length n) t) (l m : Nat) (hlm : l + m ≤ t.length) (hcap : l + m ≤ cap) :
    Byts W B (.slice (if cap = l then some ⟨g, 0, none⟩ else some ⟨g, l, none⟩) (l + m - l) (cap - l)) ((t.drop l).take m) := by
  have e : l + m - l = ((t.drop l).take m).length := by simp; omega
  rw [e]
  refine ⟨if cap = l then some ⟨g, 0, none⟩ else some ⟨g, l, none⟩, cap - l, rfl, by rw [← e]; omega, (fun h => by split at h <;> cases h), fun hne => ?_⟩
  have hm : m ≠ 0 := by intro h0; subst h0; simp at hne
  rw [if_neg (by omega)]
  obtain ⟨ad, c', hv, _, _, h⟩ := h
  simp only [Value.slice.injEq] at hv
  obtain ⟨rfl, _, rfl⟩ := hv
  have htn : t ≠ [] := by intro e; subst e; simp at hne
  obtain ⟨b, o, ha, hb, hcell⟩ := h htn
  simp only [Option.some.injEq, Addr.mk.injEq] at ha
  obtain ⟨rfl, rfl, _⟩ := ha
  refine ⟨g, l, rfl, hb, fun j hj => ?_⟩
  have hjm : j < m := by simp at hj; omega
  have := hcell (l + j) (by omega)
  rw [Nat.zero_add] at this
  rw [this]
  simp [List.getD, hjm, List.getElem?_drop]

theorem Byts.kept {w w' : World} {B g n c : Nat} {o : Nat} {l : List UInt8} {row : Option Nat} (h : Byts w B (.slice (some ⟨g, o, none⟩) n c) l) (hg : w.grownBy w' row) (hB : B ≤ w.heap.size) (hne : some g ≠ row) : Byts w' B (.slice (some ⟨g, o, none⟩) n c) l := by
  obtain ⟨ad, c', hv, hle, hn0, h⟩ := h
  simp only [Value.slice.injEq] at hv
  obtain ⟨rfl, rfl, rfl⟩ := hv
  refine ⟨_, _, rfl, hle, hn0, fun hn => ?_⟩
  obtain ⟨b, o', ha, hb, hcell⟩ := h hn
  simp only [Option.some.injEq, Addr.mk.injEq, and_true] at ha
  obtain ⟨rfl, rfl⟩ := ha
  exact ⟨g, o, rfl, hb, fun j hj => (World.cell?_of_block (a := ⟨g, o + j, none⟩) (hg.block g (Nat.lt_of_lt_of_le hb hB) hne)).trans (hcell j hj)⟩

theorem beq_str (la lb : List UInt8) : ((str la).toList == (str lb).toList) = decide (la = lb) := by
  rw [ByteArray.toList_eq, ByteArray.toList_eq, str_toList, str_toList, Bool.eq_iff_iff]
  simp

set_option maxRecDepth 100000 in
theorem Equal_any (va vb : Value) (la lb : List UInt8) (B1 B2 : Nat) (w : World) (ha : Byts w B1 va la) (hb : Byts w B2 vb lb) :
    Calls Try.prog 10 #[va, vb] w fun e w' => e = .returned (.bool (decide (la = lb))) ∧ w' = w := by
  have h1 := conv_byts ha
  have h2 := conv_byts hb
  go_enter Try.func10, Try.ntmps10
  go_wp2
  go_ret
  refine ⟨?_, rfl⟩
  rw [← beq_str]; rfl

theorem Byts.head {w : World} {B : Nat} {ad : Option Addr} {n c : Nat} {l : List UInt8} (h : Byts w B (.slice ad n c) l) (m : Nat) (hm : m ≤ l.length) : Byts w B (.slice ad m c) (l.take m) := by
  obtain ⟨ad', c', hv, hle, hn0, h⟩ := h
  simp only [Value.slice.injEq] at hv
  obtain ⟨rfl, rfl, rfl⟩ := hv
  have e : (l.take m).length = m := by simp; omega
  refine ⟨ad, c, by rw [e], by omega, hn0, fun hne => ?_⟩
  have hl : l ≠ [] := by intro h0; subst h0; simp at hne
  obtain ⟨b, o, ha, hb, hcell⟩ := h hl
  refine ⟨b, o, ha, hb, fun j hj => ?_⟩
  rw [hcell j (by omega)]
  simp [List.getD, show j < m by omega]

theorem addr_add_zero (x : Addr) : x.add 0 = x := rfl
theorem map_add_zero (ad : Option Addr) : ad.map (fun x => x.add 0) = ad := by cases ad <;> rfl
theorem size5 (w : World) : (Go.sizeOf 5).run Try.prog w = .ok 1 w := by
  obtain ⟨i0, hi, hz0, hz1, hz2⟩ := info_parts info5
  simp [sizeOf, typeInfo, hi, hz1]
theorem elem24 : Try.prog.elem 24 = 5 := by simp [Program.elem, Try.underlying24]

theorem slice_head (W : World) (ad : Option Addr) (n c m : Nat) (hm : m ≤ c) :
    (Instr.slice 24 (.slice ad n c) none (some (.int .i64 (m : Int))) none).run Try.prog W = .ok (.slice ad m c) W := by
  rw [run_slice_h W 24 ad n c (by rw [elem24]; exact Try.underlying24) .i64 (m : Int) (by omega) (by omega), elem24, size5]
  simp [Result.andThen, sliced, addr_add_zero]

set_option maxRecDepth 100000 in
theorem HasPrefix_any (va vb : Value) (la lb : List UInt8) (B1 B2 : Nat) (w : World) (ha : Byts w B1 va la) (hb : Byts w B2 vb lb) :
    Calls Try.prog 30 #[va, vb] w fun e w' => e = .returned (.bool (decide (la.take lb.length = lb))) ∧ w' = w := by
  have ha' := ha
  have hb' := hb
  obtain ⟨ad, c, rfl, hle, _, _⟩ := ha
  obtain ⟨bd, d, rfl, _, _, _⟩ := hb
  by_cases h : lb.length ≤ la.length
  · have h' : (lb.length : Int) ≤ (la.length : Int) := by omega
    have hsl := slice_head w ad la.length c lb.length (by omega)
    go_enter Try.func30, Try.ntmps30
    go_wp2_with (go_at_call 10; go_must (refine (Equal_any _ _ (la.take lb.length) lb B1 B2 _ (ha'.head lb.length h) hb').mono ?_); rintro e w' ⟨rfl, rfl⟩)
    go_ret
    exact ⟨rfl, rfl⟩
  · have h' : ¬ (lb.length : Int) ≤ (la.length : Int) := by omega
    go_enter Try.func30, Try.ntmps30
    go_wp2
    go_ret
    refine ⟨?_, rfl⟩
    have e : decide (la.take lb.length = lb) = false := by
      rw [decide_eq_false_iff_not]
      intro h2
      have := congrArg List.length h2
      simp at this
      omega
    rw [e]
    first | rfl | simp [h']

theorem bytes_ne {s t : ByteArray} (h : ¬ s = t) : (s.toList == t.toList) = false := by
  rw [beq_eq_false_iff_ne, ByteArray.toList_eq, ByteArray.toList_eq]
  intro e
  exact h (ByteArray.ext (Array.toList_inj.1 e))

theorem Strs.open {w : World} {B : Nat} {ad : Option Addr} {n c : Nat} {l : List ByteArray} (h : Strs w B (.slice ad n c) l) (hne : l ≠ []) :
    ∃ b o, ad = some ⟨b, o, none⟩ ∧ b < B ∧ ∀ j, j < l.length → w.cell? ⟨b, o + j, none⟩ = some (.string (l.getD j .empty)) := by
  obtain ⟨ad', c', hv, _, _, h⟩ := h
  simp only [Value.slice.injEq] at hv
  obtain ⟨rfl, _, rfl⟩ := hv
  exact h hne

theorem take_eq_succ {la lb : List ByteArray} {k : Nat} (ha : k < la.length) (hb : k < lb.length) (h : la.take k = lb.take k) (hk : la.getD k .empty = lb.getD k .empty) : la.take (k + 1) = lb.take (k + 1) := by
  rw [List.take_succ_eq_append_getElem ha, List.take_succ_eq_append_getElem hb, h]
  simp only [List.getD, List.getElem?_eq_getElem ha, List.getElem?_eq_getElem hb, Option.getD_some] at hk
  rw [hk]

set_option maxRecDepth 100000 in
set_option maxHeartbeats 1000000 in
theorem EqualS_any (va vb : Value) (la lb : List ByteArray) (B1 B2 : Nat) (w : World) (ha : Strs w B1 va la) (hb : Strs w B2 vb lb) (hl : la.length ≤ 1099511627776) :
    Calls Try.prog 24 #[va, vb] w fun e w' => e = .returned (.bool (decide (la = lb))) ∧ ∃ q, w' = w.drewN q := by
  have ha' := ha
  have hb' := hb
  obtain ⟨ad, c, rfl, _, _, _⟩ := ha
  obtain ⟨bd, d, rfl, _, _, _⟩ := hb
  by_cases h : la.length = lb.length
  · have h0 : ((la.length : Int) != (lb.length : Int)) = false := by rw [bne_eq_false_iff_eq]; omega
    have Hlen : Hid (la.length = lb.length) := h
    clear h
    go_enter Try.func24, Try.ntmps24
    go_wp2
    go_loopw [13] (fun i wr => ∃ k : Nat, k ≤ la.length ∧ i = .int .i64 (k : Int) ∧ la.take k = lb.take k ∧ ∃ q, wr = w.drewN q) (fun i _ => la.length - (intOf i).toNat)
    case atStart => exact ⟨0, by omega, rfl, by simp, 0, rfl⟩
    case round =>
      obtain ⟨k, hk, rfl, htk, q, rfl⟩ := hrel
      have Htk : Hid (la.take k = lb.take k) := htk
      clear htk
      by_cases hlt : k < la.length
      · have hltb : k < lb.length := by have := Hlen.out; omega
        obtain ⟨b1, o1, rfl, hb1, hc1⟩ := ha'.open (by intro h; subst h; simp at hlt)
        obtain ⟨b2, o2, rfl, hb2, hc2⟩ := hb'.open (by intro h; subst h; simp at hltb)
        have e1 := hc1 k hlt
        have e2 := hc2 k hltb
        obtain ⟨s, hs⟩ : ∃ s, s = la.getD k .empty := ⟨_, rfl⟩
        obtain ⟨t, ht⟩ : ∃ t, t = lb.getD k .empty := ⟨_, rfl⟩
        rw [← hs] at e1
        rw [← ht] at e2
        have Hs : Hid (s = la.getD k .empty) := hs
        have Ht : Hid (t = lb.getD k .empty) := ht
        have i1 : (k : Int) < (la.length : Int) := by omega
        have i2 : (k : Int) < (lb.length : Int) := by omega
        have i3 : (0 : Int) ≤ (k : Int) := by omega
        clear hs ht hc1 hc2 ha' hb'
        by_cases hst : s = t
        · have hst' : (s.toList == t.toList) = true := by rw [hst]; simp
          have Hst : Hid (s = t) := hst
          clear hst
          go_wp2
          go_quiet (fail)
          go_wp2
          refine ⟨⟨k + 1, by omega, by go_num, take_eq_succ hlt hltb Htk.out (by rw [← Hs.out, ← Ht.out]; exact Hst.out), _, rfl⟩, by simp [intOf]; omega⟩
        · have hst' : (s.toList == t.toList) = false := bytes_ne hst
          have Hst : Hid (s = t → False) := hst
          clear hst
          go_wp2
          go_quiet (fail)
          go_wp2
          go_ret
          refine ⟨?_, q + nq, World.drewN_drewN _ _ _⟩
          have e : decide (la = lb) = false := by
            rw [decide_eq_false_iff_not]; intro h; exact absurd (show s = t by rw [Hs.out, Ht.out, h]) Hst.out
          rw [e]; rfl
      · go_wp2
        go_ret
        refine ⟨?_, _, rfl⟩
        have e : decide (la = lb) = true := by
          rw [decide_eq_true_iff]
          have := Htk.out
          rwa [List.take_of_length_le (by omega), List.take_of_length_le (by have := Hlen.out; omega)] at this
        rw [e]; rfl
  · have h0 : ((la.length : Int) != (lb.length : Int)) = true := by rw [bne_iff_ne]; omega
    go_enter Try.func24, Try.ntmps24
    go_wp2
    go_ret
    refine ⟨?_, 0, rfl⟩
    have e : decide (la = lb) = false := by
      rw [decide_eq_false_iff_not]; intro h'; exact h (by rw [h'])
    rw [e]; rfl
end Go.Proofs.Ytoablejghckaeaa
