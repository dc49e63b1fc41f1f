/-
  THE WALK OF form.
-/
import Derived.Test.YtplfcpbjlhobeaaDForm
namespace Go.Proofs.Ytplfcpbjlhobeaa
open Go.RowKit

set_option maxRecDepth 100000 in
set_option maxHeartbeats 2000000 in
theorem form_any (n : Cm.Nd) (v : Value) (B : Nat) (w : World) (hv : NdS w B v n) (hB : B ≤ w.heap.size) (hl : n.items.length ≤ 1000000) (hf : Cm.Fit n) :
    Calls Try.prog 39 #[v] w fun e w' => ∃ v', e = .returned v' ∧ Own w' w.heap.size v' (Cm.form n) ∧ Below w.heap.size w w' := by
  have Hpart : Hid (∀ (i : Nat) (W : World) (u : Value) (xs : List UInt8), i < n.items.length → Below w.heap.size w W → w.heap.size + 1 ≤ W.heap.size → Own W (w.heap.size + 1) u xs → xs.length ≤ 1099511000000 →
      Calls Try.prog 57 #[u, v, .int .i64 (i : Int)] W fun e w' => ∃ v', e = .returned v' ∧ Own w' (w.heap.size + 1) v' (xs ++ Cm.part n.leaf (n.kids.getD (i + 1) 0) (n.items.getD i Cm.zero)) ∧ Below (w.heap.size + 1) W w') :=
    fun i W u xs hi hb hs ho hx => appendPart_any n i hi v B (w.heap.size + 1) u xs W (hv.below hb hB) (by omega) hl hf ho hx hs
  have Hkid : Hid (n.leaf = false → ∃ kb ko vi d, v = .agg #[.bool n.leaf, vi, .slice (some ⟨kb, ko, none⟩) n.kids.length d] ∧ kb < B ∧ w.cell? ⟨kb, ko, none⟩ = some (.int .i64 (n.kids.getD 0 0)) ∧ 0 < n.kids.length ∧ 0 ≤ n.kids.getD 0 0 ∧ n.kids.getD 0 0 ≤ 65535) := by
    intro h
    obtain ⟨vi, vk, rfl, _, ⟨kd, d, rfl, hd, hkn, hki⟩⟩ := hv
    have h2 := (hf.2 h).2
    obtain ⟨kb, ko, rfl, hkb, hkc⟩ := hki (by intro h; rw [h] at h2; simp at h2)
    have h3 := kid_ok hf h (i := 0) (by omega)
    exact ⟨kb, ko, vi, d, rfl, hkb, hkc 0 (by omega), by omega, h3.1, h3.2⟩
  have Hps : Hid (∀ k, k ≤ n.items.length → (Cm.parts n k).length ≤ 130 * k) := fun k hk => parts_le hf hk
  have Hhl : Hid _ := Cm.head_length n
  obtain ⟨vi, vk, rfl, ⟨ad, c, rfl, hc, hn, -⟩, ⟨kd, d, rfl, hd, hkn, -⟩⟩ := hv
  clear hf
  generalize hlf : n.leaf = lf at *
  have Hlf : Hid (n.leaf = lf) := hlf
  clear hlf
  have hb0 := (Below.refl w.heap.size w).alloc (Nat.le_refl _) (.cells #[.bool lf, .slice ad n.items.length c, .slice kd n.kids.length d] 28)
  have hx0 := heap_alloc_new w (.cells #[.bool lf, .slice ad n.items.length c, .slice kd n.kids.length d] 28)
  have hs0 : w.heap.size + 1 = (w.alloc (.cells #[.bool lf, .slice ad n.items.length c, .slice kd n.kids.length d] 28)).heap.size := by simp
  go_enter Try.func39, Try.ntmps39
  go_upto_region 1 with fail
  generalize w.alloc (.cells #[.bool lf, .slice ad n.items.length c, .slice kd n.kids.length d] 28) = W at *
  obtain ⟨n0, n1, n2⟩ := cells3_of hx0
  go_wp2_with fail
  refine (appendHead_any lf n.items.length (by omega) (w.heap.size + 1) _ [] _ (Own.nil _ _) (by simp) (by omega)).mono ?_
  rintro e w1 ⟨v1, rfl, ho1, hb1⟩
  replace hx0 := (hb1.block w.heap.size (by omega)).trans hx0
  replace hb0 := hb0.trans (hb1.mono (by omega))
  have hs1 : w.heap.size + 1 ≤ w1.heap.size := by have := hb1.size; omega
  clear hb1 n0 n1 n2 hs0
  obtain ⟨n0, n1, n2⟩ := cells3_of hx0
  go_upto_if 13 with fail
  go_cut [3] (fun t wx => Own wx (w.heap.size + 1) t (Cm.head n) ∧ wx.heap[w.heap.size]? = some (.cells #[.bool lf, .slice ad n.items.length c, .slice kd n.kids.length d] 28 (0, 0)) ∧ Below w.heap.size w wx ∧ w.heap.size + 1 ≤ wx.heap.size)
  case first =>
    cases lf with
    | true =>
      have Hh : Hid (Cm.head n = [] ++ [1] ++ Wm.putU n.items.length) := by show _ = _; rw [form_head_leaf n Hlf.out]; rfl
      rw [if_pos rfl] at ho1
      clear Hpart Hkid
      go_wp2
      go_meet
      refine ⟨?_, hx0, hb0, hs1⟩
      rw [Hh.out]
      exact ho1
    | false =>
      have Hh : Hid (Cm.head n = [] ++ [2] ++ Wm.putU n.items.length ++ Cm.two (n.kids.getD 0 0)) := by show _ = _; rw [form_head_inner n Hlf.out]; rfl
      rw [if_neg (by simp)] at ho1
      obtain ⟨kb, ko, vi', d', hva, hkb, hkc, hkl, hk0, hk1⟩ := Hkid.out rfl
      simp only [Value.agg.injEq, Array.mk.injEq, List.cons.injEq, Value.slice.injEq, true_and, and_true] at hva
      obtain ⟨-, rfl, -⟩ := hva
      clear Hkid Hpart
      obtain ⟨k0, hk0e⟩ : ∃ k0, n.kids.getD 0 0 = k0 := ⟨_, rfl⟩
      rw [hk0e] at hkc hk0 hk1 Hh
      clear hk0e
      have ck := (hb0.cell (p := ⟨kb, ko, none⟩) (Nat.lt_of_lt_of_le hkb hB)).trans hkc
      have i0 : (0 : Int) < (n.kids.length : Int) := by omega
      have Hl1 : Hid (([] ++ [2] ++ Wm.putU n.items.length : List UInt8).length ≤ 1099511627000) := by have := (Wm.putU_length n.items.length).2; show _ ≤ _; simp; omega
      clear hkc hkl
      go_wp2_with fail
      refine (appendPage_any k0 hk0 hk1 (w.heap.size + 1) _ _ _ ho1 Hl1.out hs1).mono ?_
      rintro e w2 ⟨v2, rfl, ho2, hb2⟩
      replace hx0 := (hb2.block w.heap.size (by omega)).trans hx0
      replace hb0 := hb0.trans (hb2.mono (by omega))
      have hs2 := hb2.size
      go_wp2
      go_meet
      refine ⟨?_, hx0, hb0, by omega⟩
      rw [Hh.out]
      exact ho2
  case rest =>
    obtain ⟨hoc, hxc, hbc, hsc⟩ := hcut
    clear hx0 hb0 ho1 n0 n1 n2 hs1 Hkid
    obtain ⟨n0, n1, n2⟩ := cells3_of hxc
    go_wp2
    clear n0 n1 n2
    go_loopw [3, 23] (fun u i wr => ∃ k : Nat, k ≤ n.items.length ∧ i = .int .i64 (k : Int) ∧ Own wr (w.heap.size + 1) u (Cm.head n ++ Cm.parts n k) ∧ wr.heap[w.heap.size]? = some (.cells #[.bool lf, .slice ad n.items.length c, .slice kd n.kids.length d] 28 (0, 0)) ∧ Below w.heap.size w wr ∧ w.heap.size + 1 ≤ wr.heap.size)
      (fun _ i _ => n.items.length - (intOf i).toNat)
    case atStart => exact ⟨0, Nat.zero_le _, rfl, by simpa [Cm.parts] using hoc, hxc, hbc, hsc⟩
    case round =>
      obtain ⟨k, hkl, rfl, hor, hxr, hbr, hsr⟩ := hrel
      clear hoc hxc hbc hsc
      obtain ⟨n0, n1, n2⟩ := cells3_of hxr
      by_cases hlt : k < n.items.length
      · go_wp2_with fail
        refine (Hpart.out k _ _ _ hlt hbr hsr hor ?_).mono ?_
        · have := Hps.out k hkl
          have := Hhl.out
          rw [List.length_append]
          omega
        rintro e w2 ⟨v2, rfl, ho2, hb2⟩
        replace hxr := (hb2.block w.heap.size (by omega)).trans hxr
        replace hbr := hbr.trans (hb2.mono (by omega))
        have hs2 := hb2.size
        go_wp2
        refine ⟨⟨k + 1, by omega, by go_num, ?_, hxr, hbr, by omega⟩, by simp [intOf]; omega⟩
        rw [Cm.parts_succ, ← List.append_assoc, Hlf.out]
        exact ho2
      · obtain rfl : k = n.items.length := by omega
        go_wp2
        go_ret
        exact ⟨_, rfl, hor.low' (by omega), hbr⟩

end Go.Proofs.Ytplfcpbjlhobeaa
