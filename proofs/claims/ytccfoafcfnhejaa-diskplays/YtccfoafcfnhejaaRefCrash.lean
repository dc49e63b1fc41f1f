/-
  The document's device: Crash.
-/
import Derived.Test.YtccfoafcfnhejaaRefClone
namespace Go.Proofs.Ytccfoafcfnhejaa
open Go.RowKit

def crBs (d : Dk.Dev) (kl : List Bool) (t k : Nat) : Nat → Option Dk.Blk := fun j => if j < k then some (d.crB kl t j) else some (d.stab j)
theorem rank_succ (d : Dk.Dev) (k : Nat) : d.rank (k + 1) = if (d.di k).isSome then d.rank k + 1 else d.rank k := by
  unfold Dk.Dev.rank
  rw [List.range_succ, List.filter_append, List.length_append]
  by_cases h : (d.di k).isSome = true
  · simp [h]
  · simp [h]
theorem rank_le (d : Dk.Dev) (k : Nat) : d.rank k ≤ k := by
  unfold Dk.Dev.rank
  exact Nat.le_trans (List.length_filter_le _ _) (by simp)
theorem crBs_upd (d : Dk.Dev) (kl : List Bool) (t k : Nat) {X : Dk.Blk} (h : d.crB kl t k = X) (j : Nat) : updN (crBs d kl t k) k (some X) j = crBs d kl t (k + 1) j := by
  unfold updN crBs
  by_cases e : j = k
  · subst e; rw [if_pos rfl, if_pos (by omega), h]
  · rw [if_neg e]
    by_cases l : j < k
    · rw [if_pos l, if_pos (by omega)]
    · rw [if_neg l, if_neg (by omega)]
theorem crBs_same (d : Dk.Dev) (kl : List Bool) (t k : Nat) (h : d.crB kl t k = d.stab k) (j : Nat) : crBs d kl t k j = crBs d kl t (k + 1) j := by
  unfold crBs
  by_cases e : j = k
  · subst e; rw [if_neg (by omega), if_pos (by omega), h]
  · by_cases l : j < k
    · rw [if_pos l, if_pos (by omega)]
    · rw [if_neg l, if_neg (by omega)]
theorem flC_same (d : Dk.Dev) (k : Nat) (h : d.di k = none) (j : Nat) : flC d k j = flC d (k + 1) j := by
  unfold flC
  by_cases e : j = k
  · subst e; rw [if_neg (by omega), if_pos (by omega), h]
  · by_cases l : j < k
    · rw [if_pos l, if_pos (by omega)]
    · rw [if_neg l, if_neg (by omega)]
theorem RB.set {w : World} {g c : Nat} {X : Dk.Blk} (h : RB w g c X) {j : Nat} (_hj : j < 256) (b : UInt8) : RB (w.setCell ⟨g, j, none⟩ (.int .u8 (b.toNat : Int))) g c (X.set j b) := by
  obtain ⟨cur, h1, h2, h3, h4⟩ := h
  refine ⟨_, heap_setCell_at h1 j _, ?_, by rw [List.length_set]; exact h3, h4⟩
  rw [Array.toList_setIfInBounds, List.take_set, h2]
  simp [bV]
theorem RB.free {w : World} {g c : Nat} {X : Dk.Blk} (h : RB w g c X) (j : Nat) : w.frozen? ⟨g, j, none⟩ = false := by
  obtain ⟨cur, h1, _⟩ := h
  simp [World.frozen?, h1]
theorem splice_set {X Y : Dk.Blk} (hX : X.length = 256) (hY : Y.length = 256) {j : Nat} (hj : j < 256) : (X.take j ++ Y.drop j).set j (X.getD j 0) = X.take (j + 1) ++ Y.drop (j + 1) := by
  have h1 : (X.take j).length = j := by rw [List.length_take]; omega
  have h2 : X.take (j + 1) = X.take j ++ [X.getD j 0] := by
    rw [List.take_add_one, List.getElem?_eq_getElem (by omega : j < X.length)]
    simp [List.getD, List.getElem?_eq_getElem (by omega : j < X.length)]
  rw [h2, List.set_append, if_neg (by omega), h1, Nat.sub_self, List.drop_eq_getElem_cons (by omega : j < Y.length), List.set_cons_zero, List.append_assoc, List.singleton_append]
theorem splice_len {X Y : Dk.Blk} (hX : X.length = 256) (hY : Y.length = 256) {j : Nat} (hj : j ≤ 256) : (X.take j ++ Y.drop j).length = 256 := by
  rw [List.length_append, List.length_take, List.length_drop]
  omega
theorem Bols.turn {w w' : World} {B : Nat} {v : Value} {l : List Bool} {S : List Nat} (h : Bols w B v l) (hB : B ≤ w.heap.size) (ht : Turn S w w') (hap : l ≠ [] → ∀ k, v.ownBlock = some k → k ∉ S) : Bols w' B v l := by
  obtain ⟨ad, c, rfl, hle, h⟩ := h
  refine ⟨ad, c, rfl, hle, fun hne => ?_⟩
  obtain ⟨b, o, rfl, hlt, hc⟩ := h hne
  exact ⟨b, o, rfl, hlt, fun j hj => (World.cell?_of_block (a := ⟨b, o + j, none⟩) (ht.block b (by omega) (hap hne b rfl))).trans (hc j hj)⟩

set_option maxRecDepth 100000 in
set_option maxHeartbeats 4000000 in
theorem RCrash_any (w : World) (y : RPl) (d : Dk.Dev) (h : RHas w y d) (vk : Value) (kl : List Bool) (B : Nat) (hv : Bols w B vk kl) (hB : B ≤ w.heap.size) (hap : kl ≠ [] → ∀ k, vk.ownBlock = some k → k ∉ y.bl) (torn : Int) (t : Nat) (ht : min (max torn 0) 256 = (t : Int)) :
    Calls Try.prog 46 #[ptr y.p, vk, .int .i64 torn] w fun e w' => e = .returned (.tuple #[]) ∧ (∃ y', RHas w' y' (d.cr kl t) ∧ RNext w y y') ∧ Turn y.bl w w' := by
  have hm0 : RMem w y d.st.length d.op (crBs d kl t 0) (flC d 0) := h.m.congr (fun _ _ => rfl) (fun _ _ => rfl)
  have HLA : Hid (∀ i b, d.di i = some b → y.last = d.la) := h.t.la
  have HOK : Hid (Dk.Ok d) := h.ok
  have hn : d.st.length ≤ 4096 := h.ok.hi
  have ht256 : t ≤ 256 := by omega
  have HT : Hid (∀ j : Nat, j < 256 → ((j : Int) < torn ↔ j < t)) := fun j hj => by omega
  have HV : Hid (∀ w', Turn y.bl w w' → Bols w' B vk kl) := fun w' h' => hv.turn hB h' hap
  obtain ⟨adk, ck, rfl, hkc, hkk⟩ := hv
  clear h hap ht hkk hkc
  unfold ptr
  go_enter Try.func46, Try.ntmps46
  go_wp2
  go_loopw [6, 7] (fun t6 t7 wr => ∃ k : Nat, k ≤ d.st.length ∧ t6 = .int .i64 (d.rank k : Int) ∧ t7 = .int .i64 (k : Int) ∧ RMem wr y d.st.length d.op (crBs d kl t k) (flC d k) ∧ Turn y.bl w wr) (fun _ t7 _ => d.st.length - (RowKit.intOf t7).toNat)
  case atStart => exact ⟨0, Nat.zero_le _, rfl, rfl, hm0, Turn.refl _ _⟩
  case round =>
    clear hm0
    obtain ⟨k, hkn, rfl, rfl, hm, htn⟩ := hrel
    obtain ⟨c0, c1, c2, -, c4, c5, fz⟩ := hm.cells
    by_cases hlt : k < d.st.length
    · have hk0 : (0 : Int) ≤ (k : Int) := by omega
      have hk1 : (k : Int) < (d.st.length : Int) := by omega
      have HRS : Hid (d.rank (k + 1) = if (d.di k).isSome then d.rank k + 1 else d.rank k) := rank_succ d k
      have hrk := rank_le d k
      obtain ⟨vc, hvc, hcc⟩ := hm.hc.cell hlt
      have ecc : flC d k k = d.di k := if_neg (Nat.lt_irrefl k)
      rw [ecc] at hcc
      cases hd : d.di k with
      | none =>
        rw [hd] at hcc
        obtain rfl : vc = .slice none 0 0 := hcc
        have HN : Hid (RMem wr y d.st.length d.op (crBs d kl t (k + 1)) (flC d (k + 1))) := hm.congr (fun j _ => crBs_same d kl t k (by unfold Dk.Dev.crB; rw [hd]) j) (fun j _ => flC_same d k hd j)
        clear hm
        have hnil := fun W : World => Lib.run_eql_slice_nil (P := Try.prog) W 27 5 none 0 0 0 0 Try.underlying27
        go_wp2
        go_roundw
        case rel => exact ⟨k + 1, by omega, by rw [HRS.out, hd]; rfl, by go_num, HN.out, htn⟩
        case measure => simp [RowKit.intOf]; omega
      | some X =>
        rw [hd] at hcc
        obtain ⟨gx, cx, rfl, hRX⟩ := hcc
        obtain ⟨vb, hvb, hcb⟩ := hm.hb.cell hlt
        have ecb : crBs d kl t k k = some (d.stab k) := if_neg (Nat.lt_irrefl k)
        rw [ecb] at hcb
        obtain ⟨gb, cb, rfl, hRB⟩ := hcb
        have hfb := hm.hb.free k
        have HM : Hid (RMem wr y d.st.length d.op (crBs d kl t k) (flC d k)) := hm
        have HTN : Hid (Turn y.bl w wr) := htn
        clear hm htn
        have hnil := fun W : World => Lib.run_eql_slice_nil (P := Try.prog) W 27 5 (some ⟨gx, 0, none⟩) 256 cx 0 0 Try.underlying27
        obtain ⟨kv, hkv⟩ : ∃ kv, kl.getD (d.rank k) false = kv := ⟨_, rfl⟩
        have HKV : Hid (kl.getD (d.rank k) false = kv) := hkv
        go_upto_region 5 with fail
        go_cut [36] (fun t36 w' => t36 = .bool kv ∧ w' = wr)
        case first =>
          by_cases hkl : d.rank k < kl.length
          · obtain ⟨ad', c', e', _, hcl⟩ := HV.out wr HTN.out
            simp only [Value.slice.injEq] at e'
            obtain ⟨rfl, _, rfl⟩ := e'
            obtain ⟨kb, ko, rfl, _, hcl⟩ := hcl (by intro e; rw [e] at hkl; simp at hkl)
            have hkcell := hcl (d.rank k) hkl
            rw [hkv] at hkcell
            have hr0 : (0 : Int) ≤ (d.rank k : Int) := by omega
            have hr1 : (d.rank k : Int) < (kl.length : Int) := by omega
            clear hcl hRX hRB hkv
            go_wp2
            go_meet
            exact ⟨rfl, rfl⟩
          · have hkv' : kl.getD (d.rank k) false = false := by simp [List.getD, List.getElem?_eq_none (show kl.length ≤ d.rank k by omega)]
            obtain rfl : kv = false := hkv.symm.trans hkv'
            have hr1 : (kl.length : Int) ≤ (d.rank k : Int) := by omega
            clear hkl hRX hRB hkv hkv'
            go_wp2
            go_meet
            exact ⟨rfl, rfl⟩
        case rest =>
          obtain ⟨rfl, hww⟩ := hcut
          rw [hww]
          clear hww hkv
          go_upto_if 36 with fail
          go_cut [37] (fun _ w' => RMem w' y d.st.length d.op (crBs d kl t (k + 1)) (flC d k) ∧ Turn y.bl w w')
          case first =>
            cases kv with
            | true =>
              have HN : Hid (RMem (wr.drew.setCell ⟨y.b, k, none⟩ (.slice (some ⟨gx, 0, none⟩) 256 cx)) y d.st.length d.op (crBs d kl t (k + 1)) (flC d k) ∧ Turn y.bl w (wr.drew.setCell ⟨y.b, k, none⟩ (.slice (some ⟨gx, 0, none⟩) 256 cx))) :=
                ⟨(HM.out.drew.setB hlt (o := some X) ⟨gx, cx, rfl, hRX⟩).congr (fun j _ => crBs_upd d kl t k (by unfold Dk.Dev.crB; rw [hd]; simp only [HKV.out, if_true]) j) (fun _ _ => rfl), HTN.out.drew.join (turn_rset _ y (by simp [RPl.bl]) k _)⟩
              clear hRX hRB
              go_wp2_with fail
              go_region
              all_goals go_wp2
              all_goals go_meet
              all_goals exact HN.out
            | false =>
              by_cases hl : (k : Int) = y.last
              · have hXl : X.length = 256 := by obtain ⟨_, _, _, e, _⟩ := hRX; exact e
                have hYl : (d.stab k).length = 256 := by obtain ⟨_, _, _, e, _⟩ := hRB; exact e
                have c2' : wr.cell? ⟨y.p, 2, none⟩ = some (.int .i64 (k : Int)) := by rw [hl]; exact c2
                have hcrB : d.crB kl t k = X.take t ++ (d.stab k).drop t := by
                  unfold Dk.Dev.crB
                  rw [hd]
                  simp only [HKV.out, if_pos (show (k : Int) = d.la by rw [← HLA.out _ _ hd]; exact hl)]
                  rfl
                have HCRB : Hid (d.crB kl t k = X.take t ++ (d.stab k).drop t) := hcrB
                have HXL : Hid (X.length = 256 ∧ (d.stab k).length = 256) := ⟨hXl, hYl⟩
                have HRX : Hid (RB wr gx cx X) := hRX
                have h0 : Own (wr.alloc (.cells #[] 5)) wr.heap.size (.slice (some ⟨wr.heap.size, 0, none⟩) 0 0) [] := World.ownsRow_lit (size := 1) wr #[] 0 (Nat.le_refl _) (by decide) rfl
                have Hl : Hid (([] : List UInt8).length + (d.stab k).length ≤ 1099511627800) := by show _ ≤ _; rw [hYl]; decide
                have hby := hRB.byts.alloc (Nat.le_refl _) (.cells #[] 5)
                have hplt : y.p < wr.heap.size := lt_of_heap HM.out.hp
                have hblt : y.b < wr.heap.size := HM.out.hb.lt
                clear c2 hcrB hXl hRX hRB hl hYl
                go_wp2_with (at_builtin; go_must (refine wpList_append_byts rfl (.tmp 56) (.tmp 63) rfl wr.heap.size wr.heap.size _ _ [] (d.stab k) rfl h0 rfl hby Hl (by simp) ?_))
                intro v' w4 h1 h2
                have hbel4 : Below wr.heap.size wr w4 := ((Below.refl _ wr).alloc (Nat.le_refl _) _).grown h2 (by simp) fun q hq => (World.ownsRow.lt h0 q hq).1
                obtain ⟨g, cap, rfl, hgB, hRg⟩ : ∃ g cap, v' = .slice (some ⟨g, 0, none⟩) 256 cap ∧ wr.heap.size ≤ g ∧ RB w4 g cap (d.stab k) := by
                  rcases h1.2 with ⟨_, h00⟩ | ⟨g, cap, cur, rfl, hb, hg, q1, q2, q3, q4⟩
                  · rw [HXL.out.2] at h00; omega
                  · rw [HXL.out.2] at q1 q4
                    exact ⟨g, cap, by rw [HXL.out.2], hb, cur, hg, q4, HXL.out.2, q1⟩
                clear h1 h2 h0 hby Hl
                generalize wr = wo at *
                go_wp2
                go_loopw [9] (fun t9 wr => ∃ j : Nat, j ≤ t ∧ t9 = .int .i64 (j : Int) ∧ RB wr g cap (X.take j ++ (d.stab k).drop j) ∧ Below wo.heap.size wo wr) (fun t9 _ => t - (RowKit.intOf t9).toNat)
                case atStart => exact ⟨0, Nat.zero_le _, rfl, by simpa using hRg, hbel4⟩
                case round =>
                  clear hRg hbel4
                  obtain ⟨j, hjt, rfl, hRg, hbel⟩ := hrel
                  have hmwr := HM.out.below hbel
                  obtain ⟨s0, s1, -, -, -, -, sfz⟩ := hmwr.cells
                  have svc : wr.cell? ⟨y.c, k, none⟩ = some (.slice (some ⟨gx, 0, none⟩) 256 cx) := (hbel.cell HM.out.hc.lt).trans hvc
                  by_cases hjlt : j < t
                  · have hj256 : j < 256 := by omega
                    have hj1 : (j : Int) < torn := (HT.out j hj256).2 hjlt
                    have hj2 : (j : Int) < (256 : Int) := by omega
                    have hj0 : (0 : Int) ≤ (j : Int) := by omega
                    have hcx : wr.cell? ⟨gx, j, none⟩ = some (.int .u8 ((X.getD j 0).toNat : Int)) := (hbel.cell HRX.out.lt).trans (HRX.out.cell hj256)
                    have hcg := hRg.cell hj256
                    have hfg := hRg.free j
                    have HN : Hid (RB (wr.setCell ⟨g, j, none⟩ (.int .u8 ((X.getD j 0).toNat : Int))) g cap (X.take (j + 1) ++ (d.stab k).drop (j + 1)) ∧ Below wo.heap.size wo (wr.setCell ⟨g, j, none⟩ (.int .u8 ((X.getD j 0).toNat : Int)))) := by
                      refine ⟨?_, hbel.setCell hgB _⟩
                      have := hRg.set hj256 (X.getD j 0)
                      rwa [splice_set HXL.out.1 HXL.out.2 hj256] at this
                    clear hRg hbel hmwr
                    generalize ((X.getD j 0).toNat : Int) = xb at *
                    generalize (((X.take j ++ (d.stab k).drop j).getD j 0).toNat : Int) = xo at *
                    go_wp2
                    go_roundw
                    case rel => exact ⟨j + 1, by omega, by go_num, HN.out.1, HN.out.2⟩
                    case measure => simp [RowKit.intOf]; omega
                  · obtain rfl : j = t := by omega
                    have HN : Hid (RMem (wr.setCell ⟨y.b, k, none⟩ (.slice (some ⟨g, 0, none⟩) 256 cap)) y d.st.length d.op (crBs d kl j (k + 1)) (flC d k) ∧ Turn y.bl w (wr.setCell ⟨y.b, k, none⟩ (.slice (some ⟨g, 0, none⟩) 256 cap))) :=
                      ⟨(hmwr.setB hlt (o := some (X.take j ++ (d.stab k).drop j)) ⟨g, cap, rfl, hRg⟩).congr (fun q _ => crBs_upd d kl j k HCRB.out q) (fun _ _ => rfl), (HTN.out.belowTrans hbel).join (turn_rset _ y (by simp [RPl.bl]) k _)⟩
                    obtain ⟨sub, hsb, -⟩ := hmwr.hb.cell hlt
                    have sfb := hmwr.hb.free k
                    clear hRg hbel hmwr
                    by_cases hj256 : j < 256
                    · have hj1 : ¬ (j : Int) < torn := fun h => Nat.lt_irrefl j ((HT.out j hj256).1 h)
                      go_wp2
                      go_meet
                      exact HN.out
                    · obtain rfl : j = 256 := by omega
                      by_cases hj1 : ((256 : Nat) : Int) < torn
                      · go_wp2
                        go_meet
                        exact HN.out
                      · go_wp2
                        go_meet
                        exact HN.out
              · have HN : Hid (RMem wr y d.st.length d.op (crBs d kl t (k + 1)) (flC d k)) := HM.out.congr (fun j _ => crBs_same d kl t k (by unfold Dk.Dev.crB; rw [hd]; simp only [HKV.out, if_neg (show ¬ (k : Int) = d.la by rw [← HLA.out _ _ hd]; exact hl)]; rfl) j) (fun _ _ => rfl)
                go_wp2
                go_meet
                exact ⟨HN.out, HTN.out⟩
          case rest =>
            obtain ⟨hm5, ht5⟩ := hcut
            obtain ⟨s0, s1, -, -, -, -, sfz⟩ := hm5.cells
            obtain ⟨sub, hsc, -⟩ := hm5.hc.cell hlt
            have sfc := hm5.hc.free k
            have HN : Hid (∀ W, W = wc.setCell ⟨y.c, k, none⟩ (.slice none 0 0) → RMem W y d.st.length d.op (crBs d kl t (k + 1)) (flC d (k + 1)) ∧ Turn y.bl w W) := fun W e => by
              rw [e]
              exact ⟨(hm5.setC hlt (v := .slice none 0 0) (o := none) rfl).congr (fun _ _ => rfl) (fun j _ => flC_succ d k j), ht5.join (turn_rset _ y (by simp [RPl.bl]) k _)⟩
            clear hm5 ht5
            go_wp2
            go_roundw
            case rel => exact ⟨k + 1, by omega, by rw [HRS.out, hd]; go_num, by go_num, (HN.out _ rfl).1, (HN.out _ rfl).2⟩
            case measure => simp [RowKit.intOf]; omega
    · obtain rfl : k = d.st.length := by omega
      have h1 := hm.setF 2 (.int .i64 (-1)) (op' := d.op) (-1) y.cut (by simp [rf])
      have h2 := h1.setV (Turn.refl _ _) (v := .slice none 0 0) (F := []) (World.ownsRow_nil _ 0 106 2)
      have h3 := h2.setF 5 (.int .i64 (-1)) (op' := d.op) (-1) (-1) (by simp [rf])
      have hfin : RHas (((wr.setCell ⟨y.p, 2, none⟩ (.int .i64 (-1))).setCell ⟨y.p, 4, none⟩ (.slice none 0 0)).setCell ⟨y.p, 5, none⟩ (.int .i64 (-1))) { y with fv := .slice none 0 0, fl := [], last := -1, cut := -1 } (d.cr kl t) := by
        refine ⟨?_, ⟨(fun _ _ e => by cases e), (fun _ _ => rfl), .inl ⟨rfl, rfl⟩⟩, Dk.cr_ok HOK.out kl t⟩
        have e : (d.cr kl t).st.length = d.st.length := by show ((List.range d.st.length).map _).length = _; rw [List.length_map, List.length_range]
        rw [e]
        refine h3.congr (fun j hj => ?_) (fun j hj => ?_)
        · unfold crBs
          rw [if_pos hj, Dk.mapRange_stab (d := d) (d' := d.cr kl t) rfl hj]
        · unfold flC
          rw [if_pos hj]
          rfl
      have HF : Hid (∀ W, W = ((wr.setCell ⟨y.p, 2, none⟩ (.int .i64 (-1))).setCell ⟨y.p, 4, none⟩ (.slice none 0 0)).setCell ⟨y.p, 5, none⟩ (.int .i64 (-1)) → (∃ y', RHas W y' (d.cr kl t) ∧ RNext w y y') ∧ Turn y.bl w W) := fun W e => by
        rw [e]
        refine ⟨⟨_, hfin, rfl, Nat.zero_le _, fun q hq => .inl ?_⟩, ((htn.join (turn_rset _ y (by simp [RPl.bl]) 2 _)).join (turn_rset _ y (by simp [RPl.bl]) 4 _)).join (turn_rset _ y (by simp [RPl.bl]) 5 _)⟩
        simp only [RPl.bl, Value.ownBlock, Option.toList_none, List.mem_cons, List.not_mem_nil, or_false] at hq ⊢
        rcases hq with rfl | rfl | rfl <;> simp
      clear h1 h2 h3 hfin hm htn
      go_wp2
      go_end0
      exact ⟨rfl, HF.out _ rfl⟩
end Go.Proofs.Ytccfoafcfnhejaa
