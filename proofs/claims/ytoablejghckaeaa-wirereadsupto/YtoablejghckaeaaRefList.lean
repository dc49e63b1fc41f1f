/-
  THE WALK OF THE DOCUMENT's ANSWER AskList.
-/
import Derived.Test.YtoablejghckaeaaRefAsks
import Derived.Test.YtoablejghckaeaaRefs
namespace Go.Proofs.Ytoablejghckaeaa
open Go.RowKit

theorem askN_drop (bs : List UInt8) (x : Nat) (m : Int) : askN (bs.drop x) 0 m = askN bs x m := by
  unfold askN
  rw [List.drop_zero]
  cases Wm.getU 0 (bs.drop x) with
  | none => rfl
  | some q =>
    obtain ⟨n, c⟩ := q
    simp only
    have e : (bs.drop x).length - (0 + c) = bs.length - (x + c) := by simp; omega
    rw [e]
theorem askT_drop (bs : List UInt8) (x : Nat) (m : Int) : askT (bs.drop x) 0 m = askT bs x m := by
  unfold askT
  rw [askN_drop, List.drop_drop, Nat.zero_add]
theorem askU_drop (bs : List UInt8) (x m : Nat) : askU (bs.drop x) 0 m = askU bs x m := by
  unfold askU
  rw [List.drop_zero]
theorem getTs_drop (bs : List UInt8) (x : Nat) (longest : Int) : ∀ n y, getTs (bs.drop x) longest n y = getTs bs longest n (x + y) := by
  intro n
  induction n with
  | zero => intro y; rfl
  | succ n ih =>
    intro y
    have e : askT (bs.drop x) y longest = askT bs (x + y) longest := by
      rw [← askT_drop (bs.drop x) y, List.drop_drop, askT_drop]
    simp only [getTs]
    rw [e, ih, Nat.add_assoc]
theorem askL_drop (bs : List UInt8) (x : Nat) (m longest : Int) : askL (bs.drop x) 0 m longest = askL bs x m longest := by
  unfold askL
  rw [askN_drop, getTs_drop, Nat.zero_add]

/-- what is left of bytes from a place on, as the walk makes it -/
theorem Byts.tail {W : World} {B g o cap : Nat} {t : List UInt8} (h : Byts W B (.slice (some ⟨g, o, none⟩) t.length cap) t) (x : Nat) (hx : x ≤ t.length) (hc : x < cap) :
    Byts W B (.slice (some ⟨g, o + x, none⟩) (t.length - x) (cap - x)) (t.drop x) := by
  obtain ⟨ad, c', hv, hle, hn, h⟩ := h
  simp only [Value.slice.injEq] at hv
  obtain ⟨rfl, _, rfl⟩ := hv
  refine ⟨some ⟨g, o + x, none⟩, cap - x, by rw [List.length_drop], by rw [List.length_drop]; omega, (fun h => by cases h), fun hne => ?_⟩
  have htn : t ≠ [] := by intro e; subst e; simp at hne
  obtain ⟨b, o', ha, hb, hcell⟩ := h htn
  simp only [Option.some.injEq, Addr.mk.injEq, and_true] at ha
  obtain ⟨rfl, rfl⟩ := ha
  refine ⟨g, o + x, rfl, hb, fun j hj => ?_⟩
  rw [List.length_drop] at hj
  have := hcell (x + j) (by omega)
  rw [← Nat.add_assoc] at this
  rw [this]
  simp [List.getD, List.getElem?_drop]
theorem Byts.none_left (W : World) (B : Nat) (a : Addr) : Byts W B (.slice (some a) 0 0) [] := ⟨some a, 0, rfl, Nat.le_refl _, (fun h => by cases h), fun h => absurd rfl h⟩

set_option maxRecDepth 100000 in
set_option maxHeartbeats 2000000 in
theorem AskList_any (v : Value) (bs : List UInt8) (B : Nat) (most longest : Int) (w : World) (hv : Byts w B v bs) (hB : B ≤ w.heap.size) (hbs : bs.length ≤ 1099511627776) (hmost : most ≤ 9223372036854775807) (hlong : longest ≤ 9223372036854775807) :
    Calls Try.prog 28 #[v, .int .i64 most, .int .i64 longest] w fun e w' => ∃ vl done, e = .returned (.tuple #[vl, .int .i64 ((askL bs 0 most longest).2.2 : Int), .int .i64 ((askL bs 0 most longest).2.1 : Int)]) ∧
      OwnS w' w.heap.size vl done ∧ toL done = (askL bs 0 most longest).1 ∧ Below w.heap.size w w' := by
  have hv0 := hv
  obtain ⟨ad, cap, rfl, hcap, _, _⟩ := hv0
  have Hmost : Hid (most ≤ 9223372036854775807) := hmost
  have Hlong : Hid (longest ≤ 9223372036854775807) := hlong
  clear hmost hlong
  go_enter Try.func28, Try.ntmps28
  go_wp2_with fail
  refine (ReadUint_any _ bs B _ hv hbs).mono ?_
  rintro e w' ⟨rfl, hww⟩
  rw [hww]
  clear hww w'
  cases hg : Wm.getU 0 bs with
  | none =>
    have Hask : Hid (askL bs 0 most longest = ([], 7, 0)) := by show _ = _; simp [askL, askN, hg]
    rw [show rdU bs = (0, 0) by simp [rdU, hg]]
    clear hg
    go_wp2
    go_ret3
    rw [Hask.out]
    exact ⟨_, [], rfl, OwnS.nil _ _, rfl, Below.refl _ _⟩
  | some q =>
    obtain ⟨n, c⟩ := q
    obtain ⟨_, hcl, hc, _⟩ := Wm.put_get hg
    rw [show rdU bs = (n, c) by simp [rdU, hg]]
    have hc' : ((c : Int) == 0) = false := by rw [beq_eq_false_iff_ne]; omega
    by_cases hneg : most < 0
    · have Hask : Hid (askL bs 0 most longest = ([], 3, 0)) := by show _ = _; simp [askL, askN, hg, hneg]
      clear hg
      go_wp2
      go_ret3
      rw [Hask.out]
      exact ⟨_, [], rfl, OwnS.nil _ _, rfl, Below.refl _ _⟩
    · have hw : IntKind.u64.wrap most = most := u64_wrap_pos (by omega) (by have := Hmost.out; omega)
      by_cases hlong : most < (n : Int)
      · have Hask : Hid (askL bs 0 most longest = ([], 3, 0)) := by show _ = _; simp [askL, askN, hg, hlong]
        clear hg
        go_wp2
        go_ret3
        rw [Hask.out]
        exact ⟨_, [], rfl, OwnS.nil _ _, rfl, Below.refl _ _⟩
      · have hcl' : (c : Int) ≤ (bs.length : Int) := by omega
        have hw2 : IntKind.u64.wrap ((bs.length : Int) - (c : Int)) = (bs.length : Int) - (c : Int) := u64_wrap_pos (by omega) (by omega)
        by_cases hleft : bs.length - c < n
        · have Hask : Hid (askL bs 0 most longest = ([], 7, 0)) := by show _ = _; simp [askL, askN, hg, hneg, hlong, hleft]
          have hleft' : (bs.length : Int) - (c : Int) < (n : Int) := by omega
          clear hg
          go_wp2
          go_ret3
          rw [Hask.out]
          exact ⟨_, [], rfl, OwnS.nil _ _, rfl, Below.refl _ _⟩
        · have hN : askN bs 0 most = (n, 0, c) := by simp [askN, hg, hneg, hlong, hleft]
          have Hask : Hid (askL bs 0 most longest = glue [] c (getTs bs longest n c)) := by
            show _ = _
            unfold askL glue
            rw [hN]; simp only [if_true, Nat.zero_add, List.nil_append]
          have hleft' : ¬ (bs.length : Int) - (c : Int) < (n : Int) := by omega
          have hnn : (n : Int) ≤ 1099511627776 := by omega
          obtain ⟨g, o, had, hgl, _⟩ := hv.open (by intro h; subst h; simp at hcl; omega)
          subst had
          clear hg hN
          generalize hR : askL bs 0 most longest = R at *
          have HR : Hid (askL bs 0 most longest = R) := hR
          clear hR
          go_wp2
          go_loopw [10, 11, 12] (fun at' vo i wr => ∃ (done : List ByteArray) (x : Nat), at' = .int .i64 (x : Int) ∧ i = .int .i64 (done.length : Int) ∧ x ≤ bs.length ∧ OwnS wr w.heap.size vo done ∧ done.length ≤ n ∧ Below w.heap.size w wr ∧
              R = glue (toL done) x (getTs bs longest (n - done.length) x)) (fun _ _ i _ => n - (intOf i).toNat)
          case atStart => exact ⟨[], c, rfl, rfl, hcl, OwnS.nil _ _, by simp, Below.refl _ _, Hask.out⟩
          case round =>
            obtain ⟨done, x, rfl, rfl, hx, hso, hdn, hbr, hres⟩ := hrel
            have hsr := hbr.size
            have hvr := hv.below hbr hB
            clear Hask
            by_cases hlt : done.length < n
            · have hlt' : (done.length : Int) < (n : Int) := by omega
              have Hlen : Hid (done.length ≤ 1099511627800) := by show _ ≤ _; omega
              have Hres : Hid (R = glue (toL done) x (getTs bs longest (n - done.length - 1 + 1) x)) := by
                show _ = _
                rw [hres]; congr 2; omega
              clear hres
              have i1 : (0 : Int) ≤ (x : Int) := by omega
              have i2 : (x : Int) ≤ (bs.length : Int) := by omega
              rcases Nat.eq_or_lt_of_le (show x ≤ cap by omega) with hxc | hxc
              · have hlast : bs.drop x = [] := List.drop_eq_nil_of_le (by omega)
                have hby : Byts wr B (.slice (some ⟨g, o, none⟩) 0 0) (bs.drop x) := by rw [hlast]; exact Byts.none_left _ _ _
                subst hxc
                clear hlast
                go_wp2_with fail
                refine (AskText_any _ (bs.drop x) B longest _ hby (by simp; omega) Hlong.out).mono ?_
                rintro e w2 ⟨rfl, hww⟩
                rw [hww, askT_drop]
                clear hww w2
                have hx2 := askT_le bs x longest hx
                have hmore := glue_more bs longest (toL done) x (n - done.length - 1) x
                have hbad := glue_bad bs longest (toL done) x (n - done.length - 1) x
                generalize askT bs x longest = T at *
                obtain ⟨t, te, tc⟩ := T
                simp only at *
                by_cases hte : te = 0
                · subst hte
                  have Hm : Hid (R = glue (toL done ++ [t]) (x + tc) (getTs bs longest (n - done.length - 1) (x + tc))) := by
                    show _ = _
                    rw [Hres.out, hmore rfl]
                  clear hmore hbad Hres
                  go_wp2_with (at_builtin; go_must (refine wpList_append_str wr rfl (.tmp 59) (.tmp 61) rfl w.heap.size _ done (str t) rfl hso wr.heap.size rfl rfl Hlen hsr ?_))
                  intro v' w3 hso3 hg3
                  go_wp2
                  refine ⟨⟨done ++ [str t], x + tc, by go_num, ?_, hx2, hso3, by simp; omega, hbr.grown hg3 hsr fun q hq => (World.ownsRow.lt hso q hq).1, ?_⟩, by simp [intOf]; omega⟩
                  · simp
                  · have e1 : toL (done ++ [str t]) = toL done ++ [t] := by simp [toL, str_toList]
                    have e2 : n - (done ++ [str t]).length = n - done.length - 1 := by simp; omega
                    rw [Hm.out, e1, e2]
                · have hte' : ((te : Int) != 0) = true := by rw [bne_iff_ne]; omega
                  have Hm : Hid (R = ([], te, 0)) := by
                    show _ = _
                    rw [Hres.out, hbad hte]
                  clear hmore hbad Hres hte
                  go_wp2
                  go_ret3
                  rw [HR.out, Hm.out]
                  exact ⟨_, [], rfl, OwnS.nil _ _, rfl, hbr⟩
              · have hne : ¬ cap = x := by omega
                have hby := hvr.tail x hx hxc
                go_wp2_with fail
                refine (AskText_any _ (bs.drop x) B longest _ hby (by simp; omega) Hlong.out).mono ?_
                rintro e w2 ⟨rfl, hww⟩
                rw [hww, askT_drop]
                clear hww w2
                have hx2 := askT_le bs x longest hx
                have hmore := glue_more bs longest (toL done) x (n - done.length - 1) x
                have hbad := glue_bad bs longest (toL done) x (n - done.length - 1) x
                generalize askT bs x longest = T at *
                obtain ⟨t, te, tc⟩ := T
                simp only at *
                by_cases hte : te = 0
                · subst hte
                  have Hm : Hid (R = glue (toL done ++ [t]) (x + tc) (getTs bs longest (n - done.length - 1) (x + tc))) := by
                    show _ = _
                    rw [Hres.out, hmore rfl]
                  clear hmore hbad Hres
                  go_wp2_with (at_builtin; go_must (refine wpList_append_str wr rfl (.tmp 59) (.tmp 61) rfl w.heap.size _ done (str t) rfl hso wr.heap.size rfl rfl Hlen hsr ?_))
                  intro v' w3 hso3 hg3
                  go_wp2
                  refine ⟨⟨done ++ [str t], x + tc, by go_num, ?_, hx2, hso3, by simp; omega, hbr.grown hg3 hsr fun q hq => (World.ownsRow.lt hso q hq).1, ?_⟩, by simp [intOf]; omega⟩
                  · simp
                  · have e1 : toL (done ++ [str t]) = toL done ++ [t] := by simp [toL, str_toList]
                    have e2 : n - (done ++ [str t]).length = n - done.length - 1 := by simp; omega
                    rw [Hm.out, e1, e2]
                · have hte' : ((te : Int) != 0) = true := by rw [bne_iff_ne]; omega
                  have Hm : Hid (R = ([], te, 0)) := by
                    show _ = _
                    rw [Hres.out, hbad hte]
                  clear hmore hbad Hres hte
                  go_wp2
                  go_ret3
                  rw [HR.out, Hm.out]
                  exact ⟨_, [], rfl, OwnS.nil _ _, rfl, hbr⟩
            · have hlt' : ¬ (done.length : Int) < (n : Int) := by omega
              have Hres : Hid (R = (toL done, 0, x)) := by
                show _ = _
                rw [hres, show n - done.length = 0 by omega]; simp [glue, getTs]
              clear hres
              go_wp2
              go_ret3
              rw [HR.out, Hres.out]
              exact ⟨_, rfl, done, hso, rfl, hbr⟩
end Go.Proofs.Ytoablejghckaeaa
