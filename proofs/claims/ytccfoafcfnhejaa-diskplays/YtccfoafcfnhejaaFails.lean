/-
  DiskFails.
-/
import Derived.Test.YtccfoafcfnhejaaWorks
import Derived.Deep.RegionHeld3
namespace Go.Proofs.Ytccfoafcfnhejaa
open Go.RowKit

/-- v is a slice of puts that reads as q, below block B -/
def PutS (w : World) (B : Nat) (v : Value) (q : List (Int × UInt8)) : Prop :=
  ∃ ad c, v = .slice ad q.length c ∧ (q ≠ [] → ∃ b o, ad = some ⟨b, o, none⟩ ∧ b < B ∧ ∀ j, j < q.length → w.cell? ⟨b, o + j * 2, none⟩ = some (.int .i64 (q.getD j (0, 0)).1) ∧ w.cell? ⟨b, o + j * 2 + 1, none⟩ = some (.int .u8 ((q.getD j (0, 0)).2.toNat : Int)))

theorem Has.drewN {w : World} {x : Pl} {N : Nat} {d : Dk.Dev} (h : Has w x N d) (q : Nat) : Has (w.drewN q) x N d := h.of_blocks (w' := w.drewN q) fun _ _ => rfl

theorem and1 (e : Int) : bits BinOp.and IntKind.i64 e 1 = 0 ∨ bits BinOp.and IntKind.i64 e 1 = 1 := by
  have h : bits BinOp.and IntKind.i64 e 1 = IntKind.i64.wrap ((BitVec.ofInt 64 e &&& BitVec.ofInt 64 1).toNat : Int) := rfl
  rw [h, BitVec.toNat_and, show (BitVec.ofInt 64 1).toNat = 1 from rfl, Nat.and_one_is_mod, IntKind.wrap_i64]
  omega

structure Calm (d : Dk.Dev) : Prop where
  fa : ∀ i, d.fa i = none
  cu : d.cu = 9223372036854775807
theorem Calm.err {d : Dk.Dev} (h : Calm d) (ho : d.op < 9223372036854775807) : d.err = 0 := by
  unfold Dk.Dev.err
  rw [h.cu, if_neg (by omega), h.fa]
  rfl
theorem calm_new (n : Nat) : Calm (Dk.new n) := ⟨fun _ => rfl, rfl⟩
theorem Calm.begun {d : Dk.Dev} (h : Calm d) : Calm d.begun := ⟨fun i => by unfold Dk.Dev.begun; simp only; split; rfl; exact h.fa i, h.cu⟩
theorem Calm.wr {d : Dk.Dev} (h : Calm d) (i : Nat) (b : Dk.Blk) : Calm (d.wr i b) := ⟨h.fa, h.cu⟩
theorem Calm.fl {d : Dk.Dev} (h : Calm d) : Calm d.fl := ⟨h.fa, h.cu⟩

theorem Blk.byts' {w : World} {g : Nat} {X : List UInt8} (h : Blk w g X) (hX : X.length = 256) : Byts w (g + 1) (.slice (some ⟨g, 0, none⟩) 256 256) X := by
  have := h.byts 0 256 256 (by omega) (Nat.le_refl _)
  rwa [List.drop_zero, List.take_of_length_le (by omega)] at this

/-- d1 is d, with a fault or a cut at its next operation -/
structure Armed (d d1 : Dk.Dev) (cut : Bool) (want : Int) : Prop where
  st : d1.st = d.st
  di : d1.di = d.di
  op : d1.op = d.op
  err : d1.err = want
  ne : want ≠ 0
  yes : cut = true → want = 30 ∧ d1.cu ≤ (d1.op : Int)
  no : cut = false → Calm d1.begun
theorem armed_cut {d : Dk.Dev} (hc : Calm d) (ho : d.op ≤ 1000) : Armed d (d.cut 0) true 30 := by
  have e : (d.cut 0).cu = (d.op : Int) := by
    show (if d.cu ≤ (d.op : Int) + 0 then d.cu else (d.op : Int) + 0) = _
    rw [hc.cu, if_neg (by omega)]
    omega
  have e2 : (d.cut 0).op = d.op := rfl
  refine ⟨rfl, rfl, rfl, ?_, by decide, fun _ => ⟨rfl, by rw [e, e2]; exact Int.le_refl _⟩, fun h => by cases h⟩
  unfold Dk.Dev.err
  rw [e, e2, if_pos (Int.le_refl _)]
theorem armed_fail {d : Dk.Dev} (hc : Calm d) (ho : d.op ≤ 1000) {e : Int} (he : e = 8 ∨ e = 9) : Armed d (d.fail 0 e) false e := by
  have hf : (d.fail 0 e).fa (d.op : Int) = some e := by simp [Dk.Dev.fail]
  have e2 : (d.fail 0 e).op = d.op := rfl
  have e3 : (d.fail 0 e).cu = d.cu := rfl
  refine ⟨rfl, rfl, rfl, ?_, (by rcases he with rfl | rfl <;> decide), (fun h => by cases h), fun _ => ⟨fun i => ?_, hc.cu⟩⟩
  · unfold Dk.Dev.err
    rw [e2, e3, hc.cu, if_neg (by omega), hf]
    rfl
  · show (if i = ((d.fail 0 e).op : Int) then none else (d.fail 0 e).fa i) = none
    rw [e2]
    split
    · rfl
    · show (if i = (d.op : Int) + 0 then some e else d.fa i) = none
      rw [if_neg (by omega)]
      exact hc.fa i

/-- both devices, and the list of dirty blocks, stand in w' -/
structure FSt (w : World) (p y : Pl) (N : Nat) (d : Dk.Dev) (v3 : Value) (B3 M : Nat) (d1 : Dk.Dev) (w' : World) : Prop where
  hp : Has w' p M d1
  hy : Has w' y N d
  hi : Ints w' B3 v3 (dlI d)
  hB : B3 ≤ w'.heap.size
  bl : Below w.heap.size w w'
theorem FSt.below {w : World} {p y : Pl} {N : Nat} {d : Dk.Dev} {v3 : Value} {B3 M : Nat} {d1 : Dk.Dev} {w' w'' : World} (h : FSt w p y N d v3 B3 M d1 w') (hb : Below w'.heap.size w' w'') : FSt w p y N d v3 B3 M d1 w'' :=
  ⟨h.hp.below hb, h.hy.below hb, h.hi.below hb h.hB, Nat.le_trans h.hB hb.size, h.bl.trans (hb.mono h.bl.size)⟩
theorem FSt.turn {w : World} {p y : Pl} {N : Nat} {d : Dk.Dev} {v3 : Value} {B3 M M' : Nat} {d1 d2 : Dk.Dev} {w' w'' : World} (h : FSt w p y N d v3 B3 M d1 w') (ht : Turn p.bl w' w'') (hk : Has w'' p M' d2) (hyp : ∀ k, k ∈ y.bl → k ∉ p.bl) (hv : ∀ k, v3.ownBlock = some k → k ∉ p.bl) (hp0 : ∀ k, k ∈ p.bl → w.heap.size ≤ k) : FSt w p y N d v3 B3 M' d2 w'' :=
  ⟨hk, h.hy.turn ht hyp, h.hi.turn ht h.hB hv, Nat.le_trans h.hB ht.size, below_turn h.bl ht h.bl.size hp0⟩

/-- a put's write, behind its block's making -/
theorem put_step {w W : World} {p : Pl} {N : Nat} {d : Dk.Dev} (hk : Has W p N d) (hN : N ≤ 1000000) (hc : Calm d) {j : Nat} (hj : j < d.st.length) (hp0 : ∀ k, k ∈ p.bl → w.heap.size ≤ k) (hB : Below w.heap.size w W) (X : UInt8) (w3 : World) (q3 : Nat) (hq3 : W.heap.size ≤ q3) (hB3 : Blk w3 q3 (filledB X)) (hb3 : Below W.heap.size W w3) :
    Calls Try.prog 10 #[.pointer (some ⟨p.p, 0, none⟩), .int .i64 (j : Int), .slice (some ⟨q3, 0, none⟩) 256 256] w3 fun r w' => r = .returned (.int .i64 0) ∧ Has w' p (N + 2) (d.begun.wr j (filledB X)) ∧ Below w.heap.size w w' ∧ Turn p.bl W w' := by
  have hk3 := hk.below hb3
  refine (Write_ok w3 p N d hk3 (by omega) j hj _ (filledB X) (q3 + 1) (hB3.byts' (filledB_len X)) hB3.lt (filledB_len X) (fun k e hm => by cases e; have := hk.lt q3 hm; omega) (hc.err (by have := hk.hop; omega))).mono ?_
  rintro r w' ⟨rfl, hk', ht'⟩
  have hB3' : Below w.heap.size w w3 := hB.trans (hb3.mono hB.size)
  exact ⟨rfl, hk', below_turn hB3' ht' hB3'.size hp0, (Turn.mono (Turn.of_below hb3) (by simp)).join ht'⟩

set_option maxRecDepth 100000 in
set_option maxHeartbeats 4000000 in
theorem fails_any (vl : Value) (l : List (Int × UInt8)) (kind i : Int) (x : UInt8) (cut : Bool) (e : Int) (w : World) (hv : PutS w w.heap.size vl l) :
    Calls Try.prog 6 #[vl, .int .i64 kind, .int .i64 i, .int .u8 (x.toNat : Int), .bool cut, .int .i64 e] w fun r w' => r = .returned (.bool true) ∧ Below w.heap.size w w' := by
  obtain ⟨ad, c, rfl, hcl⟩ := hv
  have Hc : Hid (l ≠ [] → ∃ b o, ad = some ⟨b, o, none⟩ ∧ b < w.heap.size ∧ ∀ j, j < l.length → w.cell? ⟨b, o + j * 2, none⟩ = some (.int .i64 (l.getD j (0, 0)).1) ∧ w.cell? ⟨b, o + j * 2 + 1, none⟩ = some (.int .u8 ((l.getD j (0, 0)).2.toNat : Int))) := hcl
  clear hcl
  by_cases hg : l.length ≤ 60 ∧ 0 ≤ i ∧ i < 80
  · obtain ⟨hl, hi0, hi1⟩ := hg
    go_enter Try.func6, Try.ntmps6
    go_wp2_with fail
    refine (works_any w).mono ?_
    rintro r w1 ⟨rfl, hb1⟩
    go_wp2_with fail
    refine (New_ok 80 w1 (by omega) (by omega)).mono ?_
    rintro r w2 ⟨p, rfl, hp, hk, hb2⟩
    have hp0 : ∀ k, k ∈ p.bl → w.heap.size ≤ k := fun k hm => Nat.le_trans hb1.size (hp k hm)
    have hB2 : Below w.heap.size w w2 := hb1.trans (hb2.mono hb1.size)
    clear hb1 hb2
    unfold ptr
    go_wp2
    go_loopw [48] (fun c wr => ∃ (k : Nat) (d : Dk.Dev), k ≤ l.length ∧ c = .int .i64 (k : Int) ∧ Has wr p (2 * k) d ∧ Calm d ∧ d.st.length = 80 ∧ Below w.heap.size w wr) (fun c _ => l.length - (RowKit.intOf c).toNat)
    case atStart => exact ⟨0, _, Nat.zero_le _, rfl, hk, calm_new 80, by show (List.replicate 80 Dk.zeroB).length = 80; rw [List.length_replicate], hB2⟩
    case round =>
      obtain ⟨k, d, hkl, rfl, hkr, hcalm, hd80, hBr⟩ := hrel
      by_cases hlt : k < l.length
      · obtain ⟨b, o, rfl, hb, hcells⟩ := Hc.out (by intro e; rw [e] at hlt; simp at hlt)
        obtain ⟨q0, q1⟩ := hcells k hlt
        generalize l.getD k (0, 0) = pt at q0 q1
        obtain ⟨I, X⟩ := pt
        simp only at q0 q1
        have r0 : wr.cell? ⟨b, o + k * 2, none⟩ = some (.int .i64 I) := (hBr.cell (p := ⟨b, o + k * 2, none⟩) hb).trans q0
        have r1 : wr.cell? ⟨b, o + k * 2 + 1, none⟩ = some (.int .u8 (X.toNat : Int)) := (hBr.cell (p := ⟨b, o + k * 2 + 1, none⟩) hb).trans q1
        have hsz := hBr.size
        clear hcells q0 q1
        by_cases hI : 0 ≤ I ∧ I < 80
        · obtain ⟨hI0, hI1⟩ := hI
          obtain ⟨j, rfl⟩ : ∃ j : Nat, I = (j : Int) := ⟨I.toNat, by omega⟩
          have hj : j < d.st.length := by omega
          have hkW : Has (wr.alloc (.cells #[.int .i64 (j : Int), .int .u8 (X.toNat : Int)] 61)).drew p (2 * k) d := (hkr.below ((Below.refl _ wr).alloc (Nat.le_refl _) _)).drew
          have hBW : Below w.heap.size w (wr.alloc (.cells #[.int .i64 (j : Int), .int .u8 (X.toNat : Int)] 61)).drew := (hBr.alloc hBr.size _).drew
          have hwn : wr.heap.size ∉ p.bl := fun hm => Nat.lt_irrefl _ (hkr.lt _ hm)
          have s0 : (wr.alloc (.cells #[.int .i64 (j : Int), .int .u8 (X.toNat : Int)] 61)).drew.cell? ⟨wr.heap.size, 0, none⟩ = some (.int .i64 (j : Int)) := by show (wr.alloc _).cell? _ = _; rw [cell_of_row _ wr.heap.size 0 _ 61 (0, 0) (heap_alloc_new wr _)]; rfl
          have s1 : (wr.alloc (.cells #[.int .i64 (j : Int), .int .u8 (X.toNat : Int)] 61)).drew.cell? ⟨wr.heap.size, 1, none⟩ = some (.int .u8 (X.toNat : Int)) := by show (wr.alloc _).cell? _ = _; rw [cell_of_row _ wr.heap.size 1 _ 61 (0, 0) (heap_alloc_new wr _)]; rfl
          have HP := fun w3 q3 hq3 hB3 hb3 => put_step hkW (by omega) hcalm hj hp0 hBW X w3 q3 hq3 hB3 hb3
          have HPh : Hid _ := HP
          have hgd0 : decide (0 ≤ (j : Int)) = true := decide_eq_true hI0
          have hgd1 : decide ((j : Int) < 80) = true := decide_eq_true hI1
          clear HP
          go_wp2_with fail
          have hsW : wr.heap.size < (wr.alloc (.cells #[.int .i64 (j : Int), .int .u8 (X.toNat : Int)] 61)).drew.heap.size := by simp
          have HsW : Hid _ := hsW
          clear hsW
          go_region_held3 (fun w' => w'.cell? ⟨wr.heap.size, 0, none⟩ = some (.int .i64 (j : Int)) ∧ w'.cell? ⟨wr.heap.size, 1, none⟩ = some (.int .u8 (X.toNat : Int))) (first | exact ⟨s0, s1⟩ | exact ⟨t0, t1⟩ | exact ⟨u0, u1⟩)
            (first
              | (go_at_call 28; refine (filled_any X _).mono ?_; rintro r w3 ⟨q3, rfl, hq3, hB3, hb3⟩; have t0 := (hb3.cell (p := ⟨wr.heap.size, 0, none⟩) HsW.out).trans s0; have t1 := (hb3.cell (p := ⟨wr.heap.size, 1, none⟩) HsW.out).trans s1)
              | (go_at_call 10; refine (HPh.out w3 q3 hq3 hB3 hb3).mono ?_; rintro r w4 ⟨rfl, hk4, hB4, ht4⟩; have u0 := (World.cell?_of_block (a := ⟨wr.heap.size, 0, none⟩) (ht4.block _ HsW.out hwn)).trans s0; have u1 := (World.cell?_of_block (a := ⟨wr.heap.size, 1, none⟩) (ht4.block _ HsW.out hwn)).trans s1))
          go_wp2
          go_roundw
          case rel => exact ⟨k + 1, _, by omega, by go_num, hk4, (hcalm.begun).wr _ _, hd80, hB4⟩
          case measure => simp [RowKit.intOf]; omega
        · have hBW : Below w.heap.size w (wr.alloc (.cells #[.int .i64 I, .int .u8 (X.toNat : Int)] 61)) := hBr.alloc hBr.size _
          have hkW : Has (wr.alloc (.cells #[.int .i64 I, .int .u8 (X.toNat : Int)] 61)) p (2 * k) d := hkr.below ((Below.refl _ wr).alloc (Nat.le_refl _) _)
          by_cases hI0 : 0 ≤ I
          · have hgd0 : decide (0 ≤ I) = true := decide_eq_true hI0
            have hgd1 : decide (I < 80) = false := decide_eq_false (by omega)
            go_wp2_with fail
            go_quiet (fail)
            go_wp2
            go_roundw
            case rel => exact ⟨k + 1, d, by omega, by go_num, (hkW.drewN _).mono (by omega), hcalm, hd80, below_drewN hBW _⟩
            case measure => simp [RowKit.intOf]; omega
          · have hgd0 : decide (0 ≤ I) = false := decide_eq_false hI0
            go_wp2_with fail
            go_quiet (fail)
            go_wp2
            go_roundw
            case rel => exact ⟨k + 1, d, by omega, by go_num, (hkW.drewN _).mono (by omega), hcalm, hd80, below_drewN hBW _⟩
            case measure => simp [RowKit.intOf]; omega
      · obtain rfl : k = l.length := by omega
        clear Hc
        generalize hN : 2 * l.length = N at *
        have hN2 : N ≤ 120 := by omega
        have hop : d.op ≤ 120 := by have := hkr.hop; omega
        clear hN hk hB2 hlt
        go_wp2_with fail
        refine (Dirty_any wr p N d hkr (by omega)).mono ?_
        rintro r w3 ⟨v3, rfl, ho3, hb3⟩
        have hk3 := hkr.below hb3
        have hB3 := hBr.trans (hb3.mono hBr.size)
        clear hb3
        go_wp2_with fail
        refine (Ops_any w3 p N d hk3).mono ?_
        rintro r w4 ⟨rfl, rfl⟩
        go_wp2_with fail
        refine (Copy_any w4 p N d hk3).mono ?_
        rintro r w5 ⟨y, rfl, hy, hy5, hb5⟩
        have hk5 := hk3.below hb5
        have hB5 := hB3.trans (hb5.mono hB3.size)
        have hi3 := ho3.ints.below hb5 (Nat.le_refl _)
        have hy0 : ∀ k, k ∈ y.bl → w.heap.size ≤ k := fun k hm => Nat.le_trans hB3.size (hy k hm)
        have hyp : ∀ k, k ∈ y.bl → k ∉ p.bl := fun k hm hm2 => by have := hy k hm; have := hk3.lt k hm2; omega
        have hv3 : ∀ k, v3.ownBlock = some k → k ∉ p.bl := fun k e hm => by have := (World.ownsRow.lt ho3 k e).1; have := hkr.lt k hm; omega
        have hF : FSt w p y N d v3 w4.heap.size N d w5 := ⟨hk5, hy5, hi3, hb5.size, hB5⟩
        clear hk5 hB5 hi3 hb5 hk3 hB3 ho3 hkr hBr
        unfold ptr
        go_upto_if 79 with fail
        go_cut [20] (fun t20 w' => ∃ (want : Int) (d1 : Dk.Dev), t20 = .int .i64 want ∧ Armed d d1 cut want ∧ FSt w p y N d v3 w4.heap.size (N + 1) d1 w')
        case first =>
          cases cut with
          | true =>
            go_wp2_with fail
            refine (Cut_ok w5 p N d hF.hp (by omega) 0 (by omega) (by omega)).mono ?_
            rintro r w6 ⟨rfl, hk6, ht6⟩
            have hF6 := hF.turn ht6 hk6 hyp hv3 hp0
            go_wp2
            go_meet
            case rel => exact ⟨30, _, rfl, armed_cut hcalm (by omega), hF6⟩
          | false =>
            rcases and1 e with he | he
            · go_wp2_with fail
              have hFa := hF.below ((Below.refl _ w5).alloc (Nat.le_refl _) (.cells #[.int .i64 8, .int .i64 9] 24))
              refine (Fail_ok _ p N d hFa.hp (by omega) 0 8 (by omega) (by omega) (.inl rfl)).mono ?_
              rintro r w6 ⟨rfl, hk6, ht6⟩
              have hF6 := hFa.turn ht6 hk6 hyp hv3 hp0
              go_wp2
              go_meet
              case rel => exact ⟨8, _, rfl, armed_fail hcalm (by omega) (.inl rfl), hF6⟩
            · go_wp2_with fail
              have hFa := hF.below ((Below.refl _ w5).alloc (Nat.le_refl _) (.cells #[.int .i64 8, .int .i64 9] 24))
              refine (Fail_ok _ p N d hFa.hp (by omega) 0 9 (by omega) (by omega) (.inr rfl)).mono ?_
              rintro r w6 ⟨rfl, hk6, ht6⟩
              have hF6 := hFa.turn ht6 hk6 hyp hv3 hp0
              go_wp2
              go_meet
              case rel => exact ⟨9, _, rfl, armed_fail hcalm (by omega) (.inr rfl), hF6⟩
        case rest =>
          obtain ⟨want, d1, rfl, hA, hF1⟩ := hcut
          clear hF
          have hi' : ((i.toNat : Nat) : Int) = i := by omega
          have hin : i.toNat < d1.st.length := by rw [hA.st]; omega
          have herr1 := hA.err
          have hne1 := hA.ne
          go_upto_block 2 with fail
          go_cut [21] (fun t21 w' => t21 = .int .i64 want ∧ FSt w p y N d v3 w4.heap.size (N + 2) d1.begun w')
          case first =>
            by_cases hk0 : kind = 0
            · subst hk0
              go_wp2_with fail
              have hc := Read_err wc p (N + 1) d1 hF1.hp (by omega) i.toNat hin (by rw [herr1]; exact hne1)
              rw [hi', herr1] at hc
              refine hc.mono ?_
              rintro r w6 ⟨rfl, hk6, ht6⟩
              have hF6 := hF1.turn ht6 hk6 hyp hv3 hp0
              go_wp2
              go_meet
              case rel => exact ⟨rfl, hF6⟩
            · by_cases hk1 : kind = 1
              · subst hk1
                go_wp2_with fail
                refine (filled_any x wc).mono ?_
                rintro r w6 ⟨q6, rfl, hq6, hB6, hb6⟩
                have hF6 := hF1.below hb6
                go_wp2_with fail
                have hc := Write_err w6 p (N + 1) d1 hF6.hp (by omega) i.toNat hin (some ⟨q6, 0, none⟩) 256 (by rw [herr1]; exact hne1)
                rw [hi', herr1] at hc
                refine hc.mono ?_
                rintro r w7 ⟨rfl, hk7, ht7⟩
                have hF7 := hF6.turn ht7 hk7 hyp hv3 hp0
                go_wp2
                go_meet
                case rel => exact ⟨rfl, hF7⟩
              · have hk0' : (kind == 0) = false := by simpa using hk0
                have hk1' : (kind == 1) = false := by simpa using hk1
                go_wp2_with fail
                have hc := Flush_err wc p (N + 1) d1 hF1.hp (by omega) (by rw [herr1]; exact hne1)
                rw [herr1] at hc
                refine hc.mono ?_
                rintro r w6 ⟨rfl, hk6, ht6⟩
                have hF6 := hF1.turn ht6 hk6 hyp hv3 hp0
                go_wp2
                go_meet
                case rel => exact ⟨rfl, hF6⟩
          case rest =>
            obtain ⟨rfl, hF2⟩ := hcut
            clear hF1
            have hdl : dlI d1.begun = dlI d := by unfold dlI Dk.Dev.dl; rw [show d1.begun.st = d.st from hA.st, show d1.begun.di = d.di from hA.di]
            have hop1 : d1.begun.op = d.op + 1 := by show d1.op + 1 = _; rw [hA.op]
            clear hne1 herr1
            go_wp2_with fail
            refine (Ops_any wc p _ _ hF2.hp).mono ?_
            rintro r w6 ⟨rfl, rfl⟩
            rw [hop1]
            have hopi : ((d.op : Nat) : Int) ≤ 120 := by omega
            have hne2 : (((d.op + 1 : Nat) : Int) != (d.op : Int) + 1) = false := by simp
            go_wp2_with fail
            refine (Dirty_any w6 p _ _ hF2.hp (by omega)).mono ?_
            rintro r w7 ⟨v7, rfl, ho7, hb7⟩
            rw [hdl] at ho7
            have hF7 := hF2.below hb7
            have hi7 := ho7.ints
            go_wp2_with fail
            refine (EqualI_b _ _ (dlI d) (dlI d) _ _ w7 hi7 hF7.hi (by have := Dk.dl_le d; unfold dlI; rw [List.length_map]; omega)).mono ?_
            rintro r w8 ⟨rfl, hb8⟩
            rw [decide_eq_true (rfl : dlI d = dlI d)]
            have hF8 := hF7.below hb8
            clear hF2 hF7 hb7 hb8 hi7 ho7
            go_upto_if 127 with fail
            go_cut [14] (fun _ w' => ∃ (M : Nat) (d2 : Dk.Dev), M ≤ 200 ∧ d2.st = d.st ∧ d2.di = d.di ∧ (cut = false → Calm d2) ∧ FSt w p y N d v3 w4.heap.size M d2 w')
            case first =>
              cases cut with
              | true =>
                have hcu := (hA.yes rfl).2
                have hcu1 : d1.begun.cu ≤ (d1.begun.op : Int) := by show d1.cu ≤ ((d1.op + 1 : Nat) : Int); omega
                have he1 : d1.begun.err = 30 := by unfold Dk.Dev.err; rw [if_pos hcu1]
                have he2 : d1.begun.begun.err = 30 := by unfold Dk.Dev.err; rw [if_pos (by show d1.begun.cu ≤ ((d1.begun.op + 1 : Nat) : Int); omega)]
                have hin1 : i.toNat < d1.begun.st.length := hin
                go_wp2_with fail
                have hc := Read_err w8 p (N + 2) d1.begun hF8.hp (by omega) i.toNat hin1 (by rw [he1]; decide)
                rw [hi', he1] at hc
                refine hc.mono ?_
                rintro r w9 ⟨rfl, hk9, ht9⟩
                have hF9 := hF8.turn ht9 hk9 hyp hv3 hp0
                go_wp2_with fail
                have hc2 := Flush_err w9 p (N + 3) d1.begun.begun hF9.hp (by omega) (by rw [he2]; decide)
                rw [he2] at hc2
                refine hc2.mono ?_
                rintro r w10 ⟨rfl, hk10, ht10⟩
                have hF10 := hF9.turn ht10 hk10 hyp hv3 hp0
                go_wp2
                go_meet
                case rel => exact ⟨N + 4, d1.begun.begun.begun, by omega, hA.st, hA.di, (fun h => by cases h), hF10⟩
              | false =>
                go_wp2
                go_meet
                case rel => exact ⟨N + 2, d1.begun, by omega, hA.st, hA.di, (fun _ => hA.no rfl), hF8⟩
            case rest =>
              obtain ⟨M, d2, hM, hst2, hdi2, hc2, hF9⟩ := hcut
              have hpy : ∀ k, k ∈ p.bl → k ∉ y.bl := fun k hm hm2 => hyp k hm2 hm
              have hp9 := hF9.hp
              have hy9 := hF9.hy
              have hb9 := hF9.bl
              clear hF8 hF9 hA hi' hin
              go_wp2
              go_loopw [141] (fun t wr => ∃ (k M M' : Nat) (d2 c2 : Dk.Dev), k ≤ 80 ∧ t = .int .i64 (k : Int) ∧ M ≤ 200 + k ∧ M' ≤ 200 + k ∧ d2.st = d.st ∧ d2.di = d.di ∧ c2.st = d.st ∧ c2.di = d.di ∧ (cut = false → Calm d2 ∧ Calm c2) ∧ Has wr p M d2 ∧ Has wr y M' c2 ∧ Below w.heap.size w wr) (fun t _ => 80 - (RowKit.intOf t).toNat)
              case atStart => exact ⟨0, M, N, d2, d, by omega, rfl, by omega, by omega, hst2, hdi2, rfl, rfl, fun h => ⟨hc2 h, hcalm⟩, hp9, hy9, hb9⟩
              case round =>
                clear hp9 hy9 hb9 hst2 hdi2 hc2 hM
                obtain ⟨k, M, M', e2, c2, hk80, rfl, hM, hM', hs1, hd1, hs2, hd2, hcc, hkp, hky, hBr⟩ := hrel
                by_cases hlt : k < 80
                · have hkn1 : k < e2.st.length := by rw [hs1]; omega
                  have hkn2 : k < c2.st.length := by rw [hs2]; omega
                  have hsame : e2.stab k = c2.stab k := by unfold Dk.Dev.stab; rw [hs1, hs2]
                  have hsamec : e2.cont k = c2.cont k := by unfold Dk.Dev.cont Dk.Dev.stab; rw [hs1, hs2, hd1, hd2]
                  have Hs : Hid (e2.stab k = c2.stab k) := hsame
                  have Hsc : Hid (e2.cont k = c2.cont k) := hsamec
                  have HS : Hid (e2.st = d.st ∧ e2.di = d.di ∧ c2.st = d.st ∧ c2.di = d.di) := ⟨hs1, hd1, hs2, hd2⟩
                  have hop1 := hkp.hop
                  have hop2 := hky.hop
                  clear hsame hsamec hs1 hs2 hd1 hd2
                  go_wp2_with fail
                  refine (Stable_ok wr p M e2 hkp k hkn1).mono ?_
                  rintro r w11 ⟨va, rfl, hoa, hb11⟩
                  have hkp1 := hkp.below hb11
                  have hky1 := hky.below hb11
                  have hB11 := hBr.trans (hb11.mono hBr.size)
                  have hya := hoa.byts
                  go_wp2_with fail
                  refine (Stable_ok w11 y M' c2 hky1 k hkn2).mono ?_
                  rintro r w12 ⟨vb, rfl, hob, hb12⟩
                  have hkp2 := hkp1.below hb12
                  have hky2 := hky1.below hb12
                  have hB12 := hB11.trans (hb12.mono hB11.size)
                  have hya2 := hya.below hb12 (Nat.le_refl _)
                  have hyb := hob.byts
                  clear hkp1 hky1 hya hb11 hb12 hoa hob hkp hky hBr hB11
                  go_wp2_with fail
                  refine (Equal_any _ _ _ _ _ _ w12 hya2 hyb).mono ?_
                  rintro r w13 ⟨rfl, rfl⟩
                  rw [decide_eq_true Hs.out]
                  cases cut with
                  | true =>
                    go_wp2
                    go_roundw
                    case rel => exact ⟨k + 1, M, M', e2, c2, by omega, by go_num, by omega, by omega, HS.out.1, HS.out.2.1, HS.out.2.2.1, HS.out.2.2.2, hcc, hkp2, hky2, hB12⟩
                    case measure => simp [RowKit.intOf]; omega
                  | false =>
                    obtain ⟨hca, hcb⟩ := hcc rfl
                    go_wp2_with fail
                    refine (Read_ok w13 p M e2 hkp2 (by omega) k hkn1 (hca.err (by omega))).mono ?_
                    rintro r w14 ⟨va2, rfl, hoa2, hkp3, ht14⟩
                    have hky3 := hky2.turn ht14 hyp
                    have hB14 := below_turn hB12 ht14 hB12.size hp0
                    have hva2 : ∀ k, va2.ownBlock = some k → k ∉ y.bl := fun k e hm => by have := (World.ownsRow.lt hoa2 k e).1; have := hky2.lt k hm; omega
                    have hya3 := hoa2.byts
                    go_wp2_with fail
                    refine (Read_ok w14 y M' c2 hky3 (by omega) k hkn2 (hcb.err (by omega))).mono ?_
                    rintro r w15 ⟨vb2, rfl, hob2, hky4, ht15⟩
                    have hkp4 := hkp3.turn ht15 hpy
                    have hB15 := below_turn hB14 ht15 hB14.size hy0
                    have hya4 := hya3.turn ht15 (Nat.le_refl _) hva2
                    have hyb4 := hob2.byts
                    clear hya3 hoa2 hob2 hkp3 hky3 hB14 ht14 ht15 hkp2 hky2 hB12 hya2 hyb
                    go_wp2_with fail
                    refine (Equal_any _ _ _ _ _ _ w15 hya4 hyb4).mono ?_
                    rintro r w16 ⟨rfl, rfl⟩
                    rw [decide_eq_true Hsc.out]
                    go_wp2
                    go_roundw
                    case rel => exact ⟨k + 1, M + 1, M' + 1, e2.begun, c2.begun, by omega, by go_num, by omega, by omega, HS.out.1, HS.out.2.1, HS.out.2.2.1, HS.out.2.2.2, (fun _ => ⟨hca.begun, hcb.begun⟩), hkp4, hky4, hB15⟩
                    case measure => simp [RowKit.intOf]; omega
                · obtain rfl : k = 80 := by omega
                  go_wp2
                  go_ret
                  exact ⟨rfl, hBr⟩
  · by_cases h60 : l.length ≤ 60
    · by_cases hi0 : i < 0
      · clear hg
        go_enter Try.func6, Try.ntmps6
        go_wp2_with fail
        refine (works_any w).mono ?_
        rintro r w1 ⟨rfl, hb1⟩
        go_wp2
        go_ret
        exact ⟨rfl, hb1⟩
      · have hi1 : 80 ≤ i := by omega
        clear hg
        go_enter Try.func6, Try.ntmps6
        go_wp2_with fail
        refine (works_any w).mono ?_
        rintro r w1 ⟨rfl, hb1⟩
        go_wp2
        go_ret
        exact ⟨rfl, hb1⟩
    · have h60' : (60 : Int) < (l.length : Int) := by omega
      clear hg h60
      go_enter Try.func6, Try.ntmps6
      go_wp2_with fail
      refine (works_any w).mono ?_
      rintro r w1 ⟨rfl, hb1⟩
      go_wp2
      go_ret
      exact ⟨rfl, hb1⟩
end Go.Proofs.Ytccfoafcfnhejaa
