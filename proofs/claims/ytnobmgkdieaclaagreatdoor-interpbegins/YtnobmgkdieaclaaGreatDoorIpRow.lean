/-
  A RUN AS IT LIES: its thirteen cells, the row of open bodies, the two maps, the row of needs; what it shares with others is never written.
-/
import Derived.Test.YtnobmgkdieaclaaGreatDoorIbMay
import Derived.Test.YtnobmgkdieaclaaGreatDoorALineR
namespace Go.Proofs.YtnobmgkdieaclaaGreatDoor
open Go.RowKit

/-- a body as it lies in a row -/
structure RawB where
  ca : Option Addr
  cn : Nat
  cc : Nat
  next : Nat
  line : List UInt8
  ra : Option Addr
  rn : Nat
  rc : Nat
def RawB.code (r : RawB) : Value := .slice r.ca r.cn r.cc
def RawB.rounds (r : RawB) : Value := .slice r.ra r.rn r.rc
/-- rows of bodies as they lie -/
def BoR : Rc RawB where
  e := 86
  st := 59
  k := 4
  bytes := 72
  z := .agg #[.slice none 0 0, .int .i64 0, .string .empty, .slice none 0 0]
  enc r := [.slice r.ca r.cn r.cc, .int .i64 (r.next : Int), .string (str r.line), .slice r.ra r.rn r.rc]
  pos := by decide
  len _ := rfl
  one f u hu := by
    simp only [List.mem_cons, List.not_mem_nil, or_false] at hu
    rcases hu with rfl | rfl | rfl | rfl <;> rfl
  info := by kernel_rfl
  under := Tryz.underlying59
  zk := rfl
  small := by decide
/-- a body that lies here reads as this -/
def BoIs (w : World) (P : Nat → Prop) (b : Ip.Bod) (r : RawB) : Prop := r.next = b.next ∧ r.line = b.line ∧ FoP w P r.code b.code ∧ TxR.SlP w P r.rounds b.rounds
def BoRow (w : World) (P : Nat → Prop) : List Ip.Bod → List RawB → Prop
  | [], rs => rs = []
  | b :: l, rs => ∃ r rs', rs = r :: rs' ∧ BoIs w P b r ∧ BoRow w P l rs'
theorem BoIs.keep {w w' : World} {P P' : Nat → Prop} {b : Ip.Bod} {r : RawB} (h : BoIs w P b r) (hk : ∀ b, P b → w'.heap[b]? = w.heap[b]?) (hP : ∀ b, P b → P' b) : BoIs w' P' b r := ⟨h.1, h.2.1, h.2.2.1.keep hk hP, h.2.2.2.keep hk hP⟩
theorem BoRow.keep {w w' : World} {P P' : Nat → Prop} (hk : ∀ b, P b → w'.heap[b]? = w.heap[b]?) (hP : ∀ b, P b → P' b) : ∀ {l : List Ip.Bod} {rs : List RawB}, BoRow w P l rs → BoRow w' P' l rs
  | [], _, h => h
  | _ :: _, _, ⟨r, rs', h1, h2, h3⟩ => ⟨r, rs', h1, h2.keep hk hP, BoRow.keep hk hP h3⟩
theorem BoRow.len {w : World} {P : Nat → Prop} : ∀ {l : List Ip.Bod} {rs : List RawB}, BoRow w P l rs → rs.length = l.length
  | [], _, h => by rw [h]; rfl
  | _ :: _, _, ⟨r, rs', h1, _, h3⟩ => by rw [h1, List.length_cons, List.length_cons, BoRow.len h3]
theorem BoRow.app {w : World} {P : Nat → Prop} : ∀ {l : List Ip.Bod} {rs : List RawB} {m : List Ip.Bod} {qs : List RawB}, BoRow w P l rs → BoRow w P m qs → BoRow w P (l ++ m) (rs ++ qs)
  | [], _, _, _, h, k => by rw [show _ = ([] : List RawB) from h]; exact k
  | _ :: _, _, _, _, ⟨r, rs', h1, h2, h3⟩, k => ⟨r, rs' ++ _, by rw [h1]; rfl, h2, BoRow.app h3 k⟩
/-- the last body -/
theorem BoRow.last {w : World} {P : Nat → Prop} : ∀ {l : List Ip.Bod} {b : Ip.Bod} {rs : List RawB}, BoRow w P (l ++ [b]) rs → ∃ rs' r, rs = rs' ++ [r] ∧ BoRow w P l rs' ∧ BoIs w P b r
  | [], b, _, ⟨r, rs', h1, h2, h3⟩ => ⟨[], r, by rw [h1, show rs' = [] from h3]; rfl, rfl, h2⟩
  | a :: l, b, _, ⟨r, rs', h1, h2, h3⟩ => by
    obtain ⟨qs, q, e, k1, k2⟩ := BoRow.last h3
    exact ⟨r :: qs, q, by rw [h1, e]; rfl, ⟨r, qs, rfl, h2, k1⟩, k2⟩

/-- a map of contents -/
def heldV (s : List UInt8) : Value := .agg #[.string (str s)]
def MapH (w : World) (b n : Nat) (f : Ip.B → Option Ip.B) : Prop := MapV heldV w b n fun k => f (bs k)
theorem bs_str (l : List UInt8) : bs (str l) = l := by simp [bs, str]
theorem str_bs (s : ByteArray) : str (bs s) = s := by cases s; simp [str, bs]
theorem str_inj {a b : List UInt8} (h : str a = str b) : a = b := by rw [← bs_str a, h, bs_str]

/-- where a run lies -/
structure RP where
  p : Nat
  mt : Nat
  mw : Nat
  ta : Option Addr
  tn : Nat
  tc : Nat
  oa : Option Addr
  on : Nat
  oc : Nat
  na : Option Addr
  nn : Nat
  nc : Nat
def RP.tv (x : RP) : Value := .slice x.ta x.tn x.tc
def RP.ov (x : RP) : Value := .slice x.oa x.on x.oc
def RP.nv (x : RP) : Value := .slice x.na x.nn x.nc
/-- the blocks that are the run's alone -/
def RP.own (x : RP) : List Nat := x.p :: x.mt :: x.mw :: (x.ov.ownBlock.toList ++ x.nv.ownBlock.toList)
def evCs (e : Ip.Ev) : List Value := [.int .i64 (e.kind : Int), .string (str e.path), .int .i64 (e.why : Int), .string (str e.text)]
def runCs (x : RP) (s : Ip.St) : Array Value := #[.slice x.ta x.tn x.tc, .int .i64 (s.fuel : Int), .int .i64 (s.used : Int), .slice x.oa x.on x.oc, .bool s.begun, .string (str s.buffer), .map (some x.mt), .map (some x.mw), .slice x.na x.nn x.nc,
  .int .i64 (s.ev.kind : Int), .string (str s.ev.path), .int .i64 (s.ev.why : Int), .string (str s.ev.text)]

/-- in w, the run that lies at x is s; what it shares lies outside of O, what is its own within -/
structure RunS (w : World) (O : List Nat) (x : RP) (s : Ip.St) : Prop where
  row : Rw w x.p (runCs x s) 62
  tg : TxR.SlP w (fun b => b < w.heap.size ∧ b ∉ O) x.tv s.targets
  op : ∃ rs, BoR.Own w 7 x.ov rs ∧ BoRow w (fun b => b < w.heap.size ∧ b ∉ O) s.stack.reverse rs
  mt : ∃ n, MapH w x.mt n s.told ∧ n + (if s.ev.kind = 1 then 1 else 0) ≤ s.needs.length
  mw : ∃ n, MapH w x.mw n s.written ∧ n ≤ s.targets.countP fun p => (s.written p).isSome
  nd : TxR.Own w 7 x.nv s.needs
  nodup : x.own.Nodup
  sub : ∀ b ∈ x.own, b ∈ O
  low : ∀ b ∈ x.own, 7 ≤ b
  lim : ∀ b ∈ O, b < w.heap.size

theorem RP.p_own (x : RP) : x.p ∈ x.own := by simp [RP.own]
theorem RP.mt_own (x : RP) : x.mt ∈ x.own := by simp [RP.own]
theorem RP.mw_own (x : RP) : x.mw ∈ x.own := by simp [RP.own]
theorem RP.ov_own {x : RP} {g : Nat} (h : x.ov.ownBlock = some g) : g ∈ x.own := by simp [RP.own, h]
theorem RP.nv_own {x : RP} {g : Nat} (h : x.nv.ownBlock = some g) : g ∈ x.own := by simp [RP.own, h]
theorem RP.own_cases {x : RP} {b : Nat} (h : b ∈ x.own) : b = x.p ∨ b = x.mt ∨ b = x.mw ∨ x.ov.ownBlock = some b ∨ x.nv.ownBlock = some b := by
  simpa [RP.own] using h
theorem RP.parts {x : RP} (h : x.own.Nodup) : x.p ≠ x.mt ∧ x.p ≠ x.mw ∧ x.mt ≠ x.mw ∧ (∀ g, x.ov.ownBlock = some g → g ≠ x.p ∧ g ≠ x.mt ∧ g ≠ x.mw) ∧ (∀ g, x.nv.ownBlock = some g → g ≠ x.p ∧ g ≠ x.mt ∧ g ≠ x.mw) ∧ (∀ g, x.ov.ownBlock = some g → x.nv.ownBlock ≠ some g) := by
  unfold RP.own at h
  simp only [List.nodup_cons, List.mem_cons, List.mem_append, Option.mem_toList, not_or, List.nodup_append] at h
  obtain ⟨⟨h1, h2, h3, h4⟩, ⟨h5, h6, h7⟩, ⟨h8, h9⟩, h10, h11, h12⟩ := h
  refine ⟨h1, h2, h5, fun g hg => ⟨?_, ?_, ?_⟩, fun g hg => ⟨?_, ?_, ?_⟩, fun g hg hn => ?_⟩
  · rintro rfl; exact h3 hg
  · rintro rfl; exact h6 hg
  · rintro rfl; exact h8 hg
  · rintro rfl; exact h4 hg
  · rintro rfl; exact h7 hg
  · rintro rfl; exact h9 hg
  · exact h12 g hg g hn rfl

variable {w w' : World} {O O' : List Nat} {x : RP} {s s' : Ip.St}
theorem RunS.lt (h : RunS w O x s) : ∀ b ∈ x.own, b < w.heap.size := by
  intro b hb
  rcases RP.own_cases hb with rfl | rfl | rfl | e | e
  · exact h.row.lt
  · obtain ⟨n, hm, -⟩ := h.mt
    exact MapV.lt hm
  · obtain ⟨n, hm, -⟩ := h.mw
    exact MapV.lt hm
  · obtain ⟨rs, ho, -⟩ := h.op
    exact (ho.lt b e).2
  · exact (h.nd.lt b e).2
theorem Rc.Own.turnP {α : Type} {R : Rc α} {w w' : World} {base : Nat} {v : Value} {l : List α} {S : List Nat} (h : R.Own w base v l) (ht : Turn S w w') (hs : ∀ g, v.ownBlock = some g → g ∉ S) : R.Own w' base v l := Row.turn h ht hs
/-- what others do to their own blocks -/
theorem RunS.turn {T : List Nat} (h : RunS w O x s) (hT : Turn T w w') (h1 : ∀ b ∈ T, b < w.heap.size → b ∈ O) (h2 : ∀ b ∈ x.own, b ∉ T) : RunS w' O x s := by
  have hk : ∀ b, b < w.heap.size ∧ b ∉ O → w'.heap[b]? = w.heap[b]? := fun b hb => hT.block b hb.1 (fun hx => hb.2 (h1 b hx hb.1))
  have hP : ∀ b, b < w.heap.size ∧ b ∉ O → b < w'.heap.size ∧ b ∉ O := fun b hb => ⟨Nat.lt_of_lt_of_le hb.1 hT.size, hb.2⟩
  have hb : ∀ b ∈ x.own, w'.heap[b]? = w.heap[b]? := fun b hb => hT.block b (h.lt b hb) (h2 b hb)
  obtain ⟨rs, o1, o2⟩ := h.op
  obtain ⟨n, m1, m2⟩ := h.mt
  obtain ⟨k, m3, m4⟩ := h.mw
  exact ⟨h.row.turn hT (h2 _ x.p_own), h.tg.keep hk hP, ⟨rs, o1.turnP hT (fun g hg => h2 g (RP.ov_own hg)), o2.keep hk hP⟩, ⟨n, MapV.of_block m1 (hb _ x.mt_own), m2⟩, ⟨k, MapV.of_block m3 (hb _ x.mw_own), m4⟩,
    h.nd.turnP hT (fun g hg => h2 g (RP.nv_own hg)), h.nodup, h.sub, h.low, fun b hb => Nat.lt_of_lt_of_le (h.lim b hb) hT.size⟩
theorem RunS.below (h : RunS w O x s) (hb : Below w.heap.size w w') : RunS w' O x s := h.turn (Turn.of_below hb) (by simp) (by simp)
/-- more or fewer blocks that are somebody's own -/
theorem RunS.other (h : RunS w O x s) (h1 : ∀ b ∈ O', b < w.heap.size → b ∈ O) (h2 : ∀ b ∈ x.own, b ∈ O') (h3 : ∀ b ∈ O', b < w.heap.size) : RunS w O' x s := by
  have hP : ∀ b, b < w.heap.size ∧ b ∉ O → b < w.heap.size ∧ b ∉ O' := fun b hb => ⟨hb.1, fun hx => hb.2 (h1 b hx hb.1)⟩
  obtain ⟨rs, o1, o2⟩ := h.op
  exact ⟨h.row, h.tg.keep (fun _ _ => rfl) hP, ⟨rs, o1, o2.keep (fun _ _ => rfl) hP⟩, h.mt, h.mw, h.nd, h.nodup, h2, h.low, h3⟩
/-- its own cells turned, nothing else -/
theorem RunS.set (h : RunS w O x s) (hT : Turn [x.p] w w') (hr : Rw w' x.p (runCs x s') 62) (e1 : s'.targets = s.targets) (e2 : s'.stack = s.stack) (e3 : s'.told = s.told) (e4 : s'.written = s.written) (e5 : s'.needs = s.needs)
    (e6 : s'.ev.kind = 1 → s.ev.kind = 1) : RunS w' O x s' := by
  have hpO := h.sub _ x.p_own
  have hk : ∀ b, b < w.heap.size ∧ b ∉ O → w'.heap[b]? = w.heap[b]? := fun b hb => hT.block b hb.1 (fun hx => hb.2 (by rw [List.mem_singleton] at hx; rw [hx]; exact hpO))
  have hP : ∀ b, b < w.heap.size ∧ b ∉ O → b < w'.heap.size ∧ b ∉ O := fun b hb => ⟨Nat.lt_of_lt_of_le hb.1 hT.size, hb.2⟩
  obtain ⟨d1, d2, d3, d4, d5, d6⟩ := RP.parts h.nodup
  obtain ⟨rs, o1, o2⟩ := h.op
  obtain ⟨n, m1, m2⟩ := h.mt
  obtain ⟨k, m3, m4⟩ := h.mw
  refine ⟨hr, e1 ▸ h.tg.keep hk hP, ⟨rs, o1.turnP hT (fun g hg => by simp; exact (d4 g hg).1), e2 ▸ o2.keep hk hP⟩, ⟨n, e3 ▸ MapV.of_block m1 (hT.block _ (h.lt _ x.mt_own) (by simp; exact fun e => d1 e.symm)), ?_⟩, ⟨k, e4 ▸ MapV.of_block m3 (hT.block _ (h.lt _ x.mw_own) (by simp; exact fun e => d2 e.symm)), by rw [e1, e4]; exact m4⟩,
    e5 ▸ h.nd.turnP hT (fun g hg => by simp; exact (d5 g hg).1), h.nodup, h.sub, h.low, fun b hb => Nat.lt_of_lt_of_le (h.lim b hb) hT.size⟩
  rw [e5]
  by_cases hk : s'.ev.kind = 1
  · rw [if_pos hk]; rw [if_pos (e6 hk)] at m2; exact m2
  · rw [if_neg hk]; omega
/-- what a call leaves: the run, which may have moved its rows -/
def Went (w : World) (O : List Nat) (x : RP) (s' : Ip.St) (w' : World) : Prop := ∃ x', x'.p = x.p ∧ RunS w' (x'.own ++ O) x' s' ∧ (∀ b ∈ x'.own, b ∈ x.own ∨ w.heap.size ≤ b) ∧ Turn x.own w w'
theorem Went.same (h : RunS w' O x s') (hT : Turn x.own w w') : Went w O x s' w' := ⟨x, rfl, h.other (fun b hb _ => by
    rcases List.mem_append.1 hb with hb | hb
    · exact h.sub b hb
    · exact hb) (fun b hb => List.mem_append_left _ hb) (fun b hb => by
    rcases List.mem_append.1 hb with hb | hb
    · exact h.lt b hb
    · exact h.lim b hb), fun b hb => .inl hb, hT⟩
theorem Went.trans {w'' : World} {s'' : Ip.St} (h : Went w O x s' w') (k : ∀ x', x'.p = x.p → RunS w' (x'.own ++ O) x' s' → Went w' (x'.own ++ O) x' s'' w'') : Went w O x s'' w'' := by
  obtain ⟨x1, e1, h1, o1, t1⟩ := h
  obtain ⟨x2, e2, h2, o2, t2⟩ := k x1 e1 h1
  refine ⟨x2, e2.trans e1, h2.other (fun b hb _ => by
    rcases List.mem_append.1 hb with hb | hb
    · exact List.mem_append_left _ hb
    · exact List.mem_append_right _ (List.mem_append_right _ hb)) (fun b hb => List.mem_append_left _ hb) (fun b hb => h2.lim b (by
    rcases List.mem_append.1 hb with hb | hb
    · exact List.mem_append_left _ hb
    · exact List.mem_append_right _ (List.mem_append_right _ hb))), fun b hb => ?_, t1.trans t2 (fun b hb hlt => ?_)⟩
  · rcases o2 b hb with hb | hb
    · exact o1 b hb
    · exact .inr (Nat.le_trans t1.size hb)
  · rcases o1 b hb with hb | hb
    · exact hb
    · omega

end Go.Proofs.YtnobmgkdieaclaaGreatDoor

namespace Go.Proofs.YtnobmgkdieaclaaGreatDoor
open Go.RowKit

/-- rows of lines: rows of texts by another name -/
def LnR : Rc (List UInt8) where
  e := 9
  st := 138
  k := 1
  bytes := 16
  z := .string .empty
  enc s := [.string (str s)]
  pos := by decide
  len _ := rfl
  one f u hu := by
    simp only [List.mem_cons, List.not_mem_nil, or_false] at hu
    subst hu; rfl
  info := by kernel_rfl
  under := Tryz.underlying138
  zk := rfl
  small := by decide
theorem own_ln {w : World} {base : Nat} {v : Value} {l : List (List UInt8)} : LnR.Own w base v l ↔ TxR.Own w base v l := Iff.rfl
theorem sl_ln {w : World} {B : Nat} {v : Value} {l : List (List UInt8)} : LnR.Sl w B v l ↔ TxR.Sl w B v l := Iff.rfl

set_option maxRecDepth 100000 in
theorem CloneT_any (l : List (List UInt8)) (v : Value) (B : Nat) (w : World) (hv : TxR.Sl w B v l) (hB : B ≤ w.heap.size) (hl : l.length ≤ 109951162) :
    Calls Tryz.prog 45 #[v] w fun e w' => ∃ a n c, e = .returned (.slice a n c) ∧ TxR.Own w' w.heap.size (.slice a n c) l ∧ Below w.heap.size w w' := by
  have hv0 := hv
  obtain ⟨ad, c, rfl, _, hn, _⟩ := hv0
  cases ad with
  | none =>
    have hc0 := hn rfl
    subst hc0
    have hm : l = [] := List.eq_nil_of_length_eq_zero (by omega)
    subst hm
    have hnil := fun W : World => Lib.run_eql_slice_nil (P := Tryz.prog) W 23 9 none 0 0 0 0 Tryz.underlying23
    go_enter Tryz.func45, Tryz.ntmps45
    go_wp2
    go_ret
    exact ⟨_, _, _, rfl, Rc.Own.nil _ _, Below.refl _ _⟩
  | some x =>
    have Hl : Hid (([] : List (List UInt8)).length + l.length ≤ 1099511627) := by show _ ≤ _; simp; omega
    clear hl
    have h0 : TxR.Own (w.alloc (.cells #[] 9)) w.heap.size (.slice (some ⟨w.heap.size, 0, none⟩) 0 0) [] := World.ownsRow_lit (size := 1) w #[] 0 (Nat.le_refl _) (by decide) rfl
    have hnil := fun W : World => Lib.run_eql_slice_nil (P := Tryz.prog) W 23 9 (some x) l.length c 0 0 Tryz.underlying23
    go_enter Tryz.func45, Tryz.ntmps45
    go_wp2_with (at_builtin; go_must (refine TxR.append rfl (.tmp 5) (.tmp 6) rfl w.heap.size B _ _ [] l rfl h0 rfl (hv.alloc hB _) Hl (by simp) ?_))
    intro v' w' h1 h2
    obtain ⟨a7, n7, c7, rfl⟩ := h1.isSl
    go_wp2
    go_ret
    exact ⟨_, _, _, rfl, h1, ((Below.refl _ w).alloc (Nat.le_refl _) _).grown h2 (by simp) fun k hk => (World.ownsRow.lt h0 k hk).1⟩

set_option maxRecDepth 100000 in
theorem CloneL_any (l : List (List UInt8)) (v : Value) (B : Nat) (w : World) (hv : LnR.Sl w B v l) (hB : B ≤ w.heap.size) (hl : l.length ≤ 109951162) :
    Calls Tryz.prog 138 #[v] w fun e w' => ∃ a n c, e = .returned (.slice a n c) ∧ LnR.Own w' w.heap.size (.slice a n c) l ∧ Below w.heap.size w w' := by
  have hv0 := hv
  obtain ⟨ad, c, rfl, _, hn, _⟩ := hv0
  cases ad with
  | none =>
    have hc0 := hn rfl
    subst hc0
    have hm : l = [] := List.eq_nil_of_length_eq_zero (by omega)
    subst hm
    have hnil := fun W : World => Lib.run_eql_slice_nil (P := Tryz.prog) W 138 9 none 0 0 0 0 Tryz.underlying138
    go_enter Tryz.func138, Tryz.ntmps138
    go_wp2
    go_ret
    exact ⟨_, _, _, rfl, Rc.Own.nil _ _, Below.refl _ _⟩
  | some x =>
    have Hl : Hid (([] : List (List UInt8)).length + l.length ≤ 1099511627) := by show _ ≤ _; simp; omega
    clear hl
    have h0 : LnR.Own (w.alloc (.cells #[] 9)) w.heap.size (.slice (some ⟨w.heap.size, 0, none⟩) 0 0) [] := World.ownsRow_lit (size := 1) w #[] 0 (Nat.le_refl _) (by decide) rfl
    have hnil := fun W : World => Lib.run_eql_slice_nil (P := Tryz.prog) W 138 9 (some x) l.length c 0 0 Tryz.underlying138
    go_enter Tryz.func138, Tryz.ntmps138
    go_wp2_with (at_builtin; go_must (refine LnR.append rfl (.tmp 5) (.tmp 6) rfl w.heap.size B _ _ [] l rfl h0 rfl (hv.alloc hB _) Hl (by simp) ?_))
    intro v' w' h1 h2
    obtain ⟨a7, n7, c7, rfl⟩ := h1.isSl
    go_wp2
    go_ret
    exact ⟨_, _, _, rfl, h1, ((Below.refl _ w).alloc (Nat.le_refl _) _).grown h2 (by simp) fun k hk => (World.ownsRow.lt h0 k hk).1⟩

set_option maxRecDepth 100000 in
theorem CloneB_any (l : List RawB) (v : Value) (B : Nat) (w : World) (hv : BoR.Sl w B v l) (hB : B ≤ w.heap.size) (hl : l.length ≤ 109951162) :
    Calls Tryz.prog 58 #[v] w fun e w' => ∃ a n c, e = .returned (.slice a n c) ∧ BoR.Own w' w.heap.size (.slice a n c) l ∧ Below w.heap.size w w' := by
  have hv0 := hv
  obtain ⟨ad, c, rfl, _, hn, _⟩ := hv0
  cases ad with
  | none =>
    have hc0 := hn rfl
    subst hc0
    have hm : l = [] := List.eq_nil_of_length_eq_zero (by omega)
    subst hm
    have hnil := fun W : World => Lib.run_eql_slice_nil (P := Tryz.prog) W 59 86 none 0 0 0 0 Tryz.underlying59
    go_enter Tryz.func58, Tryz.ntmps58
    go_wp2
    go_ret
    exact ⟨_, _, _, rfl, Rc.Own.nil _ _, Below.refl _ _⟩
  | some x =>
    have Hl : Hid (([] : List RawB).length + l.length ≤ 1099511627) := by show _ ≤ _; simp; omega
    clear hl
    have h0 : BoR.Own (w.alloc (.cells #[] 86)) w.heap.size (.slice (some ⟨w.heap.size, 0, none⟩) 0 0) [] := World.ownsRow_lit (size := 4) w #[] 0 (Nat.le_refl _) (by decide) rfl
    have hnil := fun W : World => Lib.run_eql_slice_nil (P := Tryz.prog) W 59 86 (some x) l.length c 0 0 Tryz.underlying59
    go_enter Tryz.func58, Tryz.ntmps58
    go_wp2_with (at_builtin; go_must (refine BoR.append rfl (.tmp 5) (.tmp 6) rfl w.heap.size B _ _ [] l rfl h0 rfl (hv.alloc hB _) Hl (by simp) ?_))
    intro v' w' h1 h2
    obtain ⟨a7, n7, c7, rfl⟩ := h1.isSl
    go_wp2
    go_ret
    exact ⟨_, _, _, rfl, h1, ((Below.refl _ w).alloc (Nat.le_refl _) _).grown h2 (by simp) fun k hk => (World.ownsRow.lt h0 k hk).1⟩

set_option maxRecDepth 100000 in
theorem CloneS_any (l : List RawS) (v : Value) (B : Nat) (w : World) (hv : SmR.Sl w B v l) (hB : B ≤ w.heap.size) (hl : l.length ≤ 109951162) :
    Calls Tryz.prog 64 #[v] w fun e w' => ∃ a n c, e = .returned (.slice a n c) ∧ SmR.Own w' w.heap.size (.slice a n c) l ∧ Below w.heap.size w w' := by
  have hv0 := hv
  obtain ⟨ad, c, rfl, _, hn, _⟩ := hv0
  cases ad with
  | none =>
    have hc0 := hn rfl
    subst hc0
    have hm : l = [] := List.eq_nil_of_length_eq_zero (by omega)
    subst hm
    have hnil := fun W : World => Lib.run_eql_slice_nil (P := Tryz.prog) W 22 75 none 0 0 0 0 Tryz.underlying22
    go_enter Tryz.func64, Tryz.ntmps64
    go_wp2
    go_ret
    exact ⟨_, _, _, rfl, Rc.Own.nil _ _, Below.refl _ _⟩
  | some x =>
    have Hl : Hid (([] : List RawS).length + l.length ≤ 1099511627) := by show _ ≤ _; simp; omega
    clear hl
    have h0 : SmR.Own (w.alloc (.cells #[] 75)) w.heap.size (.slice (some ⟨w.heap.size, 0, none⟩) 0 0) [] := World.ownsRow_lit (size := 4) w #[] 0 (Nat.le_refl _) (by decide) rfl
    have hnil := fun W : World => Lib.run_eql_slice_nil (P := Tryz.prog) W 22 75 (some x) l.length c 0 0 Tryz.underlying22
    go_enter Tryz.func64, Tryz.ntmps64
    go_wp2_with (at_builtin; go_must (refine SmR.append rfl (.tmp 5) (.tmp 6) rfl w.heap.size B _ _ [] l rfl h0 rfl (hv.alloc hB _) Hl (by simp) ?_))
    intro v' w' h1 h2
    obtain ⟨a7, n7, c7, rfl⟩ := h1.isSl
    go_wp2
    go_ret
    exact ⟨_, _, _, rfl, h1, ((Below.refl _ w).alloc (Nat.le_refl _) _).grown h2 (by simp) fun k hk => (World.ownsRow.lt h0 k hk).1⟩

end Go.Proofs.YtnobmgkdieaclaaGreatDoor

namespace Go.Proofs.YtnobmgkdieaclaaGreatDoor
open Go.RowKit

variable {w w' : World} {O : List Nat} {x : RP} {s : Ip.St}
theorem RunS.free (h : RunS w O x s) (j : Nat) : w.frozen? ⟨x.p, j, none⟩ = false := h.row.free j
theorem RunS.c0 (h : RunS w O x s) : w.cell? ⟨x.p, 0, none⟩ = some (.slice x.ta x.tn x.tc) := h.row.cell 0
theorem RunS.c1 (h : RunS w O x s) : w.cell? ⟨x.p, 1, none⟩ = some (.int .i64 (s.fuel : Int)) := h.row.cell 1
theorem RunS.c2 (h : RunS w O x s) : w.cell? ⟨x.p, 2, none⟩ = some (.int .i64 (s.used : Int)) := h.row.cell 2
theorem RunS.c3 (h : RunS w O x s) : w.cell? ⟨x.p, 3, none⟩ = some (.slice x.oa x.on x.oc) := h.row.cell 3
theorem RunS.c4 (h : RunS w O x s) : w.cell? ⟨x.p, 4, none⟩ = some (.bool s.begun) := h.row.cell 4
theorem RunS.c5 (h : RunS w O x s) : w.cell? ⟨x.p, 5, none⟩ = some (.string (str s.buffer)) := h.row.cell 5
theorem RunS.c6 (h : RunS w O x s) : w.cell? ⟨x.p, 6, none⟩ = some (.map (some x.mt)) := h.row.cell 6
theorem RunS.c7 (h : RunS w O x s) : w.cell? ⟨x.p, 7, none⟩ = some (.map (some x.mw)) := h.row.cell 7
theorem RunS.c8 (h : RunS w O x s) : w.cell? ⟨x.p, 8, none⟩ = some (.slice x.na x.nn x.nc) := h.row.cell 8
theorem RunS.c9 (h : RunS w O x s) : w.cell? ⟨x.p, 9, none⟩ = some (.int .i64 (s.ev.kind : Int)) := h.row.cell 9
theorem RunS.c10 (h : RunS w O x s) : w.cell? ⟨x.p, 10, none⟩ = some (.string (str s.ev.path)) := h.row.cell 10
theorem RunS.c11 (h : RunS w O x s) : w.cell? ⟨x.p, 11, none⟩ = some (.int .i64 (s.ev.why : Int)) := h.row.cell 11
theorem RunS.c12 (h : RunS w O x s) : w.cell? ⟨x.p, 12, none⟩ = some (.string (str s.ev.text)) := h.row.cell 12
theorem RunS.drewN (h : RunS w O x s) (q : Nat) : RunS (w.drewN q) O x s := h.turn (T := []) ((Turn.refl [] w).drewN q) (by simp) (by simp)
/-- an event is laid -/
def evW (w : World) (p : Nat) (e : Ip.Ev) : World := (((w.setCell ⟨p, 9, none⟩ (.int .i64 (e.kind : Int))).setCell ⟨p, 10, none⟩ (.string (str e.path))).setCell ⟨p, 11, none⟩ (.int .i64 (e.why : Int))).setCell ⟨p, 12, none⟩ (.string (str e.text))
theorem evW_turn (w : World) (p : Nat) (e : Ip.Ev) : Turn [p] w (evW w p e) := ((((Turn.refl [p] w).set (fun _ => by simp) _).set (fun _ => by simp) _).set (fun _ => by simp) _).set (fun _ => by simp) _
theorem RunS.event (h : RunS w O x s) (e : Ip.Ev) (he : e.kind = 1 → s.ev.kind = 1) : RunS (evW w x.p e) O x { s with ev := e } := by
  refine h.set (evW_turn _ _ _) ?_ rfl rfl rfl rfl rfl he
  exact (((h.row.set 9 (.int .i64 (e.kind : Int)) (by simp [runCs])).set 10 (.string (str e.path)) (by simp [runCs])).set 11 (.int .i64 (e.why : Int)) (by simp [runCs])).set 12 (.string (str e.text)) (by simp [runCs])
theorem RunS.setUsed (h : RunS w O x s) (u : Nat) : RunS (w.setCell ⟨x.p, 2, none⟩ (.int .i64 (u : Int))) O x { s with used := u } :=
  h.set (Turn.put1 _ _ _ _) (h.row.set 2 _ (by simp [runCs])) rfl rfl rfl rfl rfl id
theorem RunS.setBuffer (h : RunS w O x s) (b : Ip.B) : RunS (w.setCell ⟨x.p, 5, none⟩ (.string (str b))) O x { s with buffer := b } :=
  h.set (Turn.put1 _ _ _ _) (h.row.set 5 _ (by simp [runCs])) rfl rfl rfl rfl rfl id
theorem RunS.setBegun (h : RunS w O x s) (b : Bool) : RunS (w.setCell ⟨x.p, 4, none⟩ (.bool b)) O x { s with begun := b } :=
  h.set (Turn.put1 _ _ _ _) (h.row.set 4 _ (by simp [runCs])) rfl rfl rfl rfl rfl id

set_option maxRecDepth 100000 in
theorem fail_any (why : Nat) (text : List UInt8) (w : World) (O : List Nat) (x : RP) (s : Ip.St) (h : RunS w O x s) :
    Calls Tryz.prog 52 #[.pointer (some ⟨x.p, 0, none⟩), .int .i64 (why : Int), .string (str text)] w fun e w' => e = .returned (.tuple #[]) ∧ RunS w' O x (s.fail why text) ∧ Turn [x.p] w w' := by
  have hE := h.event ⟨3, [], why, text⟩ (fun e => by cases e)
  have hT := evW_turn w x.p ⟨3, [], why, text⟩
  have f := h.free
  have k9 := h.c9
  have k10 := h.c10
  have k11 := h.c11
  have k12 := h.c12
  have HE : Hid (RunS (evW w x.p ⟨3, [], why, text⟩) O x (s.fail why text) ∧ Turn [x.p] w (evW w x.p ⟨3, [], why, text⟩)) := ⟨hE, hT⟩
  clear hE hT h
  unfold evW at HE
  dsimp only at HE
  generalize str text = S at *
  generalize str s.ev.path = P at *
  generalize str s.ev.text = T at *
  go_enter Tryz.func52, Tryz.ntmps52
  go_wp2
  go_end0
  exact ⟨rfl, HE.out⟩

set_option maxRecDepth 100000 in
theorem pay_any (n : Nat) (w : World) (O : List Nat) (x : RP) (s : Ip.St) (h : RunS w O x s) (hu : s.used ≤ s.fuel) (hf : s.fuel ≤ 65536) (hn : n ≤ 1000000000) :
    Calls Tryz.prog 83 #[.pointer (some ⟨x.p, 0, none⟩), .int .i64 (n : Int)] w fun e w' => e = .returned (.bool (s.can n)) ∧ RunS w' O x (s.pay n) ∧ Turn [x.p] w w' := by
  have f := h.free
  have k1 := h.c1
  have k2 := h.c2
  have ub : (s.used : Int) ≤ (s.fuel : Int) := by omega
  have fb : (s.fuel : Int) ≤ 65536 := by omega
  have nb : (n : Int) ≤ 1000000000 := by omega
  by_cases hc : n ≤ s.fuel - s.used
  · have g1 : ¬ (s.fuel : Int) - (s.used : Int) < (n : Int) := by omega
    have d1 : decide ((s.fuel : Int) - (s.used : Int) < (n : Int)) = false := decide_eq_false g1
    have HX := fun q => (h.drewN q).setUsed (s.used + n)
    have hcan : s.can n = true := decide_eq_true hc
    have HE : Hid (∀ q, RunS ((w.drewN q).setCell ⟨x.p, 2, none⟩ (.int .i64 ((s.used : Int) + (n : Int)))) O x (s.pay n)) := by
      show ∀ q, RunS _ _ _ _
      intro q
      have HX := HX q
      unfold Ip.St.pay
      rw [if_pos hcan]
      have e : ((s.used + n : Nat) : Int) = (s.used : Int) + (n : Int) := by omega
      rw [e] at HX
      exact HX
    rw [hcan]
    have HT : Hid (∀ q, Turn [x.p] w ((w.drewN q).setCell ⟨x.p, 2, none⟩ (.int .i64 ((s.used : Int) + (n : Int))))) := fun q => ((Turn.refl _ w).drewN q).set (fun _ => by simp) _
    have vb : (s.used : Int) + (n : Int) ≤ 65536 := by omega
    clear HX hcan h hc hu hf hn
    go_enter Tryz.func83, Tryz.ntmps83
    go_wp2
    go_quiet (fail)
    go_wp2
    go_ret
    exact ⟨rfl, HE.out _, HT.out _⟩
  · have g1 : (s.fuel : Int) - (s.used : Int) < (n : Int) := by omega
    have d1 : decide ((s.fuel : Int) - (s.used : Int) < (n : Int)) = true := decide_eq_true g1
    have hX := fun q => (h.drewN q).setUsed s.fuel
    have hcan : s.can n = false := decide_eq_false hc
    have hF := fun q => fail_any 143 [] _ O x _ (hX q)
    have HE : Hid (s.pay n = Ip.St.fail { s with used := s.fuel } 143 []) := by
      show _ = _
      unfold Ip.St.pay
      rw [hcan]
      rfl
    rw [hcan]
    have HT : Hid (∀ q, Turn [x.p] w ((w.drewN q).setCell ⟨x.p, 2, none⟩ (.int .i64 (s.fuel : Int)))) := fun q => ((Turn.refl _ w).drewN q).set (fun _ => by simp) _
    clear hX hcan h hc hu hf hn
    change ∀ q, Calls _ _ #[_, .int .i64 143, .string ⟨#[]⟩] _ _ at hF
    go_enter Tryz.func83, Tryz.ntmps83
    go_wp2
    go_quiet (fail)
    go_wp2_with (first | (go_at_call 52; refine (hF _).mono ?_; rintro e w1 ⟨rfl, h1, h2⟩) | fail)
    go_ret
    rw [HE.out]
    exact ⟨rfl, h1, (HT.out _).trans h2 (fun _ hx _ => hx)⟩

set_option maxRecDepth 100000 in
theorem mayPut_any (n : Nat) (w : World) (O : List Nat) (x : RP) (s : Ip.St) (h : RunS w O x s) (hu : s.used ≤ s.fuel) (hf : s.fuel ≤ 65536) (hn : n ≤ 1000000000) (hb : s.buffer.length ≤ 256) :
    Calls Tryz.prog 99 #[.pointer (some ⟨x.p, 0, none⟩), .int .i64 (n : Int)] w fun e w' => e = .returned (.bool (s.canPut n)) ∧ RunS w' O x (s.mayPut n) ∧ Turn [x.p] w w' := by
  have k5 := h.c5
  have hz := str_size s.buffer
  have nb : (n : Int) ≤ 1000000000 := by omega
  have bb : ((str s.buffer).size : Int) ≤ 256 := by omega
  by_cases hc : s.buffer.length + n ≤ 256
  · have g1 : ¬ (256 : Int) < ((str s.buffer).size : Int) + (n : Int) := by omega
    have hP := pay_any n w O x s h hu hf hn
    have HE : Hid (s.mayPut n = s.pay n) := by show _ = _; unfold Ip.St.mayPut; rw [if_pos hc]
    have hcp : s.canPut n = s.can n := by unfold Ip.St.canPut; rw [decide_eq_true hc, Bool.true_and]
    rw [hcp]
    clear h hu hf hn hb hc hz hcp
    generalize str s.buffer = S at *
    go_enter Tryz.func99, Tryz.ntmps99
    go_wp2_with (first | (go_at_call 83; refine hP.mono ?_; rintro e w1 ⟨rfl, h1, h2⟩) | fail)
    go_ret
    rw [HE.out]
    exact ⟨rfl, h1, h2⟩
  · have g1 : (256 : Int) < ((str s.buffer).size : Int) + (n : Int) := by omega
    have hF := fail_any 146 [] w O x s h
    change Calls _ _ #[_, .int .i64 146, .string ⟨#[]⟩] _ _ at hF
    have HE : Hid (s.mayPut n = s.fail 146 []) := by show _ = _; unfold Ip.St.mayPut; rw [if_neg hc]
    have hcp : s.canPut n = false := by unfold Ip.St.canPut; rw [decide_eq_false hc, Bool.false_and]
    rw [hcp]
    clear h hu hf hn hb hc hz hcp
    generalize str s.buffer = S at *
    go_enter Tryz.func99, Tryz.ntmps99
    go_wp2_with (first | (go_at_call 52; refine hF.mono ?_; rintro e w1 ⟨rfl, h1, h2⟩) | fail)
    go_ret
    rw [HE.out]
    exact ⟨rfl, h1, h2⟩

end Go.Proofs.YtnobmgkdieaclaaGreatDoor
