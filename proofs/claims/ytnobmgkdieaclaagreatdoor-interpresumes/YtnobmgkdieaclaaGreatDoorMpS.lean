/-
  A MAP FROM TEXTS TO TEXTS, READ AS A FUNCTION: block b holds n entries, the text at x is f x.
-/
import Derived.Test.YtnobmgkdieaclaaGreatDoorProg
import Derived.WalkKit
import Derived.Maps.OwnSet
import Derived.Maps.Views
import Derived.Maps.RangeWalk
import Derived.Sort.KeysCollected
import Derived.Test.YtnobmgkdieaclaaGreatDoorPBs
import Derived.Test.YtnobmgkdieaclaaGreatDoorALineR
namespace Go.Proofs.YtnobmgkdieaclaaGreatDoor
open Go.RowKit Go.Maps Go.ChangeMaps Go.MapKept Go.WideMaps

def tokT (v : Value) : Option (DataW Value × List MemPlace) := some (.held v, [])
theorem tight_map {w : World} {b N : Nat} {D : DataW Value} (h : w.ownsMap Tryz.prog 9 tokT b N D) : w.ownsMap Tryz.prog 9 tokT b (Maps.size D) D := by
  obtain ⟨es, clock, hb, F, hs, rfl⟩ := h
  exact ⟨es, clock, hb, F, Nat.le_of_eq (length_read es).symm, rfl⟩
/-- block b of w is a map of n entries whose text at x is f x -/
def MapS (w : World) (b n : Nat) (f : ByteArray → Option ByteArray) : Prop :=
  ∃ D : DataW Value, w.ownsMap Tryz.prog 9 tokT b n D ∧ Maps.size D = n ∧ (∀ x, Maps.has D (.string x.data.toList) = (f x).isSome) ∧ (∀ x s, f x = some s → ∀ z, D.atKey (.string x.data.toList) z = .held (.string s))
theorem keyed9 : Keyed Tryz.prog 9 := string_keyed Tryz.underlying9
theorem key9 {x : ByteArray} (h : x.size ≤ 1099511627) : keyOf Tryz.prog 9 (.string x) = some (.string x.data.toList) := keyOf_string_mk Tryz.underlying9 (by unfold maxLen; omega)
theorem isKeyStr (l : List UInt8) : WideAt.IsKeyLit (.string l) := trivial
theorem key_ne {x y : ByteArray} (h : x ≠ y) : (Lit.string x.data.toList) ≠ .string y.data.toList := fun e => by
  simp only [Lit.string.injEq] at e
  exact h (ByteArray.ext (Array.toList_inj.1 e))
def updS (f : ByteArray → Option ByteArray) (x : ByteArray) (v : Option ByteArray) : ByteArray → Option ByteArray := fun y => if y = x then v else f y
variable {w : World} {b n : Nat} {f : ByteArray → Option ByteArray}
theorem MapS.lt (h : MapS w b n f) : b < w.heap.size := by
  obtain ⟨D, h1, _⟩ := h
  exact h1.lt
theorem MapS.of_block {w' : World} (h : MapS w b n f) (hb : w'.heap[b]? = w.heap[b]?) : MapS w' b n f := by
  obtain ⟨D, ⟨es, clock, h1, F, hs, hD⟩, h2, h3⟩ := h
  exact ⟨D, ⟨es, clock, hb.trans h1, F, hs, hD⟩, h2, h3⟩
theorem MapS.made (w : World) : MapS (w.alloc (.map #[] 0)) w.heap.size 0 (fun _ => none) :=
  ⟨.map [], World.ownsMap_made w _ _ _, rfl, fun _ => rfl, fun _ _ h => by cases h⟩
theorem MapS.look (h : MapS w b n f) {t : TypeId} (ht : Tryz.prog.underlying t = some (.map 9 9)) {x : ByteArray} (hx : x.size ≤ 1099511627) :
    (Instr.lookup t (.map (some b)) (.string x) true).run Tryz.prog w = .ok (.tuple #[.string ((f x).getD .empty), .bool (f x).isSome]) w := by
  obtain ⟨D, ho, -, hh, ha⟩ := h
  obtain ⟨v, ps, hr, hv⟩ := ho.look_ok keyed9 ht (z := .string .empty) (by kernel_rfl) (zd := .held (.string .empty)) (zp := []) rfl (key9 hx)
  rw [hr, hh x]
  simp only [tokT, Option.some.injEq, Prod.mk.injEq] at hv
  obtain ⟨hv, _⟩ := hv
  cases hf : f x with
  | some u =>
    rw [ha x u hf] at hv
    cases hv
    rfl
  | none =>
    rw [atKey_of_not_has (by rw [hh x, hf]; rfl)] at hv
    cases hv
    rfl
theorem MapS.len (h : MapS w b n f) {t : TypeId} (ht : Tryz.prog.underlying t = some (.map 9 9)) (ty : TypeId) : (Builtin.len_ #[t] ty #[.map (some b)]).run Tryz.prog w = .ok (.int .i64 (n : Int)) w := by
  obtain ⟨D, ho, hs, -⟩ := h
  rw [ho.len ht ty, hs]
theorem MapS.store (h : MapS w b n f) {t : TypeId} (ht : Tryz.prog.underlying t = some (.map 9 9)) (hn : n < 1099511627) (s : ByteArray) {x : ByteArray} (hx : x.size ≤ 1099511627) :
    ∃ w', (Instr.mapUpdate t (.map (some b)) (.string x) (.string s)).run Tryz.prog w = .ok () w' ∧ MapS w' b (if (f x).isSome then n else n + 1) (updS f x (some s)) ∧ w.mapTurned w' b := by
  obtain ⟨D, ho, hs, hh, ha⟩ := h
  obtain ⟨w', hr, ho', ht'⟩ := ho.store keyed9 ht (by unfold maxLen; omega) (val := .string s) (d := .held (.string s)) (ps := []) (key9 hx) rfl
  have hz : Maps.size (D.put (.string x.data.toList) (.held (.string s))) = if (f x).isSome then n else n + 1 := by
    rw [size_put (ho.tidy keyed9), hh x, hs]
  refine ⟨w', hr, ⟨_, hz ▸ tight_map ho', hz, fun y => ?_, fun y u hu z => ?_⟩, ht'⟩
  · unfold updS
    by_cases hy : y = x
    · subst hy; rw [if_pos rfl, has_put_same ho.isMap (isKeyStr _)]; rfl
    · rw [if_neg hy, has_put_other (key_ne hy), hh]
  · unfold updS at hu
    by_cases hy : y = x
    · subst hy; rw [if_pos rfl] at hu; cases hu; exact atKey_put_same ho.isMap (isKeyStr _) _ _
    · rw [if_neg hy] at hu; rw [atKey_put_other (key_ne hy)]; exact ha y u hu z
theorem MapS.drop (h : MapS w b n f) {t : TypeId} (ht : Tryz.prog.underlying t = some (.map 9 9)) {x : ByteArray} (hx : x.size ≤ 1099511627) (ty : TypeId) :
    ∃ w', (Builtin.delete_ #[t, 9] ty #[.map (some b), .string x]).run Tryz.prog w = .ok (.tuple #[]) w' ∧ MapS w' b (if (f x).isSome then n - 1 else n) (updS f x none) ∧ w.mapTurned w' b := by
  obtain ⟨D, ho, hs, hh, ha⟩ := h
  obtain ⟨w', hr, ho', ht'⟩ := ho.drop keyed9 ht (key9 hx) ty
  have hz : Maps.size (D.del (.string x.data.toList)) = if (f x).isSome then n - 1 else n := by
    have := size_del (k := .string x.data.toList) (ho.tidy keyed9)
    rw [hh x, hs] at this
    split <;> simp_all <;> omega
  refine ⟨w', hr, ⟨_, hz ▸ tight_map ho', hz, fun y => ?_, fun y u hu z => ?_⟩, ht'⟩
  · unfold updS
    by_cases hy : y = x
    · subst hy; rw [if_pos rfl, has_del_same]; rfl
    · rw [if_neg hy, has_del_other (key_ne hy), hh]
  · unfold updS at hu
    by_cases hy : y = x
    · subst hy; rw [if_pos rfl] at hu; cases hu
    · rw [if_neg hy] at hu; rw [atKey_del_other (key_ne hy)]; exact ha y u hu z
end Go.Proofs.YtnobmgkdieaclaaGreatDoor

namespace Go.Proofs.YtnobmgkdieaclaaGreatDoor
open Go.RowKit Go.Maps Go.ChangeMaps Go.MapKept Go.WideMaps

/-- block b of w is a map of n entries that reads as D, whose thing at x is f x -/
def MapD {α : Type} (mk : α → Value) (w : World) (b n : Nat) (f : ByteArray → Option α) (D : DataW Value) : Prop :=
  w.ownsMap Tryz.prog 9 tokT b n D ∧ Maps.size D = n ∧ (∀ x, Maps.has D (.string x.data.toList) = (f x).isSome) ∧ (∀ x s, f x = some s → ∀ z, D.atKey (.string x.data.toList) z = .held (mk s))
def MapV {α : Type} (mk : α → Value) (w : World) (b n : Nat) (f : ByteArray → Option α) : Prop := ∃ D, MapD mk w b n f D
def updV {α : Type} (f : ByteArray → Option α) (x : ByteArray) (v : Option α) : ByteArray → Option α := fun y => if y = x then v else f y
variable {α : Type} {mk : α → Value} {w : World} {b n : Nat} {f : ByteArray → Option α}
theorem MapV.lt (h : MapV mk w b n f) : b < w.heap.size := by
  obtain ⟨D, h1, _⟩ := h
  exact h1.lt
theorem MapV.isMap (h : MapV mk w b n f) : ∃ es c, w.heap[b]? = some (.map es c) := by
  obtain ⟨D, ⟨es, clock, h1, -⟩, -⟩ := h
  exact ⟨es, clock, h1⟩
theorem MapV.of_entries {w' : World} {b' : Nat} {es : Array MapEntry} {c : Nat} (h : MapV mk w b n f) (hb : w.heap[b]? = some (.map es c)) (hb' : w'.heap[b']? = some (.map es c)) : MapV mk w' b' n f := by
  obtain ⟨D, ⟨es1, clock, h1, F, hs, hD⟩, h2⟩ := h
  rw [hb] at h1
  simp only [Option.some.injEq, Obj.map.injEq] at h1
  obtain ⟨rfl, rfl⟩ := h1
  exact ⟨D, ⟨es, c, hb', F, hs, hD⟩, h2⟩
theorem MapV.of_block {w' : World} (h : MapV mk w b n f) (hb : w'.heap[b]? = w.heap[b]?) : MapV mk w' b n f := by
  obtain ⟨es, c, h1⟩ := h.isMap
  exact h.of_entries h1 (hb.trans h1)
theorem MapV.made (mk : α → Value) (w : World) : MapV mk (w.alloc (.map #[] 0)) w.heap.size 0 (fun _ => none) :=
  ⟨.map [], World.ownsMap_made w _ _ _, rfl, fun _ => rfl, fun _ _ h => by cases h⟩
theorem MapV.look (h : MapV mk w b n f) {t E : TypeId} (ht : Tryz.prog.underlying t = some (.map 9 E)) {z : Value} (hz : (zeroValue E).run Tryz.prog w = .ok z w) {x : ByteArray} (hx : x.size ≤ 1099511627) :
    (Instr.lookup t (.map (some b)) (.string x) true).run Tryz.prog w = .ok (.tuple #[((f x).map mk).getD z, .bool (f x).isSome]) w := by
  obtain ⟨D, ho, -, hh, ha⟩ := h
  obtain ⟨v, ps, hr, hv⟩ := ho.look_ok keyed9 ht (z := z) hz (zd := .held z) (zp := []) rfl (key9 hx)
  rw [hr, hh x]
  simp only [tokT, Option.some.injEq, Prod.mk.injEq] at hv
  obtain ⟨hv, _⟩ := hv
  cases hf : f x with
  | some u =>
    rw [ha x u hf] at hv
    cases hv
    rfl
  | none =>
    rw [atKey_of_not_has (by rw [hh x, hf]; rfl)] at hv
    cases hv
    rfl
theorem MapV.len (h : MapV mk w b n f) {t E : TypeId} (ht : Tryz.prog.underlying t = some (.map 9 E)) (ty : TypeId) : (Builtin.len_ #[t] ty #[.map (some b)]).run Tryz.prog w = .ok (.int .i64 (n : Int)) w := by
  obtain ⟨D, ho, hs, -⟩ := h
  rw [ho.len ht ty, hs]
theorem MapV.store (h : MapV mk w b n f) {t E : TypeId} (ht : Tryz.prog.underlying t = some (.map 9 E)) (hn : n < 1099511627) (s : α) {x : ByteArray} (hx : x.size ≤ 1099511627) :
    ∃ w', (Instr.mapUpdate t (.map (some b)) (.string x) (mk s)).run Tryz.prog w = .ok () w' ∧ MapV mk w' b (if (f x).isSome then n else n + 1) (updV f x (some s)) ∧ w.mapTurned w' b := by
  obtain ⟨D, ho, hs, hh, ha⟩ := h
  obtain ⟨w', hr, ho', ht'⟩ := ho.store keyed9 ht (by unfold maxLen; omega) (val := mk s) (d := .held (mk s)) (ps := []) (key9 hx) rfl
  have hz : Maps.size (D.put (.string x.data.toList) (.held (mk s))) = if (f x).isSome then n else n + 1 := by
    rw [size_put (ho.tidy keyed9), hh x, hs]
  refine ⟨w', hr, ⟨_, hz ▸ tight_map ho', hz, fun y => ?_, fun y u hu z => ?_⟩, ht'⟩
  · unfold updV
    by_cases hy : y = x
    · subst hy; rw [if_pos rfl, has_put_same ho.isMap (isKeyStr _)]; rfl
    · rw [if_neg hy, has_put_other (key_ne hy), hh]
  · unfold updV at hu
    by_cases hy : y = x
    · subst hy; rw [if_pos rfl] at hu; cases hu; exact atKey_put_same ho.isMap (isKeyStr _) _ _
    · rw [if_neg hy] at hu; rw [atKey_put_other (key_ne hy)]; exact ha y u hu z
theorem MapV.drop (h : MapV mk w b n f) {t E : TypeId} (ht : Tryz.prog.underlying t = some (.map 9 E)) {x : ByteArray} (hx : x.size ≤ 1099511627) (ty : TypeId) :
    ∃ w', (Builtin.delete_ #[t, 9] ty #[.map (some b), .string x]).run Tryz.prog w = .ok (.tuple #[]) w' ∧ MapV mk w' b (if (f x).isSome then n - 1 else n) (updV f x none) ∧ w.mapTurned w' b := by
  obtain ⟨D, ho, hs, hh, ha⟩ := h
  obtain ⟨w', hr, ho', ht'⟩ := ho.drop keyed9 ht (key9 hx) ty
  have hz : Maps.size (D.del (.string x.data.toList)) = if (f x).isSome then n - 1 else n := by
    have := size_del (k := .string x.data.toList) (ho.tidy keyed9)
    rw [hh x, hs] at this
    split <;> simp_all <;> omega
  refine ⟨w', hr, ⟨_, hz ▸ tight_map ho', hz, fun y => ?_, fun y u hu z => ?_⟩, ht'⟩
  · unfold updV
    by_cases hy : y = x
    · subst hy; rw [if_pos rfl, has_del_same]; rfl
    · rw [if_neg hy, has_del_other (key_ne hy), hh]
  · unfold updV at hu
    by_cases hy : y = x
    · subst hy; rw [if_pos rfl] at hu; cases hu
    · rw [if_neg hy] at hu; rw [atKey_del_other (key_ne hy)]; exact ha y u hu z

/-- the keys met so far, while what is left is left: each once, just those that are there and are no longer to come -/
theorem collected_end {D : DataW Value} {left : Lit → Bool} {ss : List (List UInt8)} (hD : MapD mk w b n f D) (hC : Collected D left ss) (hl : ∀ k, left k = false) : (ss.map fun x => (⟨x.toArray⟩ : ByteArray)).Nodup ∧ ∀ q, q ∈ (ss.map fun x => (⟨x.toArray⟩ : ByteArray)) ↔ (f q).isSome = true := by
  have hn : (ss.map fun x => (⟨x.toArray⟩ : ByteArray)).Nodup := by
    refine List.pairwise_map.2 (List.Pairwise.imp (fun {a c} hac e2 => hac ?_) hC.1)
    have := congrArg (fun s : ByteArray => s.data.toList) e2
    simpa using this
  refine ⟨hn, fun q => ?_⟩
  · rw [List.mem_map, ← hD.2.2.1 q]
    constructor
    · rintro ⟨x, hx, rfl⟩
      have := ((hC.2 x).1 hx).1
      simpa using this
    · intro h
      exact ⟨q.data.toList, (hC.2 _).2 ⟨h, hl _⟩, ByteArray.ext (by simp)⟩

end Go.Proofs.YtnobmgkdieaclaaGreatDoor

namespace Go.Proofs.YtnobmgkdieaclaaGreatDoor
open Go.RowKit

/-- a body as it lies in a row -/
structure RawB where
  ca : Option Addr
  cn : Nat
  cc : Nat
  next : Nat
  line : List UInt8
  ra : Option Addr
  rn : Nat
  rc : Nat
def RawB.code (r : RawB) : Value := .slice r.ca r.cn r.cc
def RawB.rounds (r : RawB) : Value := .slice r.ra r.rn r.rc
/-- rows of bodies as they lie -/
def BoR : Rc RawB where
  e := 86
  st := 59
  k := 4
  bytes := 72
  z := .agg #[.slice none 0 0, .int .i64 0, .string .empty, .slice none 0 0]
  enc r := [.slice r.ca r.cn r.cc, .int .i64 (r.next : Int), .string (str r.line), .slice r.ra r.rn r.rc]
  pos := by decide
  len _ := rfl
  one f u hu := by
    simp only [List.mem_cons, List.not_mem_nil, or_false] at hu
    rcases hu with rfl | rfl | rfl | rfl <;> rfl
  info := by kernel_rfl
  under := Tryz.underlying59
  zk := rfl
  small := by decide
/-- a body that lies here reads as this -/
def BoIs (w : World) (P : Nat → Prop) (b : Ip.Bod) (r : RawB) : Prop := r.next = b.next ∧ r.line = b.line ∧ FoP w P r.code b.code ∧ TxR.SlP w P r.rounds b.rounds
def BoRow (w : World) (P : Nat → Prop) : List Ip.Bod → List RawB → Prop
  | [], rs => rs = []
  | b :: l, rs => ∃ r rs', rs = r :: rs' ∧ BoIs w P b r ∧ BoRow w P l rs'
theorem BoIs.keep {w w' : World} {P P' : Nat → Prop} {b : Ip.Bod} {r : RawB} (h : BoIs w P b r) (hk : ∀ b, P b → w'.heap[b]? = w.heap[b]?) (hP : ∀ b, P b → P' b) : BoIs w' P' b r := ⟨h.1, h.2.1, h.2.2.1.keep hk hP, h.2.2.2.keep hk hP⟩
theorem BoRow.keep {w w' : World} {P P' : Nat → Prop} (hk : ∀ b, P b → w'.heap[b]? = w.heap[b]?) (hP : ∀ b, P b → P' b) : ∀ {l : List Ip.Bod} {rs : List RawB}, BoRow w P l rs → BoRow w' P' l rs
  | [], _, h => h
  | _ :: _, _, ⟨r, rs', h1, h2, h3⟩ => ⟨r, rs', h1, h2.keep hk hP, BoRow.keep hk hP h3⟩
theorem BoRow.len {w : World} {P : Nat → Prop} : ∀ {l : List Ip.Bod} {rs : List RawB}, BoRow w P l rs → rs.length = l.length
  | [], _, h => by rw [h]; rfl
  | _ :: _, _, ⟨r, rs', h1, _, h3⟩ => by rw [h1, List.length_cons, List.length_cons, BoRow.len h3]
theorem BoRow.app {w : World} {P : Nat → Prop} : ∀ {l : List Ip.Bod} {rs : List RawB} {m : List Ip.Bod} {qs : List RawB}, BoRow w P l rs → BoRow w P m qs → BoRow w P (l ++ m) (rs ++ qs)
  | [], _, _, _, h, k => by rw [show _ = ([] : List RawB) from h]; exact k
  | _ :: _, _, _, _, ⟨r, rs', h1, h2, h3⟩, k => ⟨r, rs' ++ _, by rw [h1]; rfl, h2, BoRow.app h3 k⟩
/-- the last body -/
theorem BoRow.last {w : World} {P : Nat → Prop} : ∀ {l : List Ip.Bod} {b : Ip.Bod} {rs : List RawB}, BoRow w P (l ++ [b]) rs → ∃ rs' r, rs = rs' ++ [r] ∧ BoRow w P l rs' ∧ BoIs w P b r
  | [], b, _, ⟨r, rs', h1, h2, h3⟩ => ⟨[], r, by rw [h1, show rs' = [] from h3]; rfl, rfl, h2⟩
  | a :: l, b, _, ⟨r, rs', h1, h2, h3⟩ => by
    obtain ⟨qs, q, e, k1, k2⟩ := BoRow.last h3
    exact ⟨r :: qs, q, by rw [h1, e]; rfl, ⟨r, qs, rfl, h2, k1⟩, k2⟩

/-- a map of contents -/
def heldV (s : List UInt8) : Value := .agg #[.string (str s)]
def MapH (w : World) (b n : Nat) (f : Ip.B → Option Ip.B) : Prop := MapV heldV w b n fun k => f (bs k)
theorem bs_str (l : List UInt8) : bs (str l) = l := by simp [bs, str]
theorem str_bs (s : ByteArray) : str (bs s) = s := by cases s; simp [str, bs]
theorem str_inj {a b : List UInt8} (h : str a = str b) : a = b := by rw [← bs_str a, h, bs_str]

/-- where a run lies -/
structure RP where
  p : Nat
  mt : Nat
  mw : Nat
  ta : Option Addr
  tn : Nat
  tc : Nat
  oa : Option Addr
  on : Nat
  oc : Nat
  na : Option Addr
  nn : Nat
  nc : Nat
def RP.tv (x : RP) : Value := .slice x.ta x.tn x.tc
def RP.ov (x : RP) : Value := .slice x.oa x.on x.oc
def RP.nv (x : RP) : Value := .slice x.na x.nn x.nc
/-- the blocks that are the run's alone -/
def RP.own (x : RP) : List Nat := x.p :: x.mt :: x.mw :: (x.ov.ownBlock.toList ++ x.nv.ownBlock.toList)
def evCs (e : Ip.Ev) : List Value := [.int .i64 (e.kind : Int), .string (str e.path), .int .i64 (e.why : Int), .string (str e.text)]
def runCs (x : RP) (s : Ip.St) : Array Value := #[.slice x.ta x.tn x.tc, .int .i64 (s.fuel : Int), .int .i64 (s.used : Int), .slice x.oa x.on x.oc, .bool s.begun, .string (str s.buffer), .map (some x.mt), .map (some x.mw), .slice x.na x.nn x.nc,
  .int .i64 (s.ev.kind : Int), .string (str s.ev.path), .int .i64 (s.ev.why : Int), .string (str s.ev.text)]

/-- in w, the run that lies at x is s; what it shares lies outside of O, what is its own within -/
structure RunS (w : World) (O : List Nat) (x : RP) (s : Ip.St) : Prop where
  row : Rw w x.p (runCs x s) 62
  tg : TxR.SlP w (fun b => b < w.heap.size ∧ b ∉ O) x.tv s.targets
  op : ∃ rs, BoR.Own w 7 x.ov rs ∧ BoRow w (fun b => b < w.heap.size ∧ b ∉ O) s.stack.reverse rs
  mt : ∃ n, MapH w x.mt n s.told ∧ n + (if s.ev.kind = 1 then 1 else 0) ≤ s.needs.length
  mw : ∃ n, MapH w x.mw n s.written ∧ n ≤ s.targets.countP fun p => (s.written p).isSome
  nd : TxR.Own w 7 x.nv s.needs
  nodup : x.own.Nodup
  sub : ∀ b ∈ x.own, b ∈ O
  low : ∀ b ∈ x.own, 7 ≤ b
  lim : ∀ b ∈ O, b < w.heap.size

theorem RP.p_own (x : RP) : x.p ∈ x.own := by simp [RP.own]
theorem RP.mt_own (x : RP) : x.mt ∈ x.own := by simp [RP.own]
theorem RP.mw_own (x : RP) : x.mw ∈ x.own := by simp [RP.own]
theorem RP.ov_own {x : RP} {g : Nat} (h : x.ov.ownBlock = some g) : g ∈ x.own := by simp [RP.own, h]
theorem RP.nv_own {x : RP} {g : Nat} (h : x.nv.ownBlock = some g) : g ∈ x.own := by simp [RP.own, h]
theorem RP.own_cases {x : RP} {b : Nat} (h : b ∈ x.own) : b = x.p ∨ b = x.mt ∨ b = x.mw ∨ x.ov.ownBlock = some b ∨ x.nv.ownBlock = some b := by
  simpa [RP.own] using h
theorem RP.parts {x : RP} (h : x.own.Nodup) : x.p ≠ x.mt ∧ x.p ≠ x.mw ∧ x.mt ≠ x.mw ∧ (∀ g, x.ov.ownBlock = some g → g ≠ x.p ∧ g ≠ x.mt ∧ g ≠ x.mw) ∧ (∀ g, x.nv.ownBlock = some g → g ≠ x.p ∧ g ≠ x.mt ∧ g ≠ x.mw) ∧ (∀ g, x.ov.ownBlock = some g → x.nv.ownBlock ≠ some g) := by
  unfold RP.own at h
  simp only [List.nodup_cons, List.mem_cons, List.mem_append, Option.mem_toList, not_or, List.nodup_append] at h
  obtain ⟨⟨h1, h2, h3, h4⟩, ⟨h5, h6, h7⟩, ⟨h8, h9⟩, h10, h11, h12⟩ := h
  refine ⟨h1, h2, h5, fun g hg => ⟨?_, ?_, ?_⟩, fun g hg => ⟨?_, ?_, ?_⟩, fun g hg hn => ?_⟩
  · rintro rfl; exact h3 hg
  · rintro rfl; exact h6 hg
  · rintro rfl; exact h8 hg
  · rintro rfl; exact h4 hg
  · rintro rfl; exact h7 hg
  · rintro rfl; exact h9 hg
  · exact h12 g hg g hn rfl

variable {w w' : World} {O O' : List Nat} {x : RP} {s s' : Ip.St}
theorem RunS.lt (h : RunS w O x s) : ∀ b ∈ x.own, b < w.heap.size := by
  intro b hb
  rcases RP.own_cases hb with rfl | rfl | rfl | e | e
  · exact h.row.lt
  · obtain ⟨n, hm, -⟩ := h.mt
    exact MapV.lt hm
  · obtain ⟨n, hm, -⟩ := h.mw
    exact MapV.lt hm
  · obtain ⟨rs, ho, -⟩ := h.op
    exact (ho.lt b e).2
  · exact (h.nd.lt b e).2
theorem Rc.Own.turnP {α : Type} {R : Rc α} {w w' : World} {base : Nat} {v : Value} {l : List α} {S : List Nat} (h : R.Own w base v l) (ht : Turn S w w') (hs : ∀ g, v.ownBlock = some g → g ∉ S) : R.Own w' base v l := Row.turn h ht hs
/-- what others do to their own blocks -/
theorem RunS.turn {T : List Nat} (h : RunS w O x s) (hT : Turn T w w') (h1 : ∀ b ∈ T, b < w.heap.size → b ∈ O) (h2 : ∀ b ∈ x.own, b ∉ T) : RunS w' O x s := by
  have hk : ∀ b, b < w.heap.size ∧ b ∉ O → w'.heap[b]? = w.heap[b]? := fun b hb => hT.block b hb.1 (fun hx => hb.2 (h1 b hx hb.1))
  have hP : ∀ b, b < w.heap.size ∧ b ∉ O → b < w'.heap.size ∧ b ∉ O := fun b hb => ⟨Nat.lt_of_lt_of_le hb.1 hT.size, hb.2⟩
  have hb : ∀ b ∈ x.own, w'.heap[b]? = w.heap[b]? := fun b hb => hT.block b (h.lt b hb) (h2 b hb)
  obtain ⟨rs, o1, o2⟩ := h.op
  obtain ⟨n, m1, m2⟩ := h.mt
  obtain ⟨k, m3, m4⟩ := h.mw
  exact ⟨h.row.turn hT (h2 _ x.p_own), h.tg.keep hk hP, ⟨rs, o1.turnP hT (fun g hg => h2 g (RP.ov_own hg)), o2.keep hk hP⟩, ⟨n, MapV.of_block m1 (hb _ x.mt_own), m2⟩, ⟨k, MapV.of_block m3 (hb _ x.mw_own), m4⟩,
    h.nd.turnP hT (fun g hg => h2 g (RP.nv_own hg)), h.nodup, h.sub, h.low, fun b hb => Nat.lt_of_lt_of_le (h.lim b hb) hT.size⟩
theorem RunS.below (h : RunS w O x s) (hb : Below w.heap.size w w') : RunS w' O x s := h.turn (Turn.of_below hb) (by simp) (by simp)
/-- more or fewer blocks that are somebody's own -/
theorem RunS.other (h : RunS w O x s) (h1 : ∀ b ∈ O', b < w.heap.size → b ∈ O) (h2 : ∀ b ∈ x.own, b ∈ O') (h3 : ∀ b ∈ O', b < w.heap.size) : RunS w O' x s := by
  have hP : ∀ b, b < w.heap.size ∧ b ∉ O → b < w.heap.size ∧ b ∉ O' := fun b hb => ⟨hb.1, fun hx => hb.2 (h1 b hx hb.1)⟩
  obtain ⟨rs, o1, o2⟩ := h.op
  exact ⟨h.row, h.tg.keep (fun _ _ => rfl) hP, ⟨rs, o1, o2.keep (fun _ _ => rfl) hP⟩, h.mt, h.mw, h.nd, h.nodup, h2, h.low, h3⟩
/-- its own cells turned, nothing else -/
theorem RunS.set (h : RunS w O x s) (hT : Turn [x.p] w w') (hr : Rw w' x.p (runCs x s') 62) (e1 : s'.targets = s.targets) (e2 : s'.stack = s.stack) (e3 : s'.told = s.told) (e4 : s'.written = s.written) (e5 : s'.needs = s.needs)
    (e6 : s'.ev.kind = 1 → s.ev.kind = 1) : RunS w' O x s' := by
  have hpO := h.sub _ x.p_own
  have hk : ∀ b, b < w.heap.size ∧ b ∉ O → w'.heap[b]? = w.heap[b]? := fun b hb => hT.block b hb.1 (fun hx => hb.2 (by rw [List.mem_singleton] at hx; rw [hx]; exact hpO))
  have hP : ∀ b, b < w.heap.size ∧ b ∉ O → b < w'.heap.size ∧ b ∉ O := fun b hb => ⟨Nat.lt_of_lt_of_le hb.1 hT.size, hb.2⟩
  obtain ⟨d1, d2, d3, d4, d5, d6⟩ := RP.parts h.nodup
  obtain ⟨rs, o1, o2⟩ := h.op
  obtain ⟨n, m1, m2⟩ := h.mt
  obtain ⟨k, m3, m4⟩ := h.mw
  refine ⟨hr, e1 ▸ h.tg.keep hk hP, ⟨rs, o1.turnP hT (fun g hg => by simp; exact (d4 g hg).1), e2 ▸ o2.keep hk hP⟩, ⟨n, e3 ▸ MapV.of_block m1 (hT.block _ (h.lt _ x.mt_own) (by simp; exact fun e => d1 e.symm)), ?_⟩, ⟨k, e4 ▸ MapV.of_block m3 (hT.block _ (h.lt _ x.mw_own) (by simp; exact fun e => d2 e.symm)), by rw [e1, e4]; exact m4⟩,
    e5 ▸ h.nd.turnP hT (fun g hg => by simp; exact (d5 g hg).1), h.nodup, h.sub, h.low, fun b hb => Nat.lt_of_lt_of_le (h.lim b hb) hT.size⟩
  rw [e5]
  by_cases hk : s'.ev.kind = 1
  · rw [if_pos hk]; rw [if_pos (e6 hk)] at m2; exact m2
  · rw [if_neg hk]; omega
/-- what a call leaves: the run, which may have moved its rows -/
def Went (w : World) (O : List Nat) (x : RP) (s' : Ip.St) (w' : World) : Prop := ∃ x', x'.p = x.p ∧ RunS w' (x'.own ++ O) x' s' ∧ (∀ b ∈ x'.own, b ∈ x.own ∨ w.heap.size ≤ b) ∧ Turn x.own w w'
theorem Went.same (h : RunS w' O x s') (hT : Turn x.own w w') : Went w O x s' w' := ⟨x, rfl, h.other (fun b hb _ => by
    rcases List.mem_append.1 hb with hb | hb
    · exact h.sub b hb
    · exact hb) (fun b hb => List.mem_append_left _ hb) (fun b hb => by
    rcases List.mem_append.1 hb with hb | hb
    · exact h.lt b hb
    · exact h.lim b hb), fun b hb => .inl hb, hT⟩
theorem Went.trans {w'' : World} {s'' : Ip.St} (h : Went w O x s' w') (k : ∀ x', x'.p = x.p → RunS w' (x'.own ++ O) x' s' → Went w' (x'.own ++ O) x' s'' w'') : Went w O x s'' w'' := by
  obtain ⟨x1, e1, h1, o1, t1⟩ := h
  obtain ⟨x2, e2, h2, o2, t2⟩ := k x1 e1 h1
  refine ⟨x2, e2.trans e1, h2.other (fun b hb _ => by
    rcases List.mem_append.1 hb with hb | hb
    · exact List.mem_append_left _ hb
    · exact List.mem_append_right _ (List.mem_append_right _ hb)) (fun b hb => List.mem_append_left _ hb) (fun b hb => h2.lim b (by
    rcases List.mem_append.1 hb with hb | hb
    · exact List.mem_append_left _ hb
    · exact List.mem_append_right _ (List.mem_append_right _ hb))), fun b hb => ?_, t1.trans t2 (fun b hb hlt => ?_)⟩
  · rcases o2 b hb with hb | hb
    · exact o1 b hb
    · exact .inr (Nat.le_trans t1.size hb)
  · rcases o1 b hb with hb | hb
    · exact hb
    · omega

end Go.Proofs.YtnobmgkdieaclaaGreatDoor
