/-
  A TREE, AND A MAP BESIDE IT.
-/
import Derived.Test.YtifolddmcibkdaaLKept
import Derived.Test.YtifolddmcibkdaaLWorks
import Derived.Test.YtifolddmcibkdaaMpS
import Derived.Test.YtifolddmcibkdaaTMissed
namespace Go.Proofs.Ytifolddmcibkdaa
open Go.RowKit

/-- block g is the tree t, block mb a map of n entries that reads as f: both laid since w0, apart -/
def MS (w0 w : World) (g : Nat) (t : Tm.T) (mb n : Nat) (f : ByteArray → Option ByteArray) : Prop := One w0 w g t [mb] ∧ MapS w mb n f ∧ w0.heap.size ≤ mb ∧ Tm.Count f n
variable {w0 w : World} {g mb n : Nat} {t : Tm.T} {f : ByteArray → Option ByteArray}
theorem MS.base (h : MS w0 w g t mb n f) : Below w0.heap.size w0 w := h.1.base
theorem MS.step {w' : World} {t' : Tm.T} (h : MS w0 w g t mb n f) (ho : One w0 w' g t' [mb]) (hk : KeepD [mb] w w') : MS w0 w' g t' mb n f :=
  ⟨ho, h.2.1.of_block (hk mb (by simp)), h.2.2⟩
theorem MS.below {w' : World} (h : MS w0 w g t mb n f) (hb : Below w.heap.size w w') : MS w0 w' g t mb n f := by
  obtain ⟨h1, h2⟩ := h.1.below hb
  exact h.step h1 h2
theorem MWrite (p s : ByteArray) (h : MS w0 w g t mb n f) (hk : Tm.Ok t) :
    Calls Try.prog 18 #[.pointer (some ⟨g, 0, none⟩), .string p, .string s] w fun e w' => e = .returned (.int .i64 ((Tm.write t p s).1 : Int)) ∧ MS w0 w' g (Tm.write t p s).2 mb n f :=
  (OWrite g t _ p s w h.1 hk).mono fun _ _ ⟨he, ho, hd⟩ => ⟨he, h.step ho hd⟩
theorem MRemove (p : ByteArray) (h : MS w0 w g t mb n f) (hk : Tm.Ok t) :
    Calls Try.prog 19 #[.pointer (some ⟨g, 0, none⟩), .string p] w fun e w' => e = .returned (.int .i64 ((Tm.remove t p).1 : Int)) ∧ MS w0 w' g (Tm.remove t p).2 mb n f :=
  (ORemove g t _ p w h.1 hk).mono fun _ _ ⟨he, ho, hd⟩ => ⟨he, h.step ho hd⟩
theorem MRead (p : ByteArray) (h : MS w0 w g t mb n f) (hk : Tm.Ok t) :
    Calls Try.prog 15 #[.pointer (some ⟨g, 0, none⟩), .string p] w fun e w' => e = .returned (.tuple #[.string (Tm.read t p).1, .int .i64 ((Tm.read t p).2 : Int)]) ∧ MS w0 w' g t mb n f ∧ Below w.heap.size w w' := by
  obtain ⟨S, h1, -⟩ := h.1
  exact (TRead_any g t S p w h1 hk).mono fun e w' ⟨he, hl⟩ => ⟨he, h.below hl, hl⟩
theorem MMark (h : MS w0 w g t mb n f) (hk : Tm.Ok t) :
    Calls Try.prog 21 #[.pointer (some ⟨g, 0, none⟩)] w fun e w' => e = .returned (.int .i64 (t.chs.length : Int)) ∧ MS w0 w' g t mb n f ∧ Below w.heap.size w w' := by
  obtain ⟨S, h1, -⟩ := h.1
  exact (TMark_any g t S w h1 hk).mono fun e w' ⟨he, hl⟩ => ⟨he, h.below hl, hl⟩
theorem MLen (h : MS w0 w g t mb n f) (hk : Tm.Ok t) :
    Calls Try.prog 20 #[.pointer (some ⟨g, 0, none⟩)] w fun e w' => e = .returned (.int .i64 (t.files.length : Int)) ∧ MS w0 w' g t mb n f ∧ Below w.heap.size w w' := by
  obtain ⟨S, h1, -⟩ := h.1
  exact (TLen_any g t S w h1 hk).mono fun e w' ⟨he, hl⟩ => ⟨he, h.below hl, hl⟩
theorem MSince (m : Int) (h : MS w0 w g t mb n f) (hk : Tm.Ok t) :
    Calls Try.prog 16 #[.pointer (some ⟨g, 0, none⟩), .int .i64 m] w fun e w' => ∃ v, e = .returned (.tuple #[v, .bool (Tm.since t m).2]) ∧ StR.Sl w' w'.heap.size v (Tm.since t m).1 ∧ MS w0 w' g t mb n f ∧ Below w.heap.size w w' := by
  obtain ⟨S, h1, -⟩ := h.1
  exact (TSince_any g t S m w h1 hk).mono fun e w' ⟨v, he, hv, hl⟩ => ⟨v, he, hv, h.below hl, hl⟩
theorem MListed (pre : ByteArray) (h : MS w0 w g t mb n f) (hk : Tm.Ok t) :
    Calls Try.prog 17 #[.pointer (some ⟨g, 0, none⟩), .string pre] w fun e w' => ∃ v, e = .returned (.tuple #[v, .bool true]) ∧ StR.Sl w' w'.heap.size v (Tm.list t pre) ∧ MS w0 w' g t mb n f ∧ Below w.heap.size w w' := by
  obtain ⟨S, h1, -⟩ := h.1
  exact (listed_any g t S pre w h1 hk).mono fun e w' ⟨v, he, hv, hl⟩ => ⟨v, he, hv.sl, h.below hl, hl⟩
/-- the map has turned, and nothing else -/
theorem MS.turned {w' : World} {n' : Nat} {f' : ByteArray → Option ByteArray} (h : MS w0 w g t mb n f) (ht : w.mapTurned w' mb) (hm : MapS w' mb n' f') (hc : Tm.Count f' n') : MS w0 w' g t mb n' f' := by
  obtain ⟨⟨S, h1, h2, h3, h4⟩, -, h6, -⟩ := h
  have hg := ht.grown
  refine ⟨⟨S, h1.keep fun b hb => hg.block b (h1.lt b hb) fun e => (h2 b hb).2 (by cases e; simp), h2, fun b hb => Nat.lt_of_lt_of_le (h3 b hb) hg.size, h4.trans ?_⟩, hm, h6, hc⟩
  exact (Turn.of_grown hg).below' h4.size (by simpa using h6)
/-- a row of texts stays where a map turns -/
theorem sl_turned {w' : World} {v : Value} {L : List ByteArray} (hv : StR.Sl w w.heap.size v L) (ht : w.mapTurned w' mb) : StR.Sl w' w'.heap.size v L := by
  have hg := ht.grown
  obtain ⟨es, clock, es', clock', hb, -⟩ := ht
  obtain ⟨ad, c, rfl, hle, hn, h⟩ := hv
  refine ⟨ad, c, rfl, hle, hn, fun hne => ?_⟩
  obtain ⟨b, o, ha, hlt, hc⟩ := h hne
  refine ⟨b, o, ha, Nat.lt_of_lt_of_le hlt hg.size, fun j u hu => ?_⟩
  have h0 := hc j u hu
  refine (World.cell?_of_block (a := ⟨b, o + j, none⟩) (hg.block b hlt fun e => ?_)).trans h0
  cases e
  simp only [World.cell?, hb] at h0
  cases h0
theorem MStore (h : MS w0 w g t mb n f) {ty : TypeId} (ht : Try.prog.underlying ty = some (.map 9 9)) (hn : n < 1099511627) (s : ByteArray) {x : ByteArray} (hx : x.size ≤ 1099511627) :
    ∃ w' n', (Instr.mapUpdate ty (.map (some mb)) (.string x) (.string s)).run Try.prog w = .ok () w' ∧ n' ≤ n + 1 ∧ MS w0 w' g t mb n' (updS f x (some s)) ∧ w.mapTurned w' mb := by
  obtain ⟨w', h1, h2, h3⟩ := h.2.1.store ht hn s hx
  exact ⟨w', _, h1, by split <;> omega, h.turned h3 h2 (h.2.2.2.put x s), h3⟩
theorem MDrop (h : MS w0 w g t mb n f) {ty : TypeId} (ht : Try.prog.underlying ty = some (.map 9 9)) {x : ByteArray} (hx : x.size ≤ 1099511627) (tr : TypeId) :
    ∃ w' n', (Builtin.delete_ #[ty, 9] tr #[.map (some mb), .string x]).run Try.prog w = .ok (.tuple #[]) w' ∧ n' ≤ n ∧ MS w0 w' g t mb n' (updS f x none) ∧ w.mapTurned w' mb := by
  obtain ⟨w', h1, h2, h3⟩ := h.2.1.drop ht hx tr
  exact ⟨w', _, h1, by split <;> omega, h.turned h3 h2 (h.2.2.2.del x), h3⟩
theorem MS.new {w1 : World} (hO : One w0 w1 g t []) : MS w0 (w1.alloc (.map #[] 0)) g t w1.heap.size 0 (fun _ => none) := by
  refine ⟨?_, MapS.made w1, hO.base.size, Tm.Count.none⟩
  have := hO.more (A' := [w1.heap.size]) ((Below.refl _ _).alloc (Nat.le_refl _) (.map #[] 0)) (by simp)
  simpa using this

end Go.Proofs.Ytifolddmcibkdaa
