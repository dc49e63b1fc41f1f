/-
  ActionBack: what its text is, ahead of the walk.
-/
import Derived.Test.YtfgdlnidfkjbdaaDoorAPrint
import Derived.Test.YtfgdlnidfkjbdaaDoorAWide
import Derived.Test.YtfgdlnidfkjbdaaDoorYQuo
namespace Go.Proofs.YtfgdlnidfkjbdaaDoor
open Go.RowKit

namespace Ac
theorem show_len (s : List UInt8) : (Lx.show_ s).length ≤ 2 * s.length + 2 := by
  have h := qb_len s
  unfold Lx.show_ Lx.quote
  split
  · omega
  · simp only [List.length_cons, List.length_append, List.length_nil]
    omega
theorem lineRest_len : ∀ (b : Bool) (l : List (List UInt8)), (lineRest b l).length ≤ 3 * bulkL l + 1
  | _, [] => by simp [lineRest, bulkL]
  | true, w :: r => by
    have h1 := lineRest_len false r
    have h2 := show_len w
    rw [lineRest, bulkL, List.length_append]
    omega
  | false, w :: r => by
    have h1 := lineRest_len false r
    have h2 := show_len w
    rw [lineRest, bulkL, List.length_cons, List.length_append]
    omega
theorem text_len : ∀ ls : List (List (List UInt8)), (ls.flatMap lineText).length ≤ 3 * bulk ls
  | [] => by simp
  | l :: r => by
    have h1 := text_len r
    have h2 := lineRest_len true l
    rw [lineRest_text] at h2
    rw [List.flatMap_cons, List.length_append, bulk]
    omega
/-- a line that is told says just these words -/
structure Says (x : Lx.L) (l : List (List UInt8)) : Prop where
  ind : x.ind = false
  words : x.words.map (·.text) = l
  mark : ∀ u ∈ x.words, u.mark = false
theorem says_one {t : List UInt8} {a : Lx.Ln Nat} {l : List (List UInt8)} (h : a.er = asLn l) : Says (Lx.toldL t a) l := by
  simp only [Lx.Ln.er, Lx.Ln.map, asLn, Lx.Ln.mk.injEq, true_and] at h
  obtain ⟨h1, h2⟩ := h
  refine ⟨h1, ?_, fun u hu => ?_⟩
  · have h3 := congrArg (List.map Lx.W.text) h2
    simp only [List.map_map] at h3
    rw [show (Lx.W.text ∘ fun w => (⟨w, (), !Lx.plain w, false⟩ : Lx.W Unit)) = id from rfl, List.map_id] at h3
    rw [← h3]
    simp only [Lx.toldL, List.map_map]
    rfl
  · simp only [Lx.toldL, List.mem_map] at hu
    obtain ⟨y, hy, rfl⟩ := hu
    have h4 : y.map (fun _ => ()) ∈ l.map (fun w => (⟨w, (), !Lx.plain w, false⟩ : Lx.W Unit)) := by rw [← h2]; exact List.mem_map_of_mem hy
    obtain ⟨z, -, hz⟩ := List.mem_map.1 h4
    exact (congrArg Lx.W.mark hz).symm
theorem says_all {t : List UInt8} {L : List (Lx.Ln Nat)} {ls : List (List (List UInt8))} (h : L.map Lx.Ln.er = ls.map asLn) : (L.map (Lx.toldL t)).length = ls.length ∧ ∀ i (hi : i < ls.length), Says ((L.map (Lx.toldL t)).getD i Lx.noL) ls[i] := by
  have hl : L.length = ls.length := by have := congrArg List.length h; simpa using this
  refine ⟨by rw [List.length_map, hl], fun i hi => ?_⟩
  have hi' : i < L.length := by omega
  have e : (L.map (Lx.toldL t)).getD i Lx.noL = Lx.toldL t L[i] := by simp [List.getD, hi']
  rw [e]
  refine says_one ?_
  have h2 : (L.map Lx.Ln.er)[i]? = (ls.map asLn)[i]? := by rw [h]
  simpa [hi, hi'] using h2
theorem Says.len {x : Lx.L} {l : List (List UInt8)} (h : Says x l) : x.words.length = l.length := by rw [← h.words, List.length_map]
end Ac
theorem parse_at {ls : List (List (List UInt8))} {e : Int} {j : Nat} (h : Ac.parse ls = .bad (e, j)) : j ≤ ls.length := by
  unfold Ac.parse at h
  cases hc : Ac.chk 0 0 0 ls with
  | none => rw [hc] at h; cases h
  | some x =>
    rw [hc] at h
    cases h
    have := (Ac.chk_at ls 0 0 0 e j hc).2
    omega
/-- a word of a line that is told -/
theorem word_at {w : World} {B : Nat} {ad : Option Addr} {c : Nat} {x : Lx.L} {l : List (List UInt8)} (hs : Ac.Says x l) (h : WdR.Sl w B (.slice ad l.length c) x.words) {k : Nat} (hk : k < l.length) :
    ∃ b o, ad = some ⟨b, o, none⟩ ∧ b < B ∧ w.cell? ⟨b, o + k * 5, none⟩ = some (.string (str l[k])) ∧ w.cell? ⟨b, o + k * 5 + 4, none⟩ = some (.bool false) := by
  have hl := hs.len
  have hk' : k < x.words.length := by omega
  obtain ⟨b, o, c', e, hb, hc⟩ := h.cells k hk'
  simp only [Value.slice.injEq] at e
  obtain ⟨rfl, -, -⟩ := e
  have c0 := hc 0 _ (by decide) rfl
  have c4 := hc 4 _ (by decide) rfl
  have e1 : (x.words[k]).text = l[k] := by
    have h2 : (x.words.map (·.text))[k]? = l[k]? := by rw [hs.words]
    simpa [hk, hk'] using h2
  have e2 : (x.words[k]).mark = false := hs.mark _ (List.getElem_mem hk')
  rw [e1] at c0
  rw [e2] at c4
  exact ⟨b, o, rfl, hb, c0, by rw [Nat.add_assoc]; exact c4⟩

end Go.Proofs.YtfgdlnidfkjbdaaDoor
