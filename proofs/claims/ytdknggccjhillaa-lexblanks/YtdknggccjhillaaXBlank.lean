/-
  WAYS TO PART WORDS AND TO END LINES. No program here.
-/
import Derived.Test.YtdknggccjhillaaXSize
namespace Go.Proofs.Ytdknggccjhillaa.Lx
variable {α : Type}

theorem sep0 : SepOk [32] := blank_sep
theorem sep1 : SepOk [32, 32] := ⟨by simp [eb, bytes], by simp [eb, bytes, B.map], by decide⟩
theorem sep2 : SepOk [32, 92, 10] := ⟨by simp [eb, bytes], by simp [eb, bytes, B.map], by decide⟩
theorem sep3 : SepOk [32, 92, 10, 32] := ⟨by simp [eb, bytes], by simp [eb, bytes, B.map], by decide⟩
theorem sep4 : SepOk [32, 92, 10, 32, 32, 92, 10] := ⟨by simp [eb, bytes], by simp [eb, bytes, B.map], by decide⟩
theorem tl0 : TlOk [] := none_tl
theorem tl1 : TlOk [32, 35, 32, 34, 97, 58, 32, 92, 120] := ⟨by simp [eb, bytes, B.map, rd], by simp [eb, bytes, B.map, Parted, bare], by simp [eb, bytes, B.map], by decide⟩
theorem tl2 : TlOk [32, 32] := ⟨by simp [eb, bytes, B.map, rd], by simp [eb, bytes, B.map, Parted, bare], by simp [eb, bytes, B.map], by decide⟩
theorem tl3 : TlOk [35, 9, 255] := ⟨by simp [eb, bytes, B.map, rd], by simp [eb, bytes, B.map, Parted, bare], by simp [eb, bytes, B.map], by decide⟩
theorem tl4 : TlOk [32] := ⟨by simp [eb, bytes, B.map, rd], by simp [eb, bytes, B.map, Parted, bare], by simp [eb, bytes, B.map], by decide⟩
theorem el_line {s : List UInt8} (h : lexE s = .ok []) (hl : s.getLast? ≠ some 92) : ElOk (s ++ [10]) := by
  intro t
  rw [List.append_assoc, List.singleton_append, lexE_nl hl, h]
  simp only [R.andThen]
  cases lexE t <;> rfl
theorem el_app {a b : List UInt8} (ha : ElOk a) (hb : ElOk b) : ElOk (a ++ b) := by
  intro t
  rw [List.append_assoc, ha, hb]
theorem el0 : ElOk [] := none_el
theorem el2 : ElOk [10] := el_line (s := []) (by simp [lexE, eb, bytes, lns]) (by decide)
theorem el3 : ElOk [32, 10, 35, 32, 109, 111, 114, 101, 10] :=
  el_app (a := [32, 10]) (b := [35, 32, 109, 111, 114, 101, 10]) (el_line (s := [32]) (by simp [lexE, eb, bytes, B.map, lns, line, rd, R.andThen, R.map]) (by decide)) (el_line (s := [35, 32, 109, 111, 114, 101]) (by simp [lexE, eb, bytes, B.map, lns, line, rd, R.andThen, R.map]) (by decide))
theorem el4 : ElOk [9, 10] := el_line (s := [9]) (by simp [lexE, eb, bytes, B.map, lns, line, rd, R.andThen, R.map]) (by decide)

theorem run_app (a b : List (W α × List UInt8)) : run (a ++ b) = run a ++ run b := by
  induction a with
  | nil => rfl
  | cons p r ih =>
    obtain ⟨w, s⟩ := p
    rw [List.cons_append, run, run, ih]
    simp
theorem full_app (a b : List (Bool × List (W α × List UInt8) × List UInt8)) : full (a ++ b) = full a ++ full b := by
  induction a with
  | nil => rfl
  | cons p r ih =>
    obtain ⟨i, l, e⟩ := p
    rw [List.cons_append, full, full, ih]
    simp
/-- words, each with a parting behind it -/
def Seps (pre : List (W α × List UInt8)) : Prop := ∀ p ∈ pre, WOk p.1 ∧ SepOk p.2 ∧ p.2.length ≤ 7
theorem good_last {pre : List (W α × List UInt8)} (h : Seps pre) {w : W α} {t : List UInt8} (hw : WOk w) (ht : TlOk t) : Good (pre ++ [(w, t)]) := by
  induction pre with
  | nil => exact .last hw ht
  | cons p r ih =>
    obtain ⟨h1, h2, -⟩ := h p (List.mem_cons_self ..)
    exact .more h1 h2 (ih fun q hq => h q (List.mem_cons_of_mem _ hq))
theorem seps_add {pre : List (W α × List UInt8)} (h : Seps pre) {w : W α} {s : List UInt8} (hw : WOk w) (hs : SepOk s) (hl : s.length ≤ 7) : Seps (pre ++ [(w, s)]) := by
  intro p hp
  rcases List.mem_append.1 hp with hp | hp
  · exact h p hp
  · rw [List.mem_singleton] at hp
    rw [hp]; exact ⟨hw, hs, hl⟩
/-- lines that say what some lines say -/
def Fulls (D : List (Bool × List (W α × List UInt8) × List UInt8)) (ls : List (Ln α)) : Prop :=
  (∀ x ∈ D, Good x.2.1 ∧ ElOk x.2.2) ∧ (D.map fun x => (⟨(), x.1, x.2.1.map fun p => p.1.er⟩ : Ln Unit)) = ls.map Ln.er
theorem fulls_lex {D : List (Bool × List (W Nat × List UInt8) × List UInt8)} {ls : List (Ln Nat)} (h : Fulls D ls) : ∃ ms, lex (full D) = .ok ms ∧ ls.map Ln.er = ms.map Ln.er := by
  have h1 := lexE_full D h.1
  rw [h.2, lexE_lex] at h1
  cases hm : lex (full D) with
  | bad a => rw [hm] at h1; cases h1
  | ok ms =>
    rw [hm] at h1
    simp only [R.map, R.ok.injEq] at h1
    exact ⟨ms, rfl, h1.symm⟩
theorem fulls_add {D : List (Bool × List (W α × List UInt8) × List UInt8)} {ls : List (Ln α)} (h : Fulls D ls) {x : Ln α} {pre : List (W α × List UInt8)} {w : W α} {t e : List UInt8} (hp : Seps pre) (hw : WOk w) (ht : TlOk t) (he : ElOk e) (hx : x.words = pre.map Prod.fst ++ [w]) : Fulls (D ++ [(x.ind, pre ++ [(w, t)], e)]) (ls ++ [x]) := by
  refine ⟨fun y hy => ?_, ?_⟩
  · rcases List.mem_append.1 hy with hy | hy
    · exact h.1 y hy
    · rw [List.mem_singleton] at hy
      rw [hy]; exact ⟨good_last hp hw ht, he⟩
  · rw [List.map_append, List.map_append, h.2]
    congr 1
    simp only [List.map_cons, List.map_nil, List.map_append, Ln.er, Ln.map, hx, List.map_map]
    rfl

end Go.Proofs.Ytdknggccjhillaa.Lx
