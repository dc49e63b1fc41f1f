/-
  LexNames ANSWERS true.
-/
import Derived.Test.YtdknggccjhillaaLWorks
namespace Go.Proofs.Ytdknggccjhillaa
open Go.RowKit

theorem bytes_c (s : List UInt8) (p : Nat) (h : 10 ∉ s) : ∀ b ∈ Lx.bytes p s, b.c ≠ 10 := by
  intro b hb
  have e := Lx.bytes_plain _ p s (Nat.le_refl _) h
  have hm : b.map (fun _ => ()) ∈ s.map Lx.u := by rw [← e]; exact List.mem_map_of_mem hb
  obtain ⟨c, hc, e2⟩ := List.mem_map.1 hm
  have : b.c = c := (congrArg Lx.B.c e2).symm
  rw [this]
  rintro rfl
  exact h hc
theorem lex_hash (r : List UInt8) (h : 10 ∉ r) : Lx.lex (35 :: r) = .ok [] := by
  have hb := bytes_c (35 :: r) 0 (by simp [h])
  unfold Lx.lex
  rw [Lx.bytes_one _ _ _ (.inl (by decide))] at hb ⊢
  obtain ⟨t1, t2⟩ := Lx.tw_all (p := fun x : Lx.B Nat => x.c != 10) (l := ⟨35, false, 0⟩ :: Lx.bytes (0 + 1) r) (fun x hx => by simpa using hb x hx)
  rw [Lx.lns, t1, t2, Lx.line, if_neg (by show ¬ (35 : UInt8) = 9; decide), Lx.rd_hash rfl]
  simp [Lx.R.map, Lx.R.andThen, Lx.lns]
theorem lex_n1 : Lx.lex (bs ⟨#[34, 97, 92, 113]⟩) = .bad 2 := by
  have h : bs ⟨#[34, 97, 92, 113]⟩ = [34, 97, 92, 113] := rfl
  rw [h]
  simp [Lx.lex, Lx.bytes, Lx.lns, Lx.line, Lx.rd, Lx.quo, Lx.quo.qesc, Lx.esc, Lx.R.andThen, Lx.R.map]
theorem lex_n2 : Lx.lex (bs ⟨#[34, 97, 92]⟩) = .bad 2 := by
  have h : bs ⟨#[34, 97, 92]⟩ = [34, 97, 92] := rfl
  rw [h]
  simp [Lx.lex, Lx.bytes, Lx.lns, Lx.line, Lx.rd, Lx.quo, Lx.quo.qesc, Lx.R.andThen, Lx.R.map]
theorem lex_n3 : Lx.lex (bs ⟨#[97, 92]⟩) = .bad 1 := by
  have h : bs ⟨#[97, 92]⟩ = [97, 92] := rfl
  rw [h]
  simp [Lx.lex, Lx.bytes, Lx.lns, Lx.line, Lx.rd, Lx.R.andThen, Lx.R.map, Lx.bare]
theorem lex_n4 : Lx.lex (bs ⟨#[34, 97, 92, 10, 98, 34]⟩) = .ok [⟨0, false, [⟨[97, 32, 98], 0, true, false⟩]⟩] := by
  have h : bs ⟨#[34, 97, 92, 10, 98, 34]⟩ = [34, 97, 92, 10, 98, 34] := rfl
  rw [h]
  simp [Lx.lex, Lx.bytes, Lx.lns, Lx.line, Lx.rd, Lx.quo, Lx.R.andThen, Lx.R.map]

theorem bs_append (a b : ByteArray) : bs (a ++ b) = bs a ++ bs b := by simp [bs, ByteArray.data_append]
theorem full_exists : ∃ (Z : Array Value) (s : ByteArray), s.size = 32767 ∧ 10 ∉ bs s ∧ (∀ W : World, (Instr.makeSlice 44 (.int .i64 32767) (.int .i64 32767)).run Try.prog W = .ok (.slice (some ⟨W.heap.size, 0, none⟩) 32767 32767) (W.alloc (.cells Z 5))) ∧
    ∀ W : World, (convert 44 9 (.slice (some ⟨W.heap.size, 0, none⟩) 32767 32767)).run Try.prog (W.alloc (.cells Z 5)) = .ok (.string s) (W.alloc (.cells Z 5)) := by
  obtain ⟨n, hn⟩ : ∃ n : Nat, n = 32767 := ⟨_, rfl⟩
  refine ⟨(bV (List.replicate n 0)).toArray, str (List.replicate n 0), by rw [str_size, List.length_replicate, hn], ?_, fun W => ?_, fun W => ?_⟩
  · rw [bs_str]
    intro h
    exact absurd (List.eq_of_mem_replicate h) (by decide)
  · rw [make_byts 32767 n (by rw [hn]; rfl) (by omega) W, hn]
  · have hb := byts_lit W (bV (List.replicate n 0)).toArray (List.replicate n 0) 32767 rfl (by rw [List.length_replicate, hn])
    exact conv_byts hb

set_option maxRecDepth 100000 in
set_option maxHeartbeats 2000000 in
theorem names_walk (w : World) : Calls Try.prog 11 #[] w fun e w' => e = .returned (.bool true) ∧ Below w.heap.size w w' := by
  obtain ⟨Z, s, hs, hs10, hmk, hcv⟩ := full_exists
  have j1 : ¬ 9223372036854775807 < 1 + s.size := by omega
  have j2 : ¬ 9223372036854775807 < 2 + s.size := by omega
  have hA1 : ∀ W : World, Calls Try.prog 14 #[.string ((⟨#[35]⟩ : ByteArray) ++ s)] W fun e w' => (∃ ad c, e = .returned (.tuple #[.slice ad 0 c, .agg #[.int .i64 0, .int .i64 0]])) ∧ Below W.heap.size W w' := fun W => by
    have h := Lines_any ((⟨#[35]⟩ : ByteArray) ++ s) W (by rw [ByteArray.size_append, hs]; decide)
    rw [bs_append, show bs (⟨#[35]⟩ : ByteArray) = [35] from rfl, List.singleton_append, lex_hash _ hs10] at h
    refine h.mono fun e w' ⟨⟨v, he, hL⟩, hB⟩ => ⟨?_, hB⟩
    obtain ⟨ad, c, rfl, -⟩ := hL.s.shape
    exact ⟨ad, c, he⟩
  have hA2 : ∀ W : World, Calls Try.prog 14 #[.string ((⟨#[35, 35]⟩ : ByteArray) ++ s)] W fun e w' => e = .returned (.tuple #[.slice none 0 0, .agg #[.int .i64 3, .int .i64 32768]]) ∧ Below W.heap.size W w' := fun W => Lines_long _ W (by rw [ByteArray.size_append, hs]; decide)
  have hA3 : ∀ W : World, Calls Try.prog 14 #[.string ⟨#[34, 97, 92, 113]⟩] W fun e w' => e = .returned (.tuple #[.slice none 0 0, .agg #[.int .i64 6, .int .i64 2]]) ∧ Below W.heap.size W w' := fun W => by
    have h := Lines_any ⟨#[34, 97, 92, 113]⟩ W (by decide)
    rw [lex_n1] at h
    exact h
  have hA4 : ∀ W : World, Calls Try.prog 14 #[.string ⟨#[34, 97, 92]⟩] W fun e w' => e = .returned (.tuple #[.slice none 0 0, .agg #[.int .i64 6, .int .i64 2]]) ∧ Below W.heap.size W w' := fun W => by
    have h := Lines_any ⟨#[34, 97, 92]⟩ W (by decide)
    rw [lex_n2] at h
    exact h
  have hA5 : ∀ W : World, Calls Try.prog 14 #[.string ⟨#[97, 92]⟩] W fun e w' => e = .returned (.tuple #[.slice none 0 0, .agg #[.int .i64 6, .int .i64 1]]) ∧ Below W.heap.size W w' := fun W => by
    have h := Lines_any ⟨#[97, 92]⟩ W (by decide)
    rw [lex_n3] at h
    exact h
  have HA6 : Hid (∀ W : World, Calls Try.prog 14 #[.string ⟨#[34, 97, 92, 10, 98, 34]⟩] W fun e w' => LsEnd ⟨#[34, 97, 92, 10, 98, 34]⟩ W.heap.size e w' (.ok [⟨0, false, [⟨[97, 32, 98], 0, true, false⟩]⟩]) ∧ Below W.heap.size W w') := fun W => by
    have h := Lines_any ⟨#[34, 97, 92, 10, 98, 34]⟩ W (by decide)
    rw [lex_n4] at h
    exact h
  clear hs hs10
  have HA1 : Hid _ := hA1
  have HA2 : Hid _ := hA2
  have HA3 : Hid _ := hA3
  have HA4 : Hid _ := hA4
  have HA5 : Hid _ := hA5
  clear hA1 hA2 hA3 hA4 hA5
  have eS := eql_spot
  have gS := guard_spot
  go_enter Try.func11, Try.ntmps11
  go_wp2_with fail
  refine (works_any _).mono ?_
  rintro e w1 ⟨rfl, hB1⟩
  go_wp2_with fail
  have hC1 := hB1.alloc hB1.size (.cells Z 5)
  clear hmk hcv hB1
  generalize w1.alloc (.cells Z 5) = W1 at *
  refine (HA1.out _).mono ?_
  rintro e w2 ⟨⟨ad1, cp1, rfl⟩, hB2⟩
  have hC2 := hC1.trans (hB2.mono hC1.size)
  have hD2 := hC2.alloc hC2.size (.cells #[.int .i64 0, .int .i64 0] 27)
  have s1 := SV.new w2 0 0
  clear hC1 hB2 hC2
  go_wp2_with fail
  generalize w2.alloc (.cells #[.int .i64 0, .int .i64 0] 27) = W2 at *
  refine (HA2.out _).mono ?_
  rintro e w3 ⟨rfl, hB3⟩
  have hC3 := hD2.trans (hB3.mono hD2.size)
  have hD3 := hC3.alloc hC3.size (.cells #[.int .i64 3, .int .i64 32768] 27)
  have s1' := (s1.below hB3).alloc (.cells #[.int .i64 3, .int .i64 32768] 27)
  have t3 := SV.new w3 3 32768
  clear s1 hB3 hC3 hD2
  go_wp2_with fail
  generalize w3.alloc (.cells #[.int .i64 3, .int .i64 32768] 27) = W3 at *
  refine (HA3.out _).mono ?_
  rintro e w4 ⟨rfl, hB4⟩
  have hC4 := hD3.trans (hB4.mono hD3.size)
  have hD4 := hC4.alloc hC4.size (.cells #[.int .i64 6, .int .i64 2] 27)
  have s1'' := (s1'.below hB4).alloc (.cells #[.int .i64 6, .int .i64 2] 27)
  have t3' := (t3.below hB4).alloc (.cells #[.int .i64 6, .int .i64 2] 27)
  have t4 := SV.new w4 6 2
  clear s1' t3 hB4 hC4 hD3
  go_wp2_with fail
  generalize w4.alloc (.cells #[.int .i64 6, .int .i64 2] 27) = W4 at *
  refine (HA4.out _).mono ?_
  rintro e w5 ⟨rfl, hB5⟩
  have hC5 := hD4.trans (hB5.mono hD4.size)
  have hD5 := hC5.alloc hC5.size (.cells #[.int .i64 6, .int .i64 2] 27)
  have s1''' := (s1''.below hB5).alloc (.cells #[.int .i64 6, .int .i64 2] 27)
  have t3'' := (t3'.below hB5).alloc (.cells #[.int .i64 6, .int .i64 2] 27)
  have t4' := (t4.below hB5).alloc (.cells #[.int .i64 6, .int .i64 2] 27)
  have t5 := SV.new w5 6 2
  clear s1'' t3' t4 hB5 hC5 hD4
  go_wp2_with fail
  generalize w5.alloc (.cells #[.int .i64 6, .int .i64 2] 27) = W5 at *
  refine (HA5.out _).mono ?_
  rintro e w6 ⟨rfl, hB6⟩
  have hC6 := hD5.trans (hB6.mono hD5.size)
  have hD6 := hC6.alloc hC6.size (.cells #[.int .i64 6, .int .i64 1] 27)
  have s1'''' := (s1'''.below hB6).alloc (.cells #[.int .i64 6, .int .i64 1] 27)
  have t3''' := (t3''.below hB6).alloc (.cells #[.int .i64 6, .int .i64 1] 27)
  have t4'' := (t4'.below hB6).alloc (.cells #[.int .i64 6, .int .i64 1] 27)
  have t5' := (t5.below hB6).alloc (.cells #[.int .i64 6, .int .i64 1] 27)
  have t6 := SV.new w6 6 1
  clear s1''' t3'' t4' t5 hB6 hC6 hD5
  go_wp2_with fail
  generalize w6.alloc (.cells #[.int .i64 6, .int .i64 1] 27) = W6 at *
  refine (HA6.out _).mono ?_
  rintro e w7 ⟨⟨v, rfl, hL⟩, hB7⟩
  have hC7 := hD6.trans (hB7.mono hD6.size)
  have hD7 := hC7.alloc hC7.size (.cells #[.int .i64 0, .int .i64 0] 27)
  have hS := (hL.alloc (.cells #[.int .i64 0, .int .i64 0] 27)).s
  have s1''''' := (s1''''.below hB7).alloc (.cells #[.int .i64 0, .int .i64 0] 27)
  have t3'''' := (t3'''.below hB7).alloc (.cells #[.int .i64 0, .int .i64 0] 27)
  have t4''' := (t4''.below hB7).alloc (.cells #[.int .i64 0, .int .i64 0] 27)
  have t5'' := (t5'.below hB7).alloc (.cells #[.int .i64 0, .int .i64 0] 27)
  have t6' := (t6.below hB7).alloc (.cells #[.int .i64 0, .int .i64 0] 27)
  have t7 := SV.new w7 0 0
  clear s1'''' t3''' t4'' t5' t6 hB7 hC7 hD6 hL
  obtain ⟨b, o, c, ad, c2, rfl, hb, p0, p1, p2, hW⟩ := hS.at 0 (by decide)
  obtain ⟨b2, o2, c3, e, hb2, q0, q1, q2, q3, q4⟩ := WdR.at hW 0 (by decide)
  simp only [Value.slice.injEq] at e
  obtain ⟨rfl, -, rfl⟩ := e
  have P2 : (w7.alloc (.cells #[.int .i64 0, .int .i64 0] 27)).cell? ⟨b, o + 2, none⟩ = some (.slice (some ⟨b2, o2, none⟩) 1 c2) := p2
  have Q0 : (w7.alloc (.cells #[.int .i64 0, .int .i64 0] 27)).cell? ⟨b2, o2, none⟩ = some (.string ⟨#[97, 32, 98]⟩) := q0
  clear p0 p1 p2 q0 q1 q2 q3 q4 hW hS
  obtain ⟨x0, y0⟩ := s1'''''.cells
  obtain ⟨x1, y1⟩ := t3''''.cells
  obtain ⟨x2, y2⟩ := t4'''.cells
  obtain ⟨x3, y3⟩ := t5''.cells
  obtain ⟨x4, y4⟩ := t6'.cells
  obtain ⟨x5, y5⟩ := t7.cells
  clear s1''''' t3'''' t4''' t5'' t6' t7
  go_wp2
  go_ret
  exact ⟨rfl, hD7⟩

end Go.Proofs.Ytdknggccjhillaa
