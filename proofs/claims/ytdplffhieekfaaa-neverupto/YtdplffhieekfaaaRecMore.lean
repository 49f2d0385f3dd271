/-
  package record: Begins, Write. A text that begins a record is told as one.
-/
import Derived.Test.YtdplffhieekfaaaFences
namespace Go.Proofs.Ytdplffhieekfaaa
open Go.RowKit

/-! ### plain numbers -/

theorem digs_of (n : Nat) : ∀ W : List Nat, W.length = n → (∀ d ∈ W, d < 32) → bdigs (valOf W) n = W := by
  induction n with
  | zero => intro W h _; rw [List.length_eq_zero_iff] at h; rw [h]; rfl
  | succ n ih =>
    intro W h hd
    have hne : W ≠ [] := fun e => by rw [e] at h; cases h
    have e := List.dropLast_concat_getLast hne
    rw [← e, valOf_snoc, bdigs]
    have hlast := hd _ (List.getLast_mem hne)
    have e1 : (valOf W.dropLast * 32 + W.getLast hne) / 32 = valOf W.dropLast := by omega
    have e2 : (valOf W.dropLast * 32 + W.getLast hne) % 32 = W.getLast hne := by omega
    rw [e1, e2, ih _ (by rw [List.length_dropLast, h]; rfl) (fun d hm => hd d (List.dropLast_subset _ hm))]

theorem short_digs (n : Nat) : shortOf n = (bdigs n 13).map fun d => (letterOf d).toUInt8 := by
  rw [bdigs_eq, List.map_map]; rfl

theorem short_get (n j : Nat) (h : j < (shortOf n).length) : (shortOf n)[j] = (letterOf (digAt n j)).toUInt8 := by simp [shortOf]

theorem rec_of_num (x : Nat) (h : x < 9223372036854775808) (hq : x % 4096 = 4095) : recOk (btext (shortOf x)) := by
  obtain ⟨e1, e2⟩ := read_short x h
  refine ⟨e2, ?_, ?_⟩
  · show readNum ⟨(shortOf x).toArray⟩ % 4096 = 4095; rw [e1]; exact hq
  · show (⟨(shortOf (readNum ⟨(shortOf x).toArray⟩)).toArray⟩ : ByteArray) = _; rw [e1]

/-- The greatest number's text. -/
def great63 : List UInt8 := shortOf 9223372036854775807

/-- What Begins tells. -/
def begins (t : List UInt8) : Bool := decide (recOk (btext (t ++ great63.drop t.length)))

/-- A record's beginning is told as one. -/
theorem begins_take (N n : Nat) (h : N < 9223372036854775808) (hq : N % 4096 = 4095) (hn : n ≤ 13) : begins ((shortOf N).take n) = true := by
  unfold begins great63
  apply decide_eq_true
  have hlen : ((shortOf N).take n).length = n := by rw [List.length_take, short_length]; omega
  rw [hlen]
  have hG : ∀ j, j < 13 → digAt 9223372036854775807 j = if j = 0 then 7 else 31 := by decide
  obtain ⟨f, hf⟩ : ∃ f : Nat → Nat, f = fun j => if j < n then digAt N j else digAt 9223372036854775807 j := ⟨_, rfl⟩
  have hf32 : ∀ j, f j < 32 := fun j => by rw [hf]; simp only; split <;> exact digAt_lt _ _
  have h0 : f 0 < 8 := by
    rw [hf]; simp only
    split
    · unfold digAt; rw [show (32 : Nat) ^ (12 - 0) = 1152921504606846976 from rfl]; omega
    · rw [hG 0 (by omega)]; simp
  have h10 : f 10 % 4 = 3 := by
    rw [hf]; simp only
    split
    · unfold digAt; rw [show (32 : Nat) ^ (12 - 10) = 1024 from rfl]; omega
    · rw [hG 10 (by omega)]; simp
  have h11 : f 11 = 31 := by
    rw [hf]; simp only
    split
    · unfold digAt; rw [show (32 : Nat) ^ (12 - 11) = 32 from rfl]; omega
    · rw [hG 11 (by omega)]; simp
  have h12 : f 12 = 31 := by
    rw [hf]; simp only
    split
    · unfold digAt; rw [show (32 : Nat) ^ (12 - 12) = 1 from rfl]; omega
    · rw [hG 12 (by omega)]; simp
  have hW : ∀ d ∈ (List.range 13).map f, d < 32 := fun d hd => by
    obtain ⟨j, _, rfl⟩ := List.mem_map.1 hd
    exact hf32 j
  have hdig := digs_of 13 ((List.range 13).map f) (by simp) hW
  have htext : (shortOf N).take n ++ (shortOf 9223372036854775807).drop n = shortOf (valOf ((List.range 13).map f)) := by
    rw [short_digs (valOf _), hdig]
    apply List.ext_getElem
    · simp [short_length]; omega
    · intro j h1 h2
      simp only [List.length_map, List.length_range] at h2
      simp only [List.getElem_map, List.getElem_range]
      by_cases hj : j < n
      · rw [List.getElem_append_left (by rw [hlen]; exact hj), List.getElem_take, short_get, hf]
        simp only [if_pos hj]
      · rw [List.getElem_append_right (by rw [hlen]; omega), List.getElem_drop, short_get, hf]
        simp only [hlen, if_neg hj]
        congr 3; omega
  rw [htext]
  have hval : valOf ((List.range 13).map f) = ((((((((((((f 0 * 32 + f 1) * 32 + f 2) * 32 + f 3) * 32 + f 4) * 32 + f 5) * 32 + f 6) * 32 + f 7) * 32 + f 8) * 32 + f 9) * 32 + f 10) * 32 + f 11) * 32 + f 12) := by
    simp [valOf, List.range_succ]
  have b := fun j => hf32 j
  have b0 := b 0; have b1 := b 1; have b2 := b 2; have b3 := b 3; have b4 := b 4; have b5 := b 5; have b6 := b 6; have b7 := b 7; have b8 := b 8; have b9 := b 9; have b10 := b 10
  refine rec_of_num _ ?_ ?_ <;> rw [hval] <;> omega

/-! ### the calls -/

theorem btext_append (a b : List UInt8) : btext a ++ btext b = btext (a ++ b) := by
  apply ByteArray.ext
  rw [ByteArray.data_append]
  apply Array.toList_inj.1
  simp

set_option maxRecDepth 100000 in
set_option maxHeartbeats 1000000 in
theorem begins_walk (t gt : List UInt8) (w : World) (h : t.length ≤ 13) (hg : gt.length = 13) (A B E : Int)
    (hwr : ∀ w, Calls Try.prog 41 #[.int .u64 9223372036854775807] w fun e w' => e = .returned (.string (btext gt)) ∧ Below w.heap.size w w')
    (hc : ∀ w, Calls Try.prog 42 #[.string (btext t ++ (btext gt).extract t.length gt.length)] w fun e w' => e = .returned (.tuple #[.int .i64 A, .int .i64 B, .int .i64 E]) ∧ Below w.heap.size w w') :
    Calls Try.prog 32 #[.string (btext t)] w fun e w' => e = .returned (.bool (E == 0)) ∧ Below w.heap.size w w' := by
  have hl13 : (t.length : Int) ≤ (gt.length : Int) := by omega
  have hg' : gt.length ≤ 13 := by omega
  clear hg
  go_enter Try.func32, Try.ntmps32
  go_wp2_with fail
  refine (hwr _).mono ?_
  rintro e w1 ⟨rfl, hb1⟩
  have hb1 : Hid _ := hb1
  clear hwr
  go_wp2_with fail
  refine (hc _).mono ?_
  rintro e w2 ⟨rfl, hb2⟩
  have hb2 : Hid _ := hb2
  go_wp2
  go_ret
  exact ⟨rfl, hb1.out.trans (hb2.out.mono hb1.out.size)⟩

theorem begins_any (t : List UInt8) (w : World) (h : t.length ≤ 13) :
    Calls Try.prog 32 #[.string (btext t)] w fun e w' => e = .returned (.bool (begins t)) ∧ Below w.heap.size w w' := by
  have hgl : great63.length = 13 := short_length _
  have hwr : ∀ w, Calls Try.prog 41 #[.int .u64 9223372036854775807] w fun e w' => e = .returned (.string (btext great63)) ∧ Below w.heap.size w w' := fun w => write_any 9223372036854775807 w (by decide)
  have hlen : (t ++ great63.drop t.length).length = 13 := by rw [List.length_append, List.length_drop]; omega
  have hcat : btext t ++ (btext great63).extract t.length great63.length = btext (t ++ great63.drop t.length) := by rw [btext_drop, btext_append]
  have hs : (btext (t ++ great63.drop t.length)).size = 13 := by rw [btext_size, hlen]
  by_cases ho : recOk (btext (t ++ great63.drop t.length))
  · have hc := fun w => rread_ok _ w hs ho
    rw [show begins t = ((0 : Int) == 0) from decide_eq_true ho]
    rw [← hcat] at hc
    exact begins_walk t great63 w h hgl _ _ 0 hwr hc
  · have hc : ∀ w, Calls Try.prog 42 #[.string (btext (t ++ great63.drop t.length))] w fun e w' => e = .returned (.tuple #[.int .i64 0, .int .i64 0, .int .i64 2]) ∧ Below w.heap.size w w' := fun w => by
      by_cases h1 : readErr (btext (t ++ great63.drop t.length)) = 0
      · by_cases h2 : readNum (btext (t ++ great63.drop t.length)) % 4096 = 4095
        · exact rread_text _ w hs h1 h2 (fun h3 => ho ⟨h1, h2, h3⟩)
        · exact rread_seq _ w hs h1 h2
      · exact rread_err _ w hs h1
    rw [show begins t = ((2 : Int) == 0) from decide_eq_false ho]
    rw [← hcat] at hc
    exact begins_walk t great63 w h hgl _ _ 2 hwr hc

set_option maxRecDepth 100000 in
set_option maxHeartbeats 1000000 in
theorem rwrite_any (node frm to : Nat) (w : World) (h : node < 1024) (h1 : 1 ≤ to) (h2 : to ≤ 2199023255552) :
    Calls Try.prog 36 #[.agg #[.int .i64 node, .int .i64 frm, .int .i64 to]] w fun e w' => e = .returned (.string (btext (recText node to))) ∧ Below w.heap.size w w' := by
  have hj := fun w => join_any ((to : Int) - 1) (node : Int) 4095 w (by omega) (by omega) (by omega) (by omega) (by omega) (by omega)
  have hnum : numOf ((to : Int) - 1) (node : Int) 4095 = ((recNum node to : Nat) : Int) := by unfold numOf recNum; omega
  have hwr := fun w => write_any (recNum node to) w (recNum_lt node to h h1 h2)
  rw [hnum] at hj
  clear hnum
  generalize hX : recNum node to = X at *
  have hres : Hid ((⟨(shortOf X).toArray⟩ : ByteArray) = btext (recText node to)) := by show _ = _; unfold recText; rw [hX]
  clear hX
  go_enter Try.func36, Try.ntmps36
  go_wp2_with fail
  refine (hj _).mono ?_
  rintro e w1 ⟨rfl, hb1⟩
  have hb1 : Hid _ := hb1
  go_wp2_with fail
  refine (hwr _).mono ?_
  rintro e w2 ⟨rfl, hb2⟩
  have hb2 : Hid _ := hb2
  go_wp2
  go_ret
  rw [hres.out]
  exact ⟨rfl, ((((Below.refl _ w).alloc (Nat.le_refl _) _).trans (hb1.out.mono (by simp))).trans (hb2.out.mono (Nat.le_trans (by simp) hb1.out.size)))⟩
end Go.Proofs.Ytdplffhieekfaaa
