/-
  stampslaw.texts answers true at every step.
  Conditions: the library's variables read as its text lays them; numbers within their kinds; a text that memory holds.
-/
import Derived.Test.YtdplffhieekfaaaDoorRefParse
namespace Go.Proofs.YtdplffhieekfaaaDoor
open Go.RowKit

/-- What a call keeps of a block that was there. -/
theorem kept_cell {B : Nat} {w w1 : World} (hb : Below B w w1) {b o : Nat} (h : b < B) {v : Value} (hv : w.cell? ⟨b, o, none⟩ = some v) : w1.cell? ⟨b, o, none⟩ = some v := by
  rw [hb.cell (p := ⟨b, o, none⟩) h, hv]

set_option maxRecDepth 100000 in
set_option maxHeartbeats 2000000 in
theorem texts_dec_gen (on a b n : Int) (s : ByteArray) (l0 l1 l2 : Int) (w : World) (t : ByteArray) (e1 p1 p2 p3 g1 : Int)
    (c1 : ∀ w', Below w.heap.size w w' → Calls Tryd.prog 10 #[.int .u64 n] w' fun e w'' => e = .returned (.tuple #[.string t, .int .i64 e1]) ∧ Below w'.heap.size w' w'')
    (c2 : ∀ w', Calls Tryd.prog 38 #[.int .u64 n] w' fun e w'' => e = .returned (.tuple #[.string t, .int .i64 e1]) ∧ Below w'.heap.size w' w'')
    (c3 : ∀ w', Calls Tryd.prog 18 #[.int .u64 n] w' fun e w'' => e = .returned (.tuple #[.agg #[.int .i64 p1, .int .i64 p2, .int .i64 p3], .int .i64 g1]) ∧ Below w'.heap.size w' w'')
    (c4 : ∀ w', Calls Tryd.prog 39 #[.int .u64 n] w' fun e w'' => e = .returned (.tuple #[.agg #[.int .i64 p1, .int .i64 p2, .int .i64 p3], .int .i64 g1]) ∧ Below w'.heap.size w' w'') :
    Calls Tryd.prog 24 #[.agg #[.int .i64 1, .int .i64 on, .int .i64 a, .int .i64 b, .int .u64 n, .string s, .int .i64 l0, .int .i64 l1, .int .i64 l2]] w fun e w' => e = .returned (.bool true) ∧ Below w.heap.size w w' := by
  have b0 : Hid (Below w.heap.size w (w.alloc (.cells #[.int .i64 1, .int .i64 on, .int .i64 a, .int .i64 b, .int .u64 n, .string s, .int .i64 l0, .int .i64 l1, .int .i64 l2] 46))) := (Below.refl _ w).alloc (Nat.le_refl _) _
  have n0 := (cell_alloc_new w #[.int .i64 1, .int .i64 on, .int .i64 a, .int .i64 b, .int .u64 n, .string s, .int .i64 l0, .int .i64 l1, .int .i64 l2] 46 4).1
  have s0 : w.heap.size < (w.alloc (.cells #[.int .i64 1, .int .i64 on, .int .i64 a, .int .i64 b, .int .u64 n, .string s, .int .i64 l0, .int .i64 l1, .int .i64 l2] 46)).heap.size := by simp
  have c1' := c1 _ b0.out
  have n0' : Hid _ := n0
  have s0' : Hid _ := s0
  clear c1 n0 s0
  go_enter Tryd.func24, Tryd.ntmps24
  go_wp2_with fail
  refine c1'.mono ?_
  rintro e w1 ⟨rfl, hb1⟩
  have n1 : w1.cell? ⟨w.heap.size, 4, none⟩ = some (.int .u64 n) := kept_cell hb1 s0'.out n0'.out
  have b1 : Hid (Below w.heap.size w w1) := b0.out.trans (hb1.mono (Nat.le_of_lt s0'.out))
  have s1 : w.heap.size < w1.heap.size := Nat.lt_of_lt_of_le s0'.out hb1.size
  clear hb1 b0 n0' s0' c1'
  go_wp2_with fail
  refine (c2 _).mono ?_
  rintro e w2 ⟨rfl, hb2⟩
  have n2 : w2.cell? ⟨w.heap.size, 4, none⟩ = some (.int .u64 n) := kept_cell hb2 s1 n1
  have b2 : Hid (Below w.heap.size w w2) := b1.out.trans (hb2.mono (Nat.le_of_lt s1))
  have s2 : w.heap.size < w2.heap.size := Nat.lt_of_lt_of_le s1 hb2.size
  clear hb2 b1 n1 s1 c2
  go_wp2_with fail
  refine (c3 _).mono ?_
  rintro e w3 ⟨rfl, hb3⟩
  have n3 : w3.cell? ⟨w.heap.size, 4, none⟩ = some (.int .u64 n) := kept_cell hb3 s2 n2
  have b3 : Hid (Below w.heap.size w w3) := b2.out.trans (hb3.mono (Nat.le_of_lt s2))
  have s3 : w.heap.size < w3.heap.size := Nat.lt_of_lt_of_le s2 hb3.size
  clear hb3 b2 n2 s2 c3
  go_wp2_with fail
  refine (c4 _).mono ?_
  rintro e w4 ⟨rfl, hb4⟩
  have q0 : w4.cell? ⟨w3.heap.size, 0, none⟩ = some (.int .i64 p1) := kept_cell hb4 (by simp) (by rw [(cell_alloc_new w3 _ _ 0).1]; rfl)
  have q1 : w4.cell? ⟨w3.heap.size, 1, none⟩ = some (.int .i64 p2) := kept_cell hb4 (by simp) (by rw [(cell_alloc_new w3 _ _ 1).1]; rfl)
  have q2 : w4.cell? ⟨w3.heap.size, 2, none⟩ = some (.int .i64 p3) := kept_cell hb4 (by simp) (by rw [(cell_alloc_new w3 _ _ 2).1]; rfl)
  have b4 : Hid (Below w.heap.size w w4) := (b3.out.alloc (by omega) _).trans (hb4.mono (by simp; omega))
  have s4 : w3.heap.size < w4.heap.size := by have := hb4.size; simp at this; omega
  clear hb4 b3 n3 c4
  go_wp2
  go_ret
  exact ⟨rfl, b4.out.alloc (by omega) _⟩

set_option maxRecDepth 100000 in
set_option maxHeartbeats 2000000 in
theorem texts_short_gen (on a b n : Int) (s : ByteArray) (l0 l1 l2 : Int) (w : World) (t : ByteArray) (e1 : Int)
    (c1 : ∀ w', Calls Tryd.prog 9 #[.int .u64 n] w' fun e w'' => e = .returned (.tuple #[.string t, .int .i64 e1]) ∧ Below w'.heap.size w' w'')
    (c2 : ∀ w', Calls Tryd.prog 40 #[.int .u64 n] w' fun e w'' => e = .returned (.tuple #[.string t, .int .i64 e1]) ∧ w'' = w') :
    Calls Tryd.prog 24 #[.agg #[.int .i64 2, .int .i64 on, .int .i64 a, .int .i64 b, .int .u64 n, .string s, .int .i64 l0, .int .i64 l1, .int .i64 l2]] w fun e w' => e = .returned (.bool true) ∧ Below w.heap.size w w' := by
  have b0 : Hid (Below w.heap.size w (w.alloc (.cells #[.int .i64 2, .int .i64 on, .int .i64 a, .int .i64 b, .int .u64 n, .string s, .int .i64 l0, .int .i64 l1, .int .i64 l2] 46))) := (Below.refl _ w).alloc (Nat.le_refl _) _
  have n0 := (cell_alloc_new w #[.int .i64 2, .int .i64 on, .int .i64 a, .int .i64 b, .int .u64 n, .string s, .int .i64 l0, .int .i64 l1, .int .i64 l2] 46 4).1
  have s0 : w.heap.size < (w.alloc (.cells #[.int .i64 2, .int .i64 on, .int .i64 a, .int .i64 b, .int .u64 n, .string s, .int .i64 l0, .int .i64 l1, .int .i64 l2] 46)).heap.size := by simp
  have n0' : Hid _ := n0
  have s0' : Hid _ := s0
  clear n0 s0
  go_enter Tryd.func24, Tryd.ntmps24
  go_wp2_with fail
  refine (c1 _).mono ?_
  rintro e w1 ⟨rfl, hb1⟩
  have n1 : w1.cell? ⟨w.heap.size, 4, none⟩ = some (.int .u64 n) := kept_cell hb1 s0'.out n0'.out
  have b1 : Hid (Below w.heap.size w w1) := b0.out.trans (hb1.mono (Nat.le_of_lt s0'.out))
  clear hb1 b0 n0' s0' c1
  go_wp2_with fail
  refine (c2 _).mono ?_
  rintro e w2 ⟨rfl, rfl⟩
  clear c2
  go_wp2
  go_ret
  exact ⟨rfl, b1.out⟩

set_option maxRecDepth 100000 in
set_option maxHeartbeats 2000000 in
theorem texts_parse_gen (on a b n : Int) (s : ByteArray) (l0 l1 l2 : Int) (w : World) (x1 x2 x3 x4 : Int)
    (c1 : ∀ w', Below w.heap.size w w' → Calls Tryd.prog 13 #[.string s] w' fun e w'' => e = .returned (.tuple #[.int .u64 x1, .int .i64 x2]) ∧ Below w'.heap.size w' w'')
    (c2 : ∀ w', Calls Tryd.prog 41 #[.string s] w' fun e w'' => e = .returned (.tuple #[.int .u64 x1, .int .i64 x2]) ∧ w'' = w')
    (c3 : ∀ w', Calls Tryd.prog 12 #[.string s] w' fun e w'' => e = .returned (.tuple #[.int .u64 x3, .int .i64 x4]) ∧ w'' = w')
    (c4 : ∀ w', Calls Tryd.prog 42 #[.string s] w' fun e w'' => e = .returned (.tuple #[.int .u64 x3, .int .i64 x4]) ∧ w'' = w') :
    Calls Tryd.prog 24 #[.agg #[.int .i64 3, .int .i64 on, .int .i64 a, .int .i64 b, .int .u64 n, .string s, .int .i64 l0, .int .i64 l1, .int .i64 l2]] w fun e w' => e = .returned (.bool true) ∧ Below w.heap.size w w' := by
  have b0 : Hid (Below w.heap.size w (w.alloc (.cells #[.int .i64 3, .int .i64 on, .int .i64 a, .int .i64 b, .int .u64 n, .string s, .int .i64 l0, .int .i64 l1, .int .i64 l2] 46))) := (Below.refl _ w).alloc (Nat.le_refl _) _
  have n0 := (cell_alloc_new w #[.int .i64 3, .int .i64 on, .int .i64 a, .int .i64 b, .int .u64 n, .string s, .int .i64 l0, .int .i64 l1, .int .i64 l2] 46 5).1
  have s0 : w.heap.size < (w.alloc (.cells #[.int .i64 3, .int .i64 on, .int .i64 a, .int .i64 b, .int .u64 n, .string s, .int .i64 l0, .int .i64 l1, .int .i64 l2] 46)).heap.size := by simp
  have c1' := c1 _ b0.out
  have n0' : Hid _ := n0
  have s0' : Hid _ := s0
  clear n0 s0 c1
  go_enter Tryd.func24, Tryd.ntmps24
  go_wp2_with fail
  refine c1'.mono ?_
  rintro e w1 ⟨rfl, hb1⟩
  have n1 : w1.cell? ⟨w.heap.size, 5, none⟩ = some (.string s) := kept_cell hb1 s0'.out n0'.out
  have b1 : Hid (Below w.heap.size w w1) := b0.out.trans (hb1.mono (Nat.le_of_lt s0'.out))
  clear hb1 b0 n0' s0' c1'
  go_wp2_with fail
  refine (c2 _).mono ?_
  rintro e w2 ⟨rfl, rfl⟩
  clear c2
  go_wp2_with fail
  refine (c3 _).mono ?_
  rintro e w2 ⟨rfl, rfl⟩
  clear c3
  go_wp2_with fail
  refine (c4 _).mono ?_
  rintro e w2 ⟨rfl, rfl⟩
  clear c4
  go_wp2
  go_ret
  exact ⟨rfl, b1.out⟩

theorem texts_dec_yes (on a b n : Int) (s : ByteArray) (l0 l1 l2 : Int) (w : World) (hv : Vars w) (h0 : 0 ≤ n) (h1 : n < 9223372036854775808) :
    Calls Tryd.prog 24 #[.agg #[.int .i64 1, .int .i64 on, .int .i64 a, .int .i64 b, .int .u64 n, .string s, .int .i64 l0, .int .i64 l1, .int .i64 l2]] w fun e w' => e = .returned (.bool true) ∧ Below w.heap.size w w' := by
  obtain ⟨A, rfl⟩ : ∃ A : Nat, n = (A : Int) := ⟨n.toNat, by omega⟩
  exact texts_dec_gen on a b A s l0 l1 l2 w _ _ _ _ _ _ (fun w' hb => decimal_yes A (by omega) w' (hv.on hb).tab.here) (fun w' => rdecimal_yes A (by omega) w') (fun w' => parts_ok A w' h0 h1) (fun w' => rparts_ok A w' h0 h1)
theorem texts_dec_no (on a b n : Int) (s : ByteArray) (l0 l1 l2 : Int) (w : World) (h1 : 9223372036854775808 ≤ n) :
    Calls Tryd.prog 24 #[.agg #[.int .i64 1, .int .i64 on, .int .i64 a, .int .i64 b, .int .u64 n, .string s, .int .i64 l0, .int .i64 l1, .int .i64 l2]] w fun e w' => e = .returned (.bool true) ∧ Below w.heap.size w w' :=
  texts_dec_gen on a b n s l0 l1 l2 w _ _ _ _ _ _ (fun w' _ => (decimal_no n h1 w').mono fun e w'' hh => ⟨hh.1, by rw [hh.2]; exact Below.refl _ _⟩) (fun w' => (rdecimal_no n h1 w').mono fun e w'' hh => ⟨hh.1, by rw [hh.2]; exact Below.refl _ _⟩) (fun w' => parts_no n w' h1) (fun w' => rparts_no n w' h1)
theorem texts_short_yes (on a b n : Int) (s : ByteArray) (l0 l1 l2 : Int) (w : World) (h0 : 0 ≤ n) (h1 : n < 9223372036854775808) :
    Calls Tryd.prog 24 #[.agg #[.int .i64 2, .int .i64 on, .int .i64 a, .int .i64 b, .int .u64 n, .string s, .int .i64 l0, .int .i64 l1, .int .i64 l2]] w fun e w' => e = .returned (.bool true) ∧ Below w.heap.size w w' := by
  obtain ⟨A, rfl⟩ : ∃ A : Nat, n = (A : Int) := ⟨n.toNat, by omega⟩
  exact texts_short_gen on a b A s l0 l1 l2 w _ _ (fun w' => short_yes A (by omega) w') (fun w' => rshort_yes A (by omega) w')
theorem texts_short_no (on a b n : Int) (s : ByteArray) (l0 l1 l2 : Int) (w : World) (h1 : 9223372036854775808 ≤ n) :
    Calls Tryd.prog 24 #[.agg #[.int .i64 2, .int .i64 on, .int .i64 a, .int .i64 b, .int .u64 n, .string s, .int .i64 l0, .int .i64 l1, .int .i64 l2]] w fun e w' => e = .returned (.bool true) ∧ Below w.heap.size w w' :=
  texts_short_gen on a b n s l0 l1 l2 w _ _ (fun w' => (short_no n h1 w').mono fun e w'' hh => ⟨hh.1, by rw [hh.2]; exact Below.refl _ _⟩) (fun w' => rshort_no n h1 w')
theorem texts_parse (on a b n : Int) (s : ByteArray) (l0 l1 l2 : Int) (w : World) (hv : Vars w) (hs : s.size ≤ 281474976710656) :
    Calls Tryd.prog 24 #[.agg #[.int .i64 3, .int .i64 on, .int .i64 a, .int .i64 b, .int .u64 n, .string s, .int .i64 l0, .int .i64 l1, .int .i64 l2]] w fun e w' => e = .returned (.bool true) ∧ Below w.heap.size w w' :=
  texts_parse_gen on a b n s l0 l1 l2 w _ _ _ _ (fun w' hb => parseDecimal_any s w' (hv.on hb) hs) (fun w' => rparseDecimal_any s w') (fun w' => parseShort_any s w') (fun w' => rparseShort_any s w')

set_option maxRecDepth 100000 in
set_option maxHeartbeats 2000000 in
theorem texts_range_ok (on a b n : Int) (s : ByteArray) (l0 l1 l2 : Int) (w : World) (h0 : 0 ≤ a) (h1 : a ≤ b) (h2 : b ≤ 2199023255552) :
    Calls Tryd.prog 24 #[.agg #[.int .i64 4, .int .i64 on, .int .i64 a, .int .i64 b, .int .u64 n, .string s, .int .i64 l0, .int .i64 l1, .int .i64 l2]] w fun e w' => e = .returned (.bool true) ∧ Below w.heap.size w w' := by
  have c1 := fun w => range_ok a b w h0 h1 h2
  have c2 := fun w => rrange_ok a b w h0 h1 h2
  clear h0 h1 h2
  generalize a * 4194304 = x1 at *
  generalize b * 4194304 = x2 at *
  go_enter Tryd.func24, Tryd.ntmps24
  go_wp2_with fail
  refine (c1 _).mono ?_
  rintro e w' ⟨rfl, rfl⟩
  clear c1
  go_wp2_with fail
  refine (c2 _).mono ?_
  rintro e w' ⟨rfl, rfl⟩
  clear c2
  go_wp2
  go_ret
  exact ⟨rfl, (Below.refl _ w).alloc (Nat.le_refl _) _⟩

set_option maxRecDepth 100000 in
set_option maxHeartbeats 2000000 in
theorem texts_range_no (on a b n : Int) (s : ByteArray) (l0 l1 l2 : Int) (w : World) (h : a < 0 ∨ b < a ∨ 2199023255552 < b) :
    Calls Tryd.prog 24 #[.agg #[.int .i64 4, .int .i64 on, .int .i64 a, .int .i64 b, .int .u64 n, .string s, .int .i64 l0, .int .i64 l1, .int .i64 l2]] w fun e w' => e = .returned (.bool true) ∧ Below w.heap.size w w' := by
  have c1 := fun w => range_no a b w h
  have c2 := fun w => rrange_no a b w h
  clear h
  go_enter Tryd.func24, Tryd.ntmps24
  go_wp2_with fail
  refine (c1 _).mono ?_
  rintro e w' ⟨rfl, rfl⟩
  clear c1
  go_wp2_with fail
  refine (c2 _).mono ?_
  rintro e w' ⟨rfl, rfl⟩
  clear c2
  go_wp2
  go_ret
  exact ⟨rfl, (Below.refl _ w).alloc (Nat.le_refl _) _⟩

theorem texts_any (kd on a b n : Int) (s : ByteArray) (l0 l1 l2 : Int) (w : World) (hv : Vars w) (hk : 1 ≤ kd) (hk4 : kd ≤ 4) (h0 : 0 ≤ n) (hs : s.size ≤ 281474976710656) :
    Calls Tryd.prog 24 #[.agg #[.int .i64 kd, .int .i64 on, .int .i64 a, .int .i64 b, .int .u64 n, .string s, .int .i64 l0, .int .i64 l1, .int .i64 l2]] w fun e w' => e = .returned (.bool true) ∧ Below w.heap.size w w' := by
  by_cases k1 : kd = 1
  · subst k1
    by_cases h1 : n < 9223372036854775808
    · exact texts_dec_yes on a b n s l0 l1 l2 w hv h0 h1
    · exact texts_dec_no on a b n s l0 l1 l2 w (by omega)
  by_cases k2 : kd = 2
  · subst k2
    by_cases h1 : n < 9223372036854775808
    · exact texts_short_yes on a b n s l0 l1 l2 w h0 h1
    · exact texts_short_no on a b n s l0 l1 l2 w (by omega)
  by_cases k3 : kd = 3
  · subst k3
    exact texts_parse on a b n s l0 l1 l2 w hv hs
  obtain rfl : kd = 4 := by omega
  by_cases h : a < 0 ∨ b < a ∨ 2199023255552 < b
  · exact texts_range_no on a b n s l0 l1 l2 w h
  · exact texts_range_ok on a b n s l0 l1 l2 w (by omega) (by omega) (by omega)
end Go.Proofs.YtdplffhieekfaaaDoor
