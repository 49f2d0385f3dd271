/-
  Plain numbers: thirteen letters tell their number back (without the decimal numeral); a record's thirteen letters, what it tells, and what a journal of records tells.
  Plain lists: a journal of records, the fences that it tells, when it is one that offices can have told; a journal is told by one list of records alone.
  package record: Read, Begins, Write.
  stamps.readFences: of records an office can have told: their fences; of any other text that has the length of records: ErrText.
  package record: Begins, Write. A text that begins a record is told as one.
  A journal's bytes in memory: a row that []byte made of a text, or append of it; append of a text, and its text again. As steps of a region that draws its order, too.
-/
import Derived.Test.YtdplffhieekfaaaDoorWrite
import Derived.BigQuiet
import Derived.Maps.OwnOps
import Derived.Maps.OwnSet
import Derived.Lib.FrozenHead
import Derived.Deep.RegionLaw
import Derived.Deep.QuietTactic
namespace Go.Proofs.YtdplffhieekfaaaDoor

/-- k digits of n, the highest first. -/
def bdigs (n : Nat) : Nat → List Nat
  | 0 => []
  | k + 1 => bdigs (n / 32) k ++ [n % 32]

theorem bdigs_length (k : Nat) : ∀ n, (bdigs n k).length = k := by
  induction k with
  | zero => intro n; rfl
  | succ k ih => intro n; simp [bdigs, ih]

theorem bdigs_val (k : Nat) : ∀ n, valOf (bdigs n k) = n % 32 ^ k := by
  induction k with
  | zero => intro n; simp [bdigs, valOf, Nat.mod_one]
  | succ k ih =>
    intro n
    rw [bdigs, valOf_snoc, ih, Nat.pow_succ, Nat.mul_comm (32 ^ k) 32, Nat.mod_mul]
    omega

theorem bdigs_get (k : Nat) : ∀ n j, j < k → (bdigs n k)[j]? = some (n / 32 ^ (k - 1 - j) % 32) := by
  induction k with
  | zero => intro n j h; omega
  | succ k ih =>
    intro n j h
    rw [bdigs]
    by_cases hj : j < k
    · rw [List.getElem?_append_left (by rw [bdigs_length]; exact hj), ih _ _ hj, Nat.div_div_eq_div_mul, Nat.mul_comm, ← Nat.pow_succ]
      congr 4; omega
    · have hjk : j = k := by omega
      subst hjk
      rw [List.getElem?_append_right (by rw [bdigs_length]; omega), bdigs_length]
      simp

theorem bdigs_eq (n : Nat) : bdigs n 13 = (List.range 13).map (digAt n) := by
  apply List.ext_getElem?
  intro j
  by_cases hj : j < 13
  · rw [bdigs_get 13 n j hj]
    simp [digAt, hj]
  · rw [List.getElem?_eq_none (by rw [bdigs_length]; omega), List.getElem?_eq_none (by simp; omega)]

theorem bval_digAt (n : Nat) (h : n < 9223372036854775808) : valOf ((List.range 13).map (digAt n)) = n := by
  rw [← bdigs_eq, bdigs_val]
  exact Nat.mod_eq_of_lt (Nat.lt_trans h (by decide))

/-- A text of thirteen letters, each worth the digit at its place, is read as the number. -/
theorem bread_of (s : ByteArray) (n : Nat) (h : n < 9223372036854775808) (hs : s.size = 13) (hw : ∀ j (hj : j < s.size), worthOf s[j].toNat = digAt n j) : readNum s = n ∧ readErr s = 0 := by
  have hl : worths s = (List.range 13).map (digAt n) := by
    apply List.ext_getElem
    · rw [worths_length, hs]; simp
    · intro j h1 h2
      rw [worths_length] at h1
      simp only [worths, List.getElem_map, List.getElem_range]
      exact hw j h1
  have hd : ∀ d ∈ worths s, d < 32 := by
    rw [hl]
    intro d hd
    obtain ⟨j, _, rfl⟩ := List.mem_map.1 hd
    exact digAt_lt n j
  have h8 : worthOf (s.data.toList.getD 0 0).toNat < 8 := by
    rw [first_byte s (by omega), hw 0 (by omega)]
    unfold digAt
    rw [show (32 : Nat) ^ (12 - 0) = 1152921504606846976 from rfl]
    omega
  unfold readNum readErr
  rw [if_pos ⟨hs, hd, h8⟩, if_pos ⟨hs, hd⟩, if_pos h8, hl, bval_digAt n h]
  exact ⟨rfl, rfl⟩


theorem letter_worth_u8 (d : Nat) (h : d < 32) : worthOf ((letterOf d).toUInt8).toNat = d := by
  rw [UInt8.toNat_ofNat_of_lt' (letterOf_lt _)]
  exact worth_letter d h

theorem short_length (n : Nat) : (shortOf n).length = 13 := by simp [shortOf]

theorem short_size (n : Nat) : (⟨(shortOf n).toArray⟩ : ByteArray).size = 13 := by
  show (shortOf n).toArray.size = 13
  simp [shortOf]

/-- A number's short text is read as it. -/
theorem read_short (n : Nat) (h : n < 9223372036854775808) : readNum ⟨(shortOf n).toArray⟩ = n ∧ readErr ⟨(shortOf n).toArray⟩ = 0 := by
  refine bread_of _ n h (short_size n) fun j hj => ?_
  have hj' : j < 13 := by rw [short_size] at hj; exact hj
  have e : (⟨(shortOf n).toArray⟩ : ByteArray)[j] = (letterOf (digAt n j)).toUInt8 := by
    show (shortOf n).toArray[j]'(by simpa [shortOf] using hj') = _
    simp [shortOf]
  exact (congrArg (fun b : UInt8 => worthOf b.toNat) e).trans (letter_worth_u8 _ (digAt_lt n j))

theorem readNum_lt (s : ByteArray) (h : s.size = 13) : readNum s < 9223372036854775808 := by
  unfold readNum
  split
  · rename_i hh
    exact worths_small s h hh.2.1 hh.2.2
  · omega

theorem readErr_cases (s : ByteArray) : readErr s = 0 ∨ readErr s = 1 ∨ readErr s = 2 := by
  unfold readErr
  split
  · split <;> simp
  · simp

/-- A text is a record. -/
abbrev recOk (s : ByteArray) : Prop := readErr s = 0 ∧ readNum s % 4096 = 4095 ∧ (⟨(shortOf (readNum s)).toArray⟩ : ByteArray) = s
def recNode (s : ByteArray) : Nat := readNum s / 4096 % 1024
def recTo (s : ByteArray) : Nat := readNum s / 4194304 + 1

/-- The record of a lease. -/
def recNum (node to : Nat) : Nat := (to - 1) * 4194304 + node * 4096 + 4095
def recText (node to : Nat) : List UInt8 := shortOf (recNum node to)

theorem recNum_lt (node to : Nat) (h : node < 1024) (h1 : 1 ≤ to) (h2 : to ≤ 2199023255552) : recNum node to < 9223372036854775808 := by
  unfold recNum; omega

theorem rec_back (node to : Nat) (h : node < 1024) (h1 : 1 ≤ to) (h2 : to ≤ 2199023255552) :
    recOk ⟨(recText node to).toArray⟩ ∧ recNode ⟨(recText node to).toArray⟩ = node ∧ recTo ⟨(recText node to).toArray⟩ = to := by
  obtain ⟨e1, e2⟩ := read_short (recNum node to) (recNum_lt node to h h1 h2)
  unfold recOk recNode recTo recText
  rw [e1, e2]
  refine ⟨⟨rfl, ?_, rfl⟩, ?_, ?_⟩ <;> unfold recNum <;> omega

theorem recTo_le (s : ByteArray) (h : s.size = 13) : 1 ≤ recTo s ∧ recTo s ≤ 2199023255552 := by
  have := readNum_lt s h
  unfold recTo; omega

/-- The k-th record of a text. -/
def recAt (s : ByteArray) (k : Nat) : ByteArray := s.extract (13 * k) (13 * k + 13)

theorem recAt_size (s : ByteArray) (k : Nat) (h : 13 * (k + 1) ≤ s.size) : (recAt s k).size = 13 := by
  unfold recAt; rw [ByteArray.size_extract]; omega

/-- The fences behind k records. -/
def fenceAfter (s : ByteArray) : Nat → Nat → Nat
  | 0, _ => 0
  | k + 1, nd => if nd = recNode (recAt s k) then recTo (recAt s k) else fenceAfter s k nd

abbrev goodAt (s : ByteArray) (k : Nat) : Prop := recOk (recAt s k) ∧ fenceAfter s k (recNode (recAt s k)) < recTo (recAt s k)

theorem fenceAfter_le (s : ByteArray) : ∀ k nd, 13 * k ≤ s.size → fenceAfter s k nd ≤ 2199023255552
  | 0, _, _ => by unfold fenceAfter; omega
  | k + 1, nd, h => by
    unfold fenceAfter
    split
    · exact (recTo_le _ (recAt_size s k h)).2
    · exact fenceAfter_le s k nd (by omega)

end Go.Proofs.YtdplffhieekfaaaDoor
namespace Go.Proofs.YtdplffhieekfaaaDoor

/-- The text of records, each a node and the To of its lease. -/
def jtext (rs : List (Nat × Nat)) : List UInt8 := rs.flatMap fun r => recText r.1 r.2

/-- The fence of a node behind records. -/
def fenceOf (rs : List (Nat × Nat)) (nd : Nat) : Nat := rs.foldl (fun f r => if r.1 = nd then r.2 else f) 0

/-- Records that an office can have told. -/
def Good (rs : List (Nat × Nat)) : Prop := ∀ k (h : k < rs.length), rs[k].1 < 1024 ∧ rs[k].2 ≤ 2199023255552 ∧ fenceOf (rs.take k) rs[k].1 < rs[k].2

theorem jtext_snoc (rs : List (Nat × Nat)) (r : Nat × Nat) : jtext (rs ++ [r]) = jtext rs ++ recText r.1 r.2 := by simp [jtext]
theorem jtext_append (rs ss : List (Nat × Nat)) : jtext (rs ++ ss) = jtext rs ++ jtext ss := by simp [jtext]
theorem jtext_cons (r : Nat × Nat) (rs : List (Nat × Nat)) : jtext (r :: rs) = recText r.1 r.2 ++ jtext rs := by simp [jtext]
theorem recText_length (a b : Nat) : (recText a b).length = 13 := by unfold recText; exact short_length _
theorem jtext_length (rs : List (Nat × Nat)) : (jtext rs).length = 13 * rs.length := by
  induction rs with
  | nil => rfl
  | cons r rs ih => rw [jtext_cons, List.length_append, recText_length, ih, List.length_cons]; omega

theorem fence_snoc (rs : List (Nat × Nat)) (r : Nat × Nat) (nd : Nat) : fenceOf (rs ++ [r]) nd = if r.1 = nd then r.2 else fenceOf rs nd := by
  unfold fenceOf; rw [List.foldl_append]; rfl

theorem good_nil : Good [] := fun k h => by simp at h

theorem good_snoc {rs : List (Nat × Nat)} {r : Nat × Nat} (h : Good rs) (h1 : r.1 < 1024) (h2 : r.2 ≤ 2199023255552) (h3 : fenceOf rs r.1 < r.2) : Good (rs ++ [r]) := by
  intro k hk
  rw [List.length_append, List.length_singleton] at hk
  by_cases hlt : k < rs.length
  · rw [List.getElem_append_left hlt, List.take_append_of_le_length (by omega)]
    exact h k hlt
  · have : k = rs.length := by omega
    subst this
    rw [List.getElem_append_right (by omega)]
    simp only [Nat.sub_self, List.getElem_cons_zero]
    rw [List.take_append_of_le_length (Nat.le_refl _), List.take_length]
    exact ⟨h1, h2, h3⟩

theorem Good.take {rs : List (Nat × Nat)} (h : Good rs) (n : Nat) : Good (rs.take n) := by
  intro k hk
  rw [List.length_take] at hk
  rw [List.getElem_take, List.take_take, Nat.min_eq_left (by omega)]
  exact h k (by omega)

theorem fence_le {rs : List (Nat × Nat)} (h : Good rs) (nd : Nat) : fenceOf rs nd ≤ 2199023255552 := by
  have key : ∀ k, k ≤ rs.length → fenceOf (rs.take k) nd ≤ 2199023255552 := by
    intro k
    induction k with
    | zero => intro _; simp [fenceOf]
    | succ k ih =>
      intro hk
      rw [List.take_succ_eq_append_getElem (by omega), fence_snoc]
      split
      · exact (h k (by omega)).2.1
      · exact ih (by omega)
  have := key rs.length (Nat.le_refl _)
  rwa [List.take_length] at this

theorem rec_inj {a b c d : Nat} (ha : a < 1024) (hb : 1 ≤ b) (hb2 : b ≤ 2199023255552) (hc : c < 1024) (hd : 1 ≤ d) (hd2 : d ≤ 2199023255552) (h : recText a b = recText c d) : a = c ∧ b = d := by
  obtain ⟨_, e1, e2⟩ := rec_back a b ha hb hb2
  obtain ⟨_, e3, e4⟩ := rec_back c d hc hd hd2
  rw [h] at e1 e2
  exact ⟨e1.symm.trans e3, e2.symm.trans e4⟩

/-- Records that begin a journal are the first ones of it. -/
theorem good_prefix {rs ss : List (Nat × Nat)} {rest : List UInt8} (hr : Good rs) (hs : Good ss) (h : jtext ss = jtext rs ++ rest) : rs = ss.take rs.length := by
  have key : ∀ k, k ≤ rs.length → rs.take k = ss.take k := by
    intro k
    induction k with
    | zero => intro _; simp
    | succ k ih =>
      intro hk
      have hl : rs.length ≤ ss.length := by
        have := congrArg List.length h
        rw [List.length_append, jtext_length, jtext_length] at this
        omega
      have ih := ih (by omega)
      have e1 : jtext ss = jtext (ss.take k) ++ (recText (ss[k]'(by omega)).1 (ss[k]'(by omega)).2 ++ jtext (ss.drop (k + 1))) := by
        rw [← List.append_assoc, ← jtext_snoc, ← List.take_succ_eq_append_getElem (by omega), ← jtext_append, List.take_append_drop]
      have e2 : jtext rs = jtext (rs.take k) ++ (recText (rs[k]'(by omega)).1 (rs[k]'(by omega)).2 ++ jtext (rs.drop (k + 1))) := by
        rw [← List.append_assoc, ← jtext_snoc, ← List.take_succ_eq_append_getElem (by omega), ← jtext_append, List.take_append_drop]
      rw [e1, e2, ih, List.append_assoc] at h
      have h2 := List.append_cancel_left h
      rw [List.append_assoc] at h2
      have h3 := (List.append_inj h2 (by rw [recText_length, recText_length])).1
      have g1 := hs k (by omega)
      have g2 := hr k (by omega)
      obtain ⟨i1, i2⟩ := rec_inj g1.1 (by omega) g1.2.1 g2.1 (by omega) g2.2.1 h3
      rw [List.take_succ_eq_append_getElem (by omega), List.take_succ_eq_append_getElem (by omega), ih]
      congr 2
      exact Prod.ext i1.symm i2.symm
  have := key rs.length (Nat.le_refl _)
  rwa [List.take_length] at this

/-- A text that is a record is a lease's. -/
theorem rec_of_ok {s : ByteArray} (hs : s.size = 13) (h : recOk s) : s.data.toList = recText (recNode s) (recTo s) ∧ recNode s < 1024 ∧ 1 ≤ recTo s ∧ recTo s ≤ 2199023255552 := by
  obtain ⟨_, h2, h3⟩ := h
  have h1 := readNum_lt s hs
  refine ⟨?_, Nat.mod_lt _ (by omega), (recTo_le s hs).1, (recTo_le s hs).2⟩
  have e : recNum (recNode s) (recTo s) = readNum s := by unfold recNum recNode recTo; omega
  unfold recText
  rw [e]
  have := congrArg (fun b : ByteArray => b.data.toList) h3
  simpa using this.symm
end Go.Proofs.YtdplffhieekfaaaDoor
namespace Go.Proofs.YtdplffhieekfaaaDoor
open Go.RowKit

theorem bytes_eq (t s : ByteArray) : (t.toList == s.toList) = decide (t = s) := by
  rw [ByteArray.toList_eq, ByteArray.toList_eq]
  by_cases h : t = s
  · subst h; simp
  · rw [decide_eq_false h]
    simp only [beq_eq_false_iff_ne, ne_eq]
    intro e
    exact h (ByteArray.ext (Array.toList_inj.1 e))

set_option maxRecDepth 100000 in
set_option maxHeartbeats 1000000 in
theorem rread_err (s : ByteArray) (w : World) (h : s.size = 13) (he : readErr s ≠ 0) :
    Calls Tryd.prog 94 #[.string s] w fun e w' => e = .returned (.tuple #[.int .i64 0, .int .i64 0, .int .i64 2]) ∧ Below w.heap.size w w' := by
  have hr := read_any s w h
  have hn := readNum_lt s h
  have hs := fun w => split_any (readNum s : Int) w (by omega) (by omega)
  have hb : (readErr s != 0) = true := by simpa using he
  clear he hn
  go_enter Tryd.func94, Tryd.ntmps94
  go_wp2_with fail
  refine hr.mono ?_
  rintro e w1 ⟨rfl, rfl⟩
  clear hr
  go_wp2_with fail
  refine (hs _).mono ?_
  rintro e w2 ⟨rfl, hb2⟩
  have hb2 : Hid _ := hb2
  go_wp2
  go_ret3
  exact ⟨rfl, hb2.out.alloc hb2.out.size _⟩

set_option maxRecDepth 100000 in
set_option maxHeartbeats 1000000 in
theorem rread_seq (s : ByteArray) (w : World) (h : s.size = 13) (he : readErr s = 0) (hq : readNum s % 4096 ≠ 4095) :
    Calls Tryd.prog 94 #[.string s] w fun e w' => e = .returned (.tuple #[.int .i64 0, .int .i64 0, .int .i64 2]) ∧ Below w.heap.size w w' := by
  have hr := read_any s w h
  have hn := readNum_lt s h
  have hs := fun w => split_any (readNum s : Int) w (by omega) (by omega)
  rw [he] at hr
  have hb : ((readNum s : Int) % 4096 != 4095) = true := by simp; omega
  clear he hn hq
  go_enter Tryd.func94, Tryd.ntmps94
  go_wp2_with fail
  refine hr.mono ?_
  rintro e w1 ⟨rfl, rfl⟩
  clear hr
  go_wp2_with fail
  refine (hs _).mono ?_
  rintro e w2 ⟨rfl, hb2⟩
  have hb2 : Hid _ := hb2
  go_wp2
  go_ret3
  exact ⟨rfl, hb2.out.alloc hb2.out.size _⟩

set_option maxRecDepth 100000 in
set_option maxHeartbeats 1000000 in
theorem rread_text (s : ByteArray) (w : World) (h : s.size = 13) (he : readErr s = 0) (hq : readNum s % 4096 = 4095) (ht : (⟨(shortOf (readNum s)).toArray⟩ : ByteArray) ≠ s) :
    Calls Tryd.prog 94 #[.string s] w fun e w' => e = .returned (.tuple #[.int .i64 0, .int .i64 0, .int .i64 2]) ∧ Below w.heap.size w w' := by
  have hr := read_any s w h
  have hn := readNum_lt s h
  have hs := fun w => split_any (readNum s : Int) w (by omega) (by omega)
  have hwr := fun w => write_any (readNum s) w hn
  rw [he] at hr
  have hb : ((readNum s : Int) % 4096 != 4095) = false := by simp; omega
  have hte : ((⟨(shortOf (readNum s)).toArray⟩ : ByteArray).toList == s.toList) = false := by rw [bytes_eq]; exact decide_eq_false ht
  clear he hn hq ht
  generalize (⟨(shortOf (readNum s)).toArray⟩ : ByteArray) = t at *
  go_enter Tryd.func94, Tryd.ntmps94
  go_wp2_with fail
  refine hr.mono ?_
  rintro e w1 ⟨rfl, rfl⟩
  clear hr
  go_wp2_with fail
  refine (hs _).mono ?_
  rintro e w2 ⟨rfl, hb2⟩
  have hb2 : Hid _ := hb2
  go_wp2_with fail
  refine (hwr _).mono ?_
  rintro e w3 ⟨rfl, hb3⟩
  have hb3 : Hid _ := hb3
  go_wp2
  go_ret3
  exact ⟨rfl, (hb2.out.alloc hb2.out.size _).trans (hb3.out.mono (by simp; exact Nat.le_succ_of_le hb2.out.size))⟩

set_option maxRecDepth 100000 in
set_option maxHeartbeats 1000000 in
theorem rread_ok (s : ByteArray) (w : World) (h : s.size = 13) (ho : recOk s) :
    Calls Tryd.prog 94 #[.string s] w fun e w' => e = .returned (.tuple #[.int .i64 (recNode s), .int .i64 (recTo s), .int .i64 0]) ∧ Below w.heap.size w w' := by
  obtain ⟨he, hq, ht⟩ := ho
  have hr := read_any s w h
  have hn := readNum_lt s h
  have hs := fun w => split_any (readNum s : Int) w (by omega) (by omega)
  have hwr := fun w => write_any (readNum s) w hn
  rw [he] at hr
  have hb : ((readNum s : Int) % 4096 != 4095) = false := by simp; omega
  have hte : ((⟨(shortOf (readNum s)).toArray⟩ : ByteArray).toList == s.toList) = true := by rw [bytes_eq]; exact decide_eq_true ht
  have e1 : ((recNode s : Nat) : Int) = (readNum s : Int) / 4096 % 1024 := by unfold recNode; omega
  have e2 : ((recTo s : Nat) : Int) = (readNum s : Int) / 4194304 + 1 := by unfold recTo; omega
  have hx : (readNum s : Int) / 4194304 < 2199023255552 := by omega
  have hx0 : 0 ≤ (readNum s : Int) / 4194304 := by omega
  rw [e1, e2]
  clear he hn hq ht e1 e2
  generalize (⟨(shortOf (readNum s)).toArray⟩ : ByteArray) = t at *
  generalize (readNum s : Int) / 4194304 = tm at *
  generalize (readNum s : Int) / 4096 % 1024 = nd at *
  go_enter Tryd.func94, Tryd.ntmps94
  go_wp2_with fail
  refine hr.mono ?_
  rintro e w1 ⟨rfl, rfl⟩
  clear hr
  go_wp2_with fail
  refine (hs _).mono ?_
  rintro e w2 ⟨rfl, hb2⟩
  have hb2 : Hid _ := hb2
  go_wp2_with fail
  refine (hwr _).mono ?_
  rintro e w3 ⟨rfl, hb3⟩
  have c0 : w3.cell? ⟨w2.heap.size, 0, none⟩ = some (.int .i64 tm) := ((bcell hb3).1 w2.heap.size 0 (by simp)).trans (cell_alloc_new w2 _ _ 0).1
  have c1 : w3.cell? ⟨w2.heap.size, 1, none⟩ = some (.int .i64 nd) := ((bcell hb3).1 w2.heap.size 1 (by simp)).trans (cell_alloc_new w2 _ _ 1).1
  have hb3 : Hid _ := hb3
  go_wp2
  go_quiet (fail)
  go_wp2
  go_ret3
  exact ⟨rfl, below_drewN ((hb2.out.alloc hb2.out.size _).trans (hb3.out.mono (by simp; exact Nat.le_succ_of_le hb2.out.size))) _⟩
end Go.Proofs.YtdplffhieekfaaaDoor
namespace Go.Proofs.YtdplffhieekfaaaDoor
open Go.RowKit Go.Maps

theorem lawInt : Keyed Tryd.prog 3 := int_keyed Tryd.underlying3
theorem zeroInt (w : World) : (zeroValue 3).run Tryd.prog w = .ok (.int .i64 0) w := by kernel_rfl

/-- A map of at most n entries tells the fences f. -/
structure FenceMap (w : World) (m n : Nat) (f : Nat → Nat) : Prop where
  mk ::
  all : ∃ D : DataW Unit, w.ownsMap Tryd.prog 3 (plainElem Tryd.prog 3) m n D ∧ ∀ nd : Nat, nd < 1024 → D.atKey (.int .i64 nd) (.lit (.int .i64 0)) = .lit (.int .i64 (f nd))

theorem FenceMap.look {w : World} {m n : Nat} {f : Nat → Nat} (h : FenceMap w m n f) (nd : Nat) (hn : nd < 1024) (k : Nat) :
    (Instr.lookup 128 (.map (some m)) (.int .i64 nd) false).run Tryd.prog (w.drewN k) = .ok (.int .i64 (f nd)) (w.drewN k) := by
  obtain ⟨D, ho, hf⟩ := h.all
  have ho' : (w.drewN k).ownsMap Tryd.prog 3 (plainElem Tryd.prog 3) m n D := ho
  have hk : keyOf Tryd.prog 3 (.int .i64 (nd : Int)) = some (.int .i64 (nd : Int)) := keyOf_int_mk Tryd.underlying3 (WalkArith.wf_i64 (by omega))
  obtain ⟨c, h1, h2, _⟩ := ho'.lookup_int lawInt Tryd.underlying128 Tryd.underlying3 (zeroInt _) hk
  rw [hf nd hn] at h2
  simp only [DataW.lit.injEq, Lit.int.injEq, true_and] at h2
  rw [h1, ← h2]

theorem FenceMap.store {w : World} {m n : Nat} {f : Nat → Nat} (h : FenceMap w m n f) (nd to : Nat) (hn : nd < 1024) (ht : to ≤ 2199023255552) (hl : n < maxLen) :
    ∃ w', (Instr.mapUpdate 128 (.map (some m)) (.int .i64 nd) (.int .i64 to)).run Tryd.prog w = .ok () w' ∧ FenceMap w' m (n + 1) (fun k => if nd = k then to else f k) ∧ w.grownBy w' (some m) := by
  obtain ⟨D, ho, hf⟩ := h.all
  have hk : keyOf Tryd.prog 3 (.int .i64 (nd : Int)) = some (.int .i64 (nd : Int)) := keyOf_int_mk Tryd.underlying3 (WalkArith.wf_i64 (by omega))
  have he : plainElem (H := Unit) Tryd.prog 3 (.int .i64 (to : Int)) = some (.lit (.int .i64 (to : Int)), []) := plainElem_int Tryd.underlying3 (WalkArith.wf_i64 (by omega))
  obtain ⟨w', h1, h2, h3⟩ := ho.update lawInt Tryd.underlying128 hl hk he
  refine ⟨w', h1, ⟨⟨_, h2, fun k hk => ?_⟩⟩, h3⟩
  by_cases e : nd = k
  · subst e
    simp only [if_pos]
    exact atKey_put_same ho.isMap (by unfold WideAt.IsKeyLit; trivial) _ _
  · simp only [if_neg e]
    rw [atKey_put_other (by simp; omega)]
    exact hf k hk

theorem FenceMap.made (w : World) : FenceMap (w.alloc (.map #[] 0)) w.heap.size 0 (fenceOf []) :=
  ⟨⟨_, World.ownsMap_made _ _ _ _, fun _ _ => rfl⟩⟩

theorem FenceMap.on {w w' : World} {m n : Nat} {f : Nat → Nat} (h : FenceMap w m n f) (hb : w'.heap[m]? = w.heap[m]?) : FenceMap w' m n f := by
  obtain ⟨D, ⟨es, clock, h1, h2⟩, hf⟩ := h.all
  exact ⟨⟨D, ⟨es, clock, hb.trans h1, h2⟩, hf⟩⟩
theorem FenceMap.lt {w : World} {m n : Nat} {f : Nat → Nat} (h : FenceMap w m n f) : m < w.heap.size := by
  obtain ⟨D, ho, _⟩ := h.all
  exact ho.lt
theorem FenceMap.to {w : World} {m n n' : Nat} {f g : Nat → Nat} (h : FenceMap w m n f) (hn : n ≤ n') (hg : ∀ k, k < 1024 → f k = g k) : FenceMap w m n' g := by
  obtain ⟨D, ho, hf⟩ := h.all
  exact ⟨⟨D, ho.mono hn, fun k hk => by rw [hf k hk, hg k hk]⟩⟩

/-- The text of a list of bytes. -/
abbrev btext (l : List UInt8) : ByteArray := ⟨l.toArray⟩

theorem btext_size (l : List UInt8) : (btext l).size = l.length := by show l.toArray.size = _; simp
theorem btext_list (l : List UInt8) : (btext l).data.toList = l := by simp
theorem btext_take (l : List UInt8) (n : Nat) : (btext l).extract 0 n = btext (l.take n) := by
  apply ByteArray.ext
  rw [ByteArray.data_extract]
  apply Array.toList_inj.1
  simp
theorem btext_drop (l : List UInt8) (n : Nat) : (btext l).extract n l.length = btext (l.drop n) := by
  apply ByteArray.ext
  rw [ByteArray.data_extract]
  apply Array.toList_inj.1
  simp only [Array.toList_extract, List.extract_eq_take_drop]
  exact List.take_of_length_le (by simp)

/-- What readFences answers: the map of the fences of the records that the text is; or ErrText, where it is none. -/
def FencesRead (l : List UInt8) (w w' : World) (e : Ending) : Prop :=
  (∃ (m : Nat) (rs : List (Nat × Nat)), e = .returned (.tuple #[.map (some m), .int .i64 0]) ∧ w.heap.size ≤ m ∧ l = jtext rs ∧ Good rs ∧ FenceMap w' m rs.length (fenceOf rs)) ∨
  (e = .returned (.tuple #[.map none, .int .i64 2]) ∧ ∀ rs, Good rs → l ≠ jtext rs)

structure FencesLoop (l : List UInt8) (w W : World) (rs : List (Nat × Nat)) (rest : List UInt8) : Prop where
  txt : l = jtext rs ++ rest
  thir : rest.length % 13 = 0
  good : Good rs
  map : FenceMap W w.heap.size rs.length (fenceOf rs)
  bel : Below w.heap.size w W

/-- A round that reads a record. -/
theorem FencesLoop.step {l : List UInt8} {w W W' : World} {rs : List (Nat × Nat)} {rest : List UInt8} (h : FencesLoop l w W rs rest) (h13 : 13 ≤ rest.length) (ho : recOk (btext (rest.take 13)))
    (hf : fenceOf rs (recNode (btext (rest.take 13))) < recTo (btext (rest.take 13))) (hb : Below w.heap.size w W')
    (hm : FenceMap W' w.heap.size (rs.length + 1) (fun k => if recNode (btext (rest.take 13)) = k then recTo (btext (rest.take 13)) else fenceOf rs k)) :
    FencesLoop l w W' (rs ++ [(recNode (btext (rest.take 13)), recTo (btext (rest.take 13)))]) (rest.drop 13) := by
  have hs : (btext (rest.take 13)).size = 13 := by rw [btext_size, List.length_take]; omega
  obtain ⟨r1, r2, r3, r4⟩ := rec_of_ok hs ho
  rw [btext_list] at r1
  refine ⟨?_, ?_, good_snoc h.good r2 r4 hf, ?_, hb⟩
  · rw [jtext_snoc, ← r1, List.append_assoc, List.take_append_drop]
    exact h.txt
  · rw [List.length_drop]
    have := h.thir
    omega
  · rw [List.length_append, List.length_singleton]
    exact hm.to (Nat.le_refl _) (fun k _ => (fence_snoc rs (recNode (btext (rest.take 13)), recTo (btext (rest.take 13))) k).symm)

/-- Where a record is none, or its To is not above the fence, no office told the text. -/
theorem FencesLoop.none {l : List UInt8} {w W : World} {rs : List (Nat × Nat)} {rest : List UInt8} (h : FencesLoop l w W rs rest) (h13 : 13 ≤ rest.length)
    (hn : recOk (btext (rest.take 13)) → ¬ fenceOf rs (recNode (btext (rest.take 13))) < recTo (btext (rest.take 13))) : ∀ ss, Good ss → l ≠ jtext ss := by
  intro ss hg he
  have e1 := good_prefix h.good hg (he.symm.trans h.txt)
  have hlen : rs.length < ss.length := by
    have := congrArg List.length (he.symm.trans h.txt)
    rw [List.length_append, jtext_length, jtext_length] at this
    omega
  have e2 : jtext ss = jtext rs ++ (recText (ss[rs.length]).1 (ss[rs.length]).2 ++ jtext (ss.drop (rs.length + 1))) := by
    have e1' : jtext rs = jtext (ss.take rs.length) := congrArg jtext e1
    rw [e1', ← List.append_assoc, ← jtext_snoc, ← List.take_succ_eq_append_getElem (by omega), ← jtext_append, List.take_append_drop]
  have e3 : rest = recText (ss[rs.length]).1 (ss[rs.length]).2 ++ jtext (ss.drop (rs.length + 1)) := List.append_cancel_left (h.txt.symm.trans (he.trans e2))
  have e4 : rest.take 13 = recText (ss[rs.length]).1 (ss[rs.length]).2 := by
    rw [e3, List.take_append_of_le_length (by rw [recText_length]; omega), List.take_of_length_le (by rw [recText_length]; omega)]
  have g := hg rs.length hlen
  obtain ⟨b1, b2, b3⟩ := rec_back _ _ g.1 (by omega) g.2.1
  rw [e4] at hn
  have := hn b1
  rw [b2, b3] at this
  rw [← e1] at g
  exact this g.2.2

set_option maxRecDepth 100000 in
set_option maxHeartbeats 1000000 in
theorem readFences_any (l : List UInt8) (w : World) (hl : l.length % 13 = 0) (hb : l.length ≤ 281474976710656) :
    Calls Tryd.prog 81 #[.string (btext l)] w fun e w' => FencesRead l w w' e ∧ Below w.heap.size w w' := by
  have hmm := @run_makeMap Tryd.prog
  go_enter Tryd.func81, Tryd.ntmps81
  go_wp2
  go_loopw [0] (fun x W => ∃ (rs : List (Nat × Nat)) (rest : List UInt8), x = .string (btext rest) ∧ Hid (FencesLoop l w W rs rest)) (fun x _ => match x with | .string b => b.size | _ => 0)
  case atStart => exact ⟨[], l, rfl, ⟨rfl, hl, good_nil, FenceMap.made w, (Below.refl _ _).alloc (Nat.le_refl _) _⟩⟩
  case round =>
    obtain ⟨rs, rest, rfl, hL⟩ := hrel
    by_cases hr : rest = []
    · subst hr
      have hL' := hL.out
      go_wp2
      go_ret2
      refine ⟨Or.inl ⟨_, rs, rfl, Nat.le_refl _, by simpa using hL'.txt, hL'.good, hL'.map⟩, hL'.bel⟩
    · have hne : rest.isEmpty = false := by cases rest with | nil => exact absurd rfl hr | cons _ _ => rfl
      have h13 : 13 ≤ rest.length := by
        have h1 := hL.out.thir
        have h2 : rest.length ≠ 0 := fun e => hr (List.length_eq_zero_iff.1 e)
        omega
      have h13' : (13 : Int) ≤ (rest.length : Int) := by omega
      have hs : (btext (rest.take 13)).size = 13 := by rw [btext_size, List.length_take]; omega
      clear hr
      by_cases ho : recOk (btext (rest.take 13))
      · have hc := fun w => rread_ok (btext (rest.take 13)) w hs ho
        rw [← btext_take] at hc
        obtain ⟨r1, r2, r3, r4⟩ := rec_of_ok hs ho
        have hos : Hid _ := ho
        have hbel : Hid _ := hL.out.bel
        have hmap : Hid _ := hL.out.map
        have hrl : Hid (rs.length < maxLen) := by
          have := congrArg List.length hL.out.txt
          rw [List.length_append, jtext_length] at this
          show _ < _
          unfold maxLen
          omega
        by_cases hlt : fenceOf rs (recNode (btext (rest.take 13))) < recTo (btext (rest.take 13))
        · have hltH : Hid _ := hlt
          have hle : decide (recTo (btext (rest.take 13)) ≤ fenceOf rs (recNode (btext (rest.take 13)))) = false := decide_eq_false (by omega)
          have hdr : Hid ((btext rest).extract 13 rest.length = btext (rest.drop 13)) := btext_drop rest 13
          clear ho r1 hlt h13
          generalize hnd : recNode (btext (rest.take 13)) = nd at *
          generalize hto : recTo (btext (rest.take 13)) = to at *
          have hndH : Hid _ := hnd
          have htoH : Hid _ := hto
          rw [btext_take, hnd, hto] at hc
          rw [← btext_take] at hc
          clear hnd hto
          go_wp2_with fail
          refine (hc _).mono ?_
          rintro e w1 ⟨rfl, hb1⟩
          have hb1 : Hid _ := hb1
          have hm1 := hmap.out.on (hb1.out.block _ hmap.out.lt)
          have hlk := hm1.look nd r2 0
          obtain ⟨w2, hup, hm2, hg2⟩ := hm1.store nd to r2 r4 hrl.out
          have hm1 : Hid _ := hm1
          have hm2 : Hid _ := hm2
          have hg2 : Hid _ := hg2
          rw [World.drewN_zero] at hlk
          go_wp2
          have h13 : 13 ≤ rest.length := by omega
          have hos := hos.out
          have hlt := hltH.out
          refine ⟨⟨_, rest.drop 13, by rw [hdr.out], hL.out.step h13 hos (by rw [hndH.out, htoH.out]; exact hlt) ((hbel.out.trans (hb1.out.mono hbel.out.size)).grown hg2.out (Nat.le_trans hbel.out.size hb1.out.size) (fun j hj => by cases hj; exact Nat.le_refl _)) (by rw [hndH.out, htoH.out]; exact hm2.out)⟩, ?_⟩
          show ((btext rest).extract 13 rest.length).size < (btext rest).size
          rw [hdr.out, btext_size, btext_size, List.length_drop]
          omega
        · have hno : Hid (∀ rs, Good rs → l ≠ jtext rs) := hL.out.none h13 (fun _ => hlt)
          have hle : decide (recTo (btext (rest.take 13)) ≤ fenceOf rs (recNode (btext (rest.take 13)))) = true := decide_eq_true (by omega)
          clear ho r1 hlt h13
          generalize hnd : recNode (btext (rest.take 13)) = nd at *
          generalize hto : recTo (btext (rest.take 13)) = to at *
          rw [btext_take, hnd, hto] at hc
          rw [← btext_take] at hc
          clear hnd hto
          go_wp2_with fail
          refine (hc _).mono ?_
          rintro e w1 ⟨rfl, hb1⟩
          have hb1 : Hid _ := hb1
          have hlk := (hmap.out.on (hb1.out.block _ hmap.out.lt)).look nd r2 0
          rw [World.drewN_zero] at hlk
          go_wp2
          go_ret2
          exact ⟨Or.inr ⟨rfl, hno.out⟩, hbel.out.trans (hb1.out.mono hbel.out.size)⟩
      · have hno : Hid (∀ rs, Good rs → l ≠ jtext rs) := hL.out.none h13 (fun h => absurd h ho)
        have hbel : Hid _ := hL.out.bel
        have hc : ∀ w, Calls Tryd.prog 94 #[.string ((btext rest).extract 0 13)] w fun e w' => e = .returned (.tuple #[.int .i64 0, .int .i64 0, .int .i64 2]) ∧ Below w.heap.size w w' := fun w => by
          rw [btext_take]
          by_cases h1 : readErr (btext (rest.take 13)) = 0
          · by_cases h2 : readNum (btext (rest.take 13)) % 4096 = 4095
            · exact rread_text _ w hs h1 h2 (fun h3 => ho ⟨h1, h2, h3⟩)
            · exact rread_seq _ w hs h1 h2
          · exact rread_err _ w hs h1
        clear ho
        go_wp2_with fail
        refine (hc _).mono ?_
        rintro e w1 ⟨rfl, hb1⟩
        have hb1 : Hid _ := hb1
        go_wp2
        go_ret2
        exact ⟨Or.inr ⟨rfl, hno.out⟩, hbel.out.trans (hb1.out.mono hbel.out.size)⟩
end Go.Proofs.YtdplffhieekfaaaDoor
namespace Go.Proofs.YtdplffhieekfaaaDoor
open Go.RowKit

/-! ### plain numbers -/

theorem digs_of (n : Nat) : ∀ W : List Nat, W.length = n → (∀ d ∈ W, d < 32) → bdigs (valOf W) n = W := by
  induction n with
  | zero => intro W h _; rw [List.length_eq_zero_iff] at h; rw [h]; rfl
  | succ n ih =>
    intro W h hd
    have hne : W ≠ [] := fun e => by rw [e] at h; cases h
    have e := List.dropLast_concat_getLast hne
    rw [← e, valOf_snoc, bdigs]
    have hlast := hd _ (List.getLast_mem hne)
    have e1 : (valOf W.dropLast * 32 + W.getLast hne) / 32 = valOf W.dropLast := by omega
    have e2 : (valOf W.dropLast * 32 + W.getLast hne) % 32 = W.getLast hne := by omega
    rw [e1, e2, ih _ (by rw [List.length_dropLast, h]; rfl) (fun d hm => hd d (List.dropLast_subset _ hm))]

theorem short_digs (n : Nat) : shortOf n = (bdigs n 13).map fun d => (letterOf d).toUInt8 := by
  rw [bdigs_eq, List.map_map]; rfl

theorem short_get (n j : Nat) (h : j < (shortOf n).length) : (shortOf n)[j] = (letterOf (digAt n j)).toUInt8 := by simp [shortOf]

theorem rec_of_num (x : Nat) (h : x < 9223372036854775808) (hq : x % 4096 = 4095) : recOk (btext (shortOf x)) := by
  obtain ⟨e1, e2⟩ := read_short x h
  refine ⟨e2, ?_, ?_⟩
  · show readNum ⟨(shortOf x).toArray⟩ % 4096 = 4095; rw [e1]; exact hq
  · show (⟨(shortOf (readNum ⟨(shortOf x).toArray⟩)).toArray⟩ : ByteArray) = _; rw [e1]

/-- The greatest number's text. -/
def great63 : List UInt8 := shortOf 9223372036854775807

/-- What Begins tells. -/
def begins (t : List UInt8) : Bool := decide (recOk (btext (t ++ great63.drop t.length)))

/-- A record's beginning is told as one. -/
theorem begins_take (N n : Nat) (h : N < 9223372036854775808) (hq : N % 4096 = 4095) (hn : n ≤ 13) : begins ((shortOf N).take n) = true := by
  unfold begins great63
  apply decide_eq_true
  have hlen : ((shortOf N).take n).length = n := by rw [List.length_take, short_length]; omega
  rw [hlen]
  have hG : ∀ j, j < 13 → digAt 9223372036854775807 j = if j = 0 then 7 else 31 := by decide
  obtain ⟨f, hf⟩ : ∃ f : Nat → Nat, f = fun j => if j < n then digAt N j else digAt 9223372036854775807 j := ⟨_, rfl⟩
  have hf32 : ∀ j, f j < 32 := fun j => by rw [hf]; simp only; split <;> exact digAt_lt _ _
  have h0 : f 0 < 8 := by
    rw [hf]; simp only
    split
    · unfold digAt; rw [show (32 : Nat) ^ (12 - 0) = 1152921504606846976 from rfl]; omega
    · rw [hG 0 (by omega)]; simp
  have h10 : f 10 % 4 = 3 := by
    rw [hf]; simp only
    split
    · unfold digAt; rw [show (32 : Nat) ^ (12 - 10) = 1024 from rfl]; omega
    · rw [hG 10 (by omega)]; simp
  have h11 : f 11 = 31 := by
    rw [hf]; simp only
    split
    · unfold digAt; rw [show (32 : Nat) ^ (12 - 11) = 32 from rfl]; omega
    · rw [hG 11 (by omega)]; simp
  have h12 : f 12 = 31 := by
    rw [hf]; simp only
    split
    · unfold digAt; rw [show (32 : Nat) ^ (12 - 12) = 1 from rfl]; omega
    · rw [hG 12 (by omega)]; simp
  have hW : ∀ d ∈ (List.range 13).map f, d < 32 := fun d hd => by
    obtain ⟨j, _, rfl⟩ := List.mem_map.1 hd
    exact hf32 j
  have hdig := digs_of 13 ((List.range 13).map f) (by simp) hW
  have htext : (shortOf N).take n ++ (shortOf 9223372036854775807).drop n = shortOf (valOf ((List.range 13).map f)) := by
    rw [short_digs (valOf _), hdig]
    apply List.ext_getElem
    · simp [short_length]; omega
    · intro j h1 h2
      simp only [List.length_map, List.length_range] at h2
      simp only [List.getElem_map, List.getElem_range]
      by_cases hj : j < n
      · rw [List.getElem_append_left (by rw [hlen]; exact hj), List.getElem_take, short_get, hf]
        simp only [if_pos hj]
      · rw [List.getElem_append_right (by rw [hlen]; omega), List.getElem_drop, short_get, hf]
        simp only [hlen, if_neg hj]
        congr 3; omega
  rw [htext]
  have hval : valOf ((List.range 13).map f) = ((((((((((((f 0 * 32 + f 1) * 32 + f 2) * 32 + f 3) * 32 + f 4) * 32 + f 5) * 32 + f 6) * 32 + f 7) * 32 + f 8) * 32 + f 9) * 32 + f 10) * 32 + f 11) * 32 + f 12) := by
    simp [valOf, List.range_succ]
  have b := fun j => hf32 j
  have b0 := b 0; have b1 := b 1; have b2 := b 2; have b3 := b 3; have b4 := b 4; have b5 := b 5; have b6 := b 6; have b7 := b 7; have b8 := b 8; have b9 := b 9; have b10 := b 10
  refine rec_of_num _ ?_ ?_ <;> rw [hval] <;> omega

/-! ### the calls -/

theorem btext_append (a b : List UInt8) : btext a ++ btext b = btext (a ++ b) := by
  apply ByteArray.ext
  rw [ByteArray.data_append]
  apply Array.toList_inj.1
  simp

set_option maxRecDepth 100000 in
set_option maxHeartbeats 1000000 in
theorem begins_walk (t gt : List UInt8) (w : World) (h : t.length ≤ 13) (hg : gt.length = 13) (A B E : Int)
    (hwr : ∀ w, Calls Tryd.prog 20 #[.int .u64 9223372036854775807] w fun e w' => e = .returned (.string (btext gt)) ∧ Below w.heap.size w w')
    (hc : ∀ w, Calls Tryd.prog 94 #[.string (btext t ++ (btext gt).extract t.length gt.length)] w fun e w' => e = .returned (.tuple #[.int .i64 A, .int .i64 B, .int .i64 E]) ∧ Below w.heap.size w w') :
    Calls Tryd.prog 80 #[.string (btext t)] w fun e w' => e = .returned (.bool (E == 0)) ∧ Below w.heap.size w w' := by
  have hl13 : (t.length : Int) ≤ (gt.length : Int) := by omega
  have hg' : gt.length ≤ 13 := by omega
  clear hg
  go_enter Tryd.func80, Tryd.ntmps80
  go_wp2_with fail
  refine (hwr _).mono ?_
  rintro e w1 ⟨rfl, hb1⟩
  have hb1 : Hid _ := hb1
  clear hwr
  go_wp2_with fail
  refine (hc _).mono ?_
  rintro e w2 ⟨rfl, hb2⟩
  have hb2 : Hid _ := hb2
  go_wp2
  go_ret
  exact ⟨rfl, hb1.out.trans (hb2.out.mono hb1.out.size)⟩

theorem begins_any (t : List UInt8) (w : World) (h : t.length ≤ 13) :
    Calls Tryd.prog 80 #[.string (btext t)] w fun e w' => e = .returned (.bool (begins t)) ∧ Below w.heap.size w w' := by
  have hgl : great63.length = 13 := short_length _
  have hwr : ∀ w, Calls Tryd.prog 20 #[.int .u64 9223372036854775807] w fun e w' => e = .returned (.string (btext great63)) ∧ Below w.heap.size w w' := fun w => write_any 9223372036854775807 w (by decide)
  have hlen : (t ++ great63.drop t.length).length = 13 := by rw [List.length_append, List.length_drop]; omega
  have hcat : btext t ++ (btext great63).extract t.length great63.length = btext (t ++ great63.drop t.length) := by rw [btext_drop, btext_append]
  have hs : (btext (t ++ great63.drop t.length)).size = 13 := by rw [btext_size, hlen]
  by_cases ho : recOk (btext (t ++ great63.drop t.length))
  · have hc := fun w => rread_ok _ w hs ho
    rw [show begins t = ((0 : Int) == 0) from decide_eq_true ho]
    rw [← hcat] at hc
    exact begins_walk t great63 w h hgl _ _ 0 hwr hc
  · have hc : ∀ w, Calls Tryd.prog 94 #[.string (btext (t ++ great63.drop t.length))] w fun e w' => e = .returned (.tuple #[.int .i64 0, .int .i64 0, .int .i64 2]) ∧ Below w.heap.size w w' := fun w => by
      by_cases h1 : readErr (btext (t ++ great63.drop t.length)) = 0
      · by_cases h2 : readNum (btext (t ++ great63.drop t.length)) % 4096 = 4095
        · exact rread_text _ w hs h1 h2 (fun h3 => ho ⟨h1, h2, h3⟩)
        · exact rread_seq _ w hs h1 h2
      · exact rread_err _ w hs h1
    rw [show begins t = ((2 : Int) == 0) from decide_eq_false ho]
    rw [← hcat] at hc
    exact begins_walk t great63 w h hgl _ _ 2 hwr hc

set_option maxRecDepth 100000 in
set_option maxHeartbeats 1000000 in
theorem rwrite_any (node frm to : Nat) (w : World) (h : node < 1024) (h1 : 1 ≤ to) (h2 : to ≤ 2199023255552) :
    Calls Tryd.prog 82 #[.agg #[.int .i64 node, .int .i64 frm, .int .i64 to]] w fun e w' => e = .returned (.string (btext (recText node to))) ∧ Below w.heap.size w w' := by
  have hj := fun w => join_any ((to : Int) - 1) (node : Int) 4095 w (by omega) (by omega) (by omega) (by omega) (by omega) (by omega)
  have hnum : numOf ((to : Int) - 1) (node : Int) 4095 = ((recNum node to : Nat) : Int) := by unfold numOf recNum; omega
  have hwr := fun w => write_any (recNum node to) w (recNum_lt node to h h1 h2)
  rw [hnum] at hj
  clear hnum
  generalize hX : recNum node to = X at *
  have hres : Hid ((⟨(shortOf X).toArray⟩ : ByteArray) = btext (recText node to)) := by show _ = _; unfold recText; rw [hX]
  clear hX
  go_enter Tryd.func82, Tryd.ntmps82
  go_wp2_with fail
  refine (hj _).mono ?_
  rintro e w1 ⟨rfl, hb1⟩
  have hb1 : Hid _ := hb1
  go_wp2_with fail
  refine (hwr _).mono ?_
  rintro e w2 ⟨rfl, hb2⟩
  have hb2 : Hid _ := hb2
  go_wp2
  go_ret
  rw [hres.out]
  exact ⟨rfl, ((((Below.refl _ w).alloc (Nat.le_refl _) _).trans (hb1.out.mono (by simp))).trans (hb2.out.mono (Nat.le_trans (by simp) hb1.out.size)))⟩
end Go.Proofs.YtdplffhieekfaaaDoor
namespace Go.Proofs.YtdplffhieekfaaaDoor
open Go.RowKit Go.Maps Go.Lib

/-- A row of bytes of which nothing within is frozen. -/
structure BytesAt (w : World) (g cap : Nat) (l : List UInt8) : Prop where
  row : ∃ cur fz, w.heap[g]? = some (.cells cur 5 fz) ∧ (fz.2 = 0 ∨ cap ≤ fz.1) ∧ cur.size = cap ∧ l.length ≤ cap ∧ cap ≤ maxLen ∧ cur.toList.take l.length = strCells (btext l)

theorem BytesAt.lt {w : World} {g cap : Nat} {l : List UInt8} (h : BytesAt w g cap l) : g < w.heap.size := by
  obtain ⟨cur, fz, h1, _⟩ := h.row
  exact (Array.getElem?_eq_some_iff.1 h1).1

theorem BytesAt.on {w w' : World} {g cap : Nat} {l : List UInt8} (h : BytesAt w g cap l) (hb : w'.heap[g]? = w.heap[g]?) : BytesAt w' g cap l := by
  obtain ⟨cur, fz, h1, h2⟩ := h.row
  exact ⟨cur, fz, hb.trans h1, h2⟩

theorem strCells_btext_length (l : List UInt8) : (strCells (btext l)).length = l.length := by rw [strCells_length, btext_size]

theorem strCells_get (l : List UInt8) (j : Nat) (h : j < l.length) : (strCells (btext l))[j]? = some (.int .u8 (l[j]).toNat) := by
  simp [strCells, h]

theorem BytesAt.cells {w : World} {g cap : Nat} {l : List UInt8} (h : BytesAt w g cap l) : ∀ j u, (strCells (btext l))[j]? = some u → w.cell? ((⟨g, 0, none⟩ : Addr).add j) = some u := by
  intro j u hu
  obtain ⟨cur, fz, h1, h2, h3, h4, h5, h6⟩ := h.row
  have hj : j < l.length := by
    have := (List.getElem?_eq_some_iff.1 hu).1
    rwa [strCells_btext_length] at this
  rw [Lib.add_plain, Nat.zero_add]
  rw [← h6, List.getElem?_take, if_pos hj] at hu
  simp only [World.cell?, h1]
  simpa using hu

/-- '[]byte(text)'. -/
theorem bytes_made (w : World) (l : List UInt8) (hl : l.length ≤ maxLen) : ∃ cap w', (convert 9 32 (.string (btext l))).run Tryd.prog w = .ok (.slice (some ⟨w.heap.size, 0, none⟩) l.length cap) w' ∧ BytesAt w' w.heap.size cap l ∧ Below w.heap.size w w' := by
  have hr := run_bytes_of_string (P := Tryd.prog) w 9 32 5 (btext l) Tryd.underlying9 Tryd.underlying32 Tryd.underlying5
  rw [btext_size] at hr
  have hge := grownCap_ge w l.length 0 5
  have hcm : grownCap w l.length 0 5 ≤ maxLen := grownCap_le_maxLen w l.length 0 5 hl
  have hsz : (bytesRow (btext l) (grownCap w l.length 0 5)).size = grownCap w l.length 0 5 := by
    unfold bytesRow
    rw [Array.size_append, Array.size_map, Array.size_replicate, btext_size]
    show l.toArray.size + _ = _
    simp
    omega
  refine ⟨_, _, hr, ⟨_, _, heap_alloc_new w.drew _, Or.inr (by rw [hsz]; exact Nat.le_refl _), hsz, hge, hcm, ?_⟩, (Below.refl _ w).drew.alloc (Nat.le_refl _) _⟩
  unfold bytesRow
  rw [Array.toList_append]
  have e1 : (Array.map (fun b : UInt8 => Value.int .u8 b.toNat) (btext l).data).toList = strCells (btext l) := by simp [strCells]
  rw [e1, List.take_append_of_le_length (by rw [strCells_btext_length]; omega), List.take_of_length_le (by rw [strCells_btext_length]; omega)]

/-- Its text again. -/
theorem BytesAt.text {w : World} {g cap : Nat} {l : List UInt8} (h : BytesAt w g cap l) : (convert 32 9 (.slice (some ⟨g, 0, none⟩) l.length cap)).run Tryd.prog w = .ok (.string (btext l)) w :=
  run_convert_bytes_back (P := Tryd.prog) w 32 9 5 ⟨g, 0, none⟩ cap l Tryd.underlying32 Tryd.underlying5 Tryd.underlying9 (fun j hj => h.cells j _ (strCells_get l j hj))

theorem store_beside (P : Program) (g o : Nat) (t : TypeId) (fz : Nat × Nat) : ∀ (vs : List Value) (i : Nat) (cur : Array Value) (w : World), w.heap[g]? = some (.cells cur t fz) → (fz.2 = 0 ∨ cur.size ≤ fz.1) → o + i + vs.length ≤ cur.size → (∀ v ∈ vs, v.oneCell' = true) →
    (storeCells ⟨g, o, none⟩ vs i).run P w = .ok () (w.setRow g (cur.toList.take (o + i) ++ vs ++ cur.toList.drop (o + i + vs.length)).toArray)
  | [], i, cur, w, hg, _, _, _ => by
    simp only [storeCells, List.append_nil, List.length_nil, Nat.add_zero, List.take_append_drop, Array.toArray_toList]
    rw [setRow_self w g cur t fz hg]
    rfl
  | v :: rest, i, cur, w, hg, hfz, hl, h1 => by
    have hi : o + i < cur.size := by simp at hl; omega
    have hcell : w.cell? ⟨g, o + i, none⟩ = some cur[o + i] := by simp [World.cell?, hg, hi]
    have hfro : w.frozen? ⟨g, o + i, none⟩ = false := by
      obtain ⟨lo, hi'⟩ := fz
      simp only [World.frozen?, hg, Bool.and_eq_false_iff, decide_eq_false_iff_not]
      simp only at hfz
      omega
    have hst : (store ((⟨g, o, none⟩ : Addr).add i) v).run P w = .ok () (w.setRow g (cur.setIfInBounds (o + i) v)) := by
      rw [Lib.add_plain, run_store P w _ v _ (h1 v (by simp)), hcell]
      simp [hfro, setCell_eq_setRow w g (o + i) cur t fz v hg]
    have ih := store_beside P g o t fz rest (i + 1) (cur.setIfInBounds (o + i) v) (w.setRow g (cur.setIfInBounds (o + i) v)) (setRow_heap w g cur _ t _ hg) (by simpa using hfz) (by simp at hl ⊢; omega) (fun x hx => h1 x (by simp [hx]))
    simp only [storeCells, Sem.run_bind, hst, Result.andThen_ok, ih, setRow_setRow]
    congr 3
    have e := list_seg_step cur.toList (o + i) v rest (by simp at hl ⊢; omega)
    simpa [Array.toList_setIfInBounds, Nat.add_assoc] using e

theorem u8_info : (Tryd.prog.info? 5).map (fun i => (i.zero, i.size, i.bytes)) = some (some (.int .u8 0), 1, 1) := by kernel_rfl

/-- append of a text. -/
theorem BytesAt.append {w : World} {g cap : Nat} {l : List UInt8} (h : BytesAt w g cap l) (s : List UInt8) (ty : TypeId) (hl : l.length + s.length ≤ 140737488355328) :
    ∃ g' cap' w', (Builtin.append_ #[32, 9] ty #[.slice (some ⟨g, 0, none⟩) l.length cap, .string (btext s)]).run Tryd.prog w = .ok (.slice (some ⟨g', 0, none⟩) (l ++ s).length cap') w' ∧
      BytesAt w' g' cap' (l ++ s) ∧ w.grownBy w' (some g) ∧ (g' = g ∨ g' = w.heap.size) := by
  obtain ⟨i0, hi, hz0, hz1, hz2⟩ := info_parts u8_info
  obtain ⟨cur, fz, h1, h2, h3, h4, h5, h6⟩ := h.row
  have hcs : strCells (btext l) ++ strCells (btext s) = strCells (btext (l ++ s)) := by simp [strCells]
  by_cases hroom : l.length + s.length ≤ cap
  · have hst := store_beside Tryd.prog g l.length 5 fz (strCells (btext s)) 0 cur w h1 (by rw [h3]; exact h2) (by rw [strCells_btext_length, h3]; omega) (strCells_oneCell _)
    have hf := run_firstCells_string (P := Tryd.prog) w 1 (btext s)
    rw [btext_size] at hf
    simp only [Nat.add_zero, strCells_btext_length] at hst
    refine ⟨g, cap, w.setRow g (cur.toList.take l.length ++ strCells (btext s) ++ cur.toList.drop (l.length + s.length)).toArray, ?_, ⟨_, fz, setRow_heap w g cur _ _ _ h1, h2, ?_, by rw [List.length_append]; exact hroom, h5, ?_⟩, ⟨rfl, rfl, rfl, by simp, fun k _ hk => setRow_other w g k _ (fun e => hk (by rw [e]))⟩, Or.inl rfl⟩
    · rw [List.length_append]
      simp [Builtin.append_, run_underlying Tryd.underlying32, run_underlying Tryd.underlying9, sizeOf, typeInfo, hi, hz1, Builtin.lenOf, btext_size, hroom, hf, Addr.add_lit, hst]
    · simp only [List.size_toArray, List.length_append, List.length_take, List.length_drop, Array.length_toList, strCells_btext_length]
      omega
    · rw [h6, hcs]
      exact List.take_left' (by rw [strCells_btext_length])
  · have hr := run_append_grow_string (P := Tryd.prog) w 32 9 ty 5 i0 (.int .u8 0) Tryd.underlying32 Tryd.underlying9 hi hz0 ⟨g, 0, none⟩ l.length cap (strCells (btext l)) (by rw [hz1, strCells_btext_length, Nat.mul_one]) h.cells (btext s) (by rw [btext_size]; omega) (by rw [btext_size]; omega) (by rw [hz2, btext_size]; exact growslice_fits (by omega) (by omega))
    rw [btext_size] at hr
    have hge := grownCap_ge w (l.length + s.length) cap 5
    have hcm2 : grownCap w (l.length + s.length) cap 5 ≤ maxLen := grownCap_le_maxLen w (l.length + s.length) cap 5 (by unfold maxLen; omega)
    refine ⟨w.heap.size, _, _, by rw [List.length_append]; exact hr, ⟨_, (0, 0), heap_alloc_new w.drew _, Or.inl rfl, ?_, by rw [List.length_append]; exact hge, hcm2, ?_⟩, ⟨rfl, rfl, rfl, by simp, fun k hk _ => heap_alloc_old w.drew _ hk⟩, Or.inr rfl⟩
    · have hz1 : (Value.int IntKind.u8 0).cells.size = 1 := rfl
      simp only [Array.size_append, List.size_toArray, size_zeroCells, hz1, strCells_btext_length]
      omega
    · simp only [Array.toList_append, List.append_assoc]
      rw [← List.append_assoc, hcs]
      exact List.take_left' (by rw [strCells_btext_length])
end Go.Proofs.YtdplffhieekfaaaDoor
