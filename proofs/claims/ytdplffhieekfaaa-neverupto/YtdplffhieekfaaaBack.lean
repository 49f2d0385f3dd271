/-
  Plain numbers: thirteen letters tell their number back (without the decimal numeral); a record's thirteen letters, what it tells, and what a journal of records tells.
-/
import Derived.Test.YtdplffhieekfaaaWrite
namespace Go.Proofs.Ytdplffhieekfaaa

/-- k digits of n, the highest first. -/
def bdigs (n : Nat) : Nat → List Nat
  | 0 => []
  | k + 1 => bdigs (n / 32) k ++ [n % 32]

theorem bdigs_length (k : Nat) : ∀ n, (bdigs n k).length = k := by
  induction k with
  | zero => intro n; rfl
  | succ k ih => intro n; simp [bdigs, ih]

theorem bdigs_val (k : Nat) : ∀ n, valOf (bdigs n k) = n % 32 ^ k := by
  induction k with
  | zero => intro n; simp [bdigs, valOf, Nat.mod_one]
  | succ k ih =>
    intro n
    rw [bdigs, valOf_snoc, ih, Nat.pow_succ, Nat.mul_comm (32 ^ k) 32, Nat.mod_mul]
    omega

theorem bdigs_get (k : Nat) : ∀ n j, j < k → (bdigs n k)[j]? = some (n / 32 ^ (k - 1 - j) % 32) := by
  induction k with
  | zero => intro n j h; omega
  | succ k ih =>
    intro n j h
    rw [bdigs]
    by_cases hj : j < k
    · rw [List.getElem?_append_left (by rw [bdigs_length]; exact hj), ih _ _ hj, Nat.div_div_eq_div_mul, Nat.mul_comm, ← Nat.pow_succ]
      congr 4; omega
    · have hjk : j = k := by omega
      subst hjk
      rw [List.getElem?_append_right (by rw [bdigs_length]; omega), bdigs_length]
      simp

theorem bdigs_eq (n : Nat) : bdigs n 13 = (List.range 13).map (digAt n) := by
  apply List.ext_getElem?
  intro j
  by_cases hj : j < 13
  · rw [bdigs_get 13 n j hj]
    simp [digAt, hj]
  · rw [List.getElem?_eq_none (by rw [bdigs_length]; omega), List.getElem?_eq_none (by simp; omega)]

theorem bval_digAt (n : Nat) (h : n < 9223372036854775808) : valOf ((List.range 13).map (digAt n)) = n := by
  rw [← bdigs_eq, bdigs_val]
  exact Nat.mod_eq_of_lt (Nat.lt_trans h (by decide))

/-- A text of thirteen letters, each worth the digit at its place, is read as the number. -/
theorem bread_of (s : ByteArray) (n : Nat) (h : n < 9223372036854775808) (hs : s.size = 13) (hw : ∀ j (hj : j < s.size), worthOf s[j].toNat = digAt n j) : readNum s = n ∧ readErr s = 0 := by
  have hl : worths s = (List.range 13).map (digAt n) := by
    apply List.ext_getElem
    · rw [worths_length, hs]; simp
    · intro j h1 h2
      rw [worths_length] at h1
      simp only [worths, List.getElem_map, List.getElem_range]
      exact hw j h1
  have hd : ∀ d ∈ worths s, d < 32 := by
    rw [hl]
    intro d hd
    obtain ⟨j, _, rfl⟩ := List.mem_map.1 hd
    exact digAt_lt n j
  have h8 : worthOf (s.data.toList.getD 0 0).toNat < 8 := by
    rw [first_byte s (by omega), hw 0 (by omega)]
    unfold digAt
    rw [show (32 : Nat) ^ (12 - 0) = 1152921504606846976 from rfl]
    omega
  unfold readNum readErr
  rw [if_pos ⟨hs, hd, h8⟩, if_pos ⟨hs, hd⟩, if_pos h8, hl, bval_digAt n h]
  exact ⟨rfl, rfl⟩


theorem letter_worth_u8 (d : Nat) (h : d < 32) : worthOf ((letterOf d).toUInt8).toNat = d := by
  rw [UInt8.toNat_ofNat_of_lt' (letterOf_lt _)]
  exact worth_letter d h

theorem short_length (n : Nat) : (shortOf n).length = 13 := by simp [shortOf]

theorem short_size (n : Nat) : (⟨(shortOf n).toArray⟩ : ByteArray).size = 13 := by
  show (shortOf n).toArray.size = 13
  simp [shortOf]

/-- A number's short text is read as it. -/
theorem read_short (n : Nat) (h : n < 9223372036854775808) : readNum ⟨(shortOf n).toArray⟩ = n ∧ readErr ⟨(shortOf n).toArray⟩ = 0 := by
  refine bread_of _ n h (short_size n) fun j hj => ?_
  have hj' : j < 13 := by rw [short_size] at hj; exact hj
  have e : (⟨(shortOf n).toArray⟩ : ByteArray)[j] = (letterOf (digAt n j)).toUInt8 := by
    show (shortOf n).toArray[j]'(by simpa [shortOf] using hj') = _
    simp [shortOf]
  exact (congrArg (fun b : UInt8 => worthOf b.toNat) e).trans (letter_worth_u8 _ (digAt_lt n j))

theorem readNum_lt (s : ByteArray) (h : s.size = 13) : readNum s < 9223372036854775808 := by
  unfold readNum
  split
  · rename_i hh
    exact worths_small s h hh.2.1 hh.2.2
  · omega

theorem readErr_cases (s : ByteArray) : readErr s = 0 ∨ readErr s = 1 ∨ readErr s = 2 := by
  unfold readErr
  split
  · split <;> simp
  · simp

/-- A text is a record. -/
abbrev recOk (s : ByteArray) : Prop := readErr s = 0 ∧ readNum s % 4096 = 4095 ∧ (⟨(shortOf (readNum s)).toArray⟩ : ByteArray) = s
def recNode (s : ByteArray) : Nat := readNum s / 4096 % 1024
def recTo (s : ByteArray) : Nat := readNum s / 4194304 + 1

/-- The record of a lease. -/
def recNum (node to : Nat) : Nat := (to - 1) * 4194304 + node * 4096 + 4095
def recText (node to : Nat) : List UInt8 := shortOf (recNum node to)

theorem recNum_lt (node to : Nat) (h : node < 1024) (h1 : 1 ≤ to) (h2 : to ≤ 2199023255552) : recNum node to < 9223372036854775808 := by
  unfold recNum; omega

theorem rec_back (node to : Nat) (h : node < 1024) (h1 : 1 ≤ to) (h2 : to ≤ 2199023255552) :
    recOk ⟨(recText node to).toArray⟩ ∧ recNode ⟨(recText node to).toArray⟩ = node ∧ recTo ⟨(recText node to).toArray⟩ = to := by
  obtain ⟨e1, e2⟩ := read_short (recNum node to) (recNum_lt node to h h1 h2)
  unfold recOk recNode recTo recText
  rw [e1, e2]
  refine ⟨⟨rfl, ?_, rfl⟩, ?_, ?_⟩ <;> unfold recNum <;> omega

theorem recTo_le (s : ByteArray) (h : s.size = 13) : 1 ≤ recTo s ∧ recTo s ≤ 2199023255552 := by
  have := readNum_lt s h
  unfold recTo; omega

/-- The k-th record of a text. -/
def recAt (s : ByteArray) (k : Nat) : ByteArray := s.extract (13 * k) (13 * k + 13)

theorem recAt_size (s : ByteArray) (k : Nat) (h : 13 * (k + 1) ≤ s.size) : (recAt s k).size = 13 := by
  unfold recAt; rw [ByteArray.size_extract]; omega

/-- The fences behind k records. -/
def fenceAfter (s : ByteArray) : Nat → Nat → Nat
  | 0, _ => 0
  | k + 1, nd => if nd = recNode (recAt s k) then recTo (recAt s k) else fenceAfter s k nd

abbrev goodAt (s : ByteArray) (k : Nat) : Prop := recOk (recAt s k) ∧ fenceAfter s k (recNode (recAt s k)) < recTo (recAt s k)

theorem fenceAfter_le (s : ByteArray) : ∀ k nd, 13 * k ≤ s.size → fenceAfter s k nd ≤ 2199023255552
  | 0, _, _ => by unfold fenceAfter; omega
  | k + 1, nd, h => by
    unfold fenceAfter
    split
    · exact (recTo_le _ (recAt_size s k h)).2
    · exact fenceAfter_le s k nd (by omega)

end Go.Proofs.Ytdplffhieekfaaa
