/-
  Plain numbers: thirteen letters tell their number back, and rise with it; so does the decimal numeral, by length and letters.
-/
import Derived.Test.YtdplffhieekfaaaDoorParse
import Derived.Lib.ItoaNum
import Derived.Lib.ParseIntB
namespace Go.Proofs.YtdplffhieekfaaaDoor

/-- k digits of n, the highest first. -/
def digs (n : Nat) : Nat → List Nat
  | 0 => []
  | k + 1 => digs (n / 32) k ++ [n % 32]

theorem digs_length (k : Nat) : ∀ n, (digs n k).length = k := by
  induction k with
  | zero => intro n; rfl
  | succ k ih => intro n; simp [digs, ih]

theorem digs_val (k : Nat) : ∀ n, valOf (digs n k) = n % 32 ^ k := by
  induction k with
  | zero => intro n; simp [digs, valOf, Nat.mod_one]
  | succ k ih =>
    intro n
    rw [digs, valOf_snoc, ih, Nat.pow_succ, Nat.mul_comm (32 ^ k) 32, Nat.mod_mul]
    omega

theorem digs_get (k : Nat) : ∀ n j, j < k → (digs n k)[j]? = some (n / 32 ^ (k - 1 - j) % 32) := by
  induction k with
  | zero => intro n j h; omega
  | succ k ih =>
    intro n j h
    rw [digs]
    by_cases hj : j < k
    · rw [List.getElem?_append_left (by rw [digs_length]; exact hj), ih _ _ hj, Nat.div_div_eq_div_mul, Nat.mul_comm, ← Nat.pow_succ]
      congr 4; omega
    · have hjk : j = k := by omega
      subst hjk
      rw [List.getElem?_append_right (by rw [digs_length]; omega), digs_length]
      simp

theorem digs_eq (n : Nat) : digs n 13 = (List.range 13).map (digAt n) := by
  apply List.ext_getElem?
  intro j
  by_cases hj : j < 13
  · rw [digs_get 13 n j hj]
    simp [digAt, hj]
  · rw [List.getElem?_eq_none (by rw [digs_length]; omega), List.getElem?_eq_none (by simp; omega)]

theorem val_digAt (n : Nat) (h : n < 9223372036854775808) : valOf ((List.range 13).map (digAt n)) = n := by
  rw [← digs_eq, digs_val]
  exact Nat.mod_eq_of_lt (Nat.lt_trans h (by decide))

/-- A text of thirteen letters, each worth the digit at its place, is read as the number. -/
theorem read_of (s : ByteArray) (n : Nat) (h : n < 9223372036854775808) (hs : s.size = 13) (hw : ∀ j (hj : j < s.size), worthOf s[j].toNat = digAt n j) : readNum s = n ∧ readErr s = 0 := by
  have hl : worths s = (List.range 13).map (digAt n) := by
    apply List.ext_getElem
    · rw [worths_length, hs]; simp
    · intro j h1 h2
      rw [worths_length] at h1
      simp only [worths, List.getElem_map, List.getElem_range]
      exact hw j h1
  have hd : ∀ d ∈ worths s, d < 32 := by
    rw [hl]
    intro d hd
    obtain ⟨j, _, rfl⟩ := List.mem_map.1 hd
    exact digAt_lt n j
  have h8 : worthOf (s.data.toList.getD 0 0).toNat < 8 := by
    rw [first_byte s (by omega), hw 0 (by omega)]
    unfold digAt
    rw [show (32 : Nat) ^ (12 - 0) = 1152921504606846976 from rfl]
    omega
  unfold readNum readErr
  rw [if_pos ⟨hs, hd, h8⟩, if_pos ⟨hs, hd⟩, if_pos h8, hl, val_digAt n h]
  exact ⟨rfl, rfl⟩

/-! ### by bytes -/

theorem less_snoc (p q : List UInt8) (x y : UInt8) (h : p.length = q.length) : Op.bytesLess (p ++ [x]) (q ++ [y]) = (Op.bytesLess p q || (p == q && decide (x < y))) := by
  induction p generalizing q with
  | nil =>
    cases q with
    | nil => simp [Op.bytesLess]
    | cons b q => simp at h
  | cons a p ih =>
    cases q with
    | nil => simp at h
    | cons b q =>
      have h' : p.length = q.length := by simpa using h
      simp only [List.cons_append, Op.bytesLess, ih q h']
      by_cases hab : a = b
      · subst hab
        simp
      · have : (a == b) = false := by simpa using hab
        have h2 : ((a :: p) == (b :: q)) = false := by
          rw [beq_eq_false_iff_ne]; intro h3; exact hab (List.cons.inj h3).1
        simp [this, h2]

/-- Digits by a letter each, the letters rising. -/
theorem less_digs (f : Nat → UInt8) (hf : ∀ x y, x < 32 → y < 32 → (f x < f y ↔ x < y)) (hi : ∀ x y, x < 32 → y < 32 → f x = f y → x = y) (k : Nat) :
    ∀ a b, a < 32 ^ k → b < 32 ^ k → Op.bytesLess ((digs a k).map f) ((digs b k).map f) = decide (a < b) ∧ ((digs a k).map f = (digs b k).map f → a = b) := by
  induction k with
  | zero =>
    intro a b ha hb
    have : a = 0 := by simpa using ha
    have : b = 0 := by simpa using hb
    subst a; subst b
    simp [digs, Op.bytesLess]
  | succ k ih =>
    intro a b ha hb
    rw [Nat.pow_succ] at ha hb
    have h1 := ih (a / 32) (b / 32) (by omega) (by omega)
    have ha' : a % 32 < 32 := Nat.mod_lt _ (by omega)
    have hb' : b % 32 < 32 := Nat.mod_lt _ (by omega)
    have hlen : ((digs (a / 32) k).map f).length = ((digs (b / 32) k).map f).length := by simp [digs_length]
    constructor
    · simp only [digs, List.map_append, List.map_cons, List.map_nil]
      rw [less_snoc _ _ _ _ hlen, h1.1]
      by_cases hq : (digs (a / 32) k).map f = (digs (b / 32) k).map f
      · have hab := h1.2 hq
        have hlt := hf (a % 32) (b % 32) ha' hb'
        simp only [hq, beq_self_eq_true, Bool.true_and]
        rw [Bool.eq_iff_iff]
        simp only [Bool.or_eq_true, decide_eq_true_eq, hlt]
        omega
      · have hab : a / 32 ≠ b / 32 := fun h => hq (by rw [h])
        have : ((digs (a / 32) k).map f == (digs (b / 32) k).map f) = false := by simpa using hq
        simp only [this, Bool.false_and, Bool.or_false]
        rw [Bool.eq_iff_iff]
        simp only [decide_eq_true_eq]
        omega
    · intro he
      simp only [digs, List.map_append, List.map_cons, List.map_nil] at he
      obtain ⟨e1, e2⟩ := List.append_inj he hlen
      have e3 := h1.2 e1
      have e4 := hi (a % 32) (b % 32) ha' hb' (List.cons.inj e2).1
      omega

theorem letter_mono (x y : Nat) (hx : x < 32) (hy : y < 32) : ((letterOf x).toUInt8 < (letterOf y).toUInt8 ↔ x < y) ∧ ((letterOf x).toUInt8 = (letterOf y).toUInt8 → x = y) := by
  have key : ∀ x y : Fin 32, ((letterOf x.1).toUInt8 < (letterOf y.1).toUInt8 ↔ x.1 < y.1) ∧ ((letterOf x.1).toUInt8 = (letterOf y.1).toUInt8 → x.1 = y.1) := by decide +kernel
  exact key ⟨x, hx⟩ ⟨y, hy⟩

theorem shortOf_digs (n : Nat) : shortOf n = (digs n 13).map fun d => (letterOf d).toUInt8 := by
  rw [digs_eq, List.map_map]; rfl

/-- The short texts rise with their numbers. -/
theorem short_less (a b : Nat) (ha : a < 9223372036854775808) (hb : b < 9223372036854775808) : Op.bytesLess (shortOf a) (shortOf b) = decide (a < b) := by
  rw [shortOf_digs, shortOf_digs]
  exact (less_digs _ (fun x y hx hy => (letter_mono x y hx hy).1) (fun x y hx hy => (letter_mono x y hx hy).2) 13 a b (Nat.lt_trans ha (by decide)) (Nat.lt_trans hb (by decide))).1

/-! ### the decimal numeral -/

theorem dec_snoc {u : Nat} (h : ¬ u < 10) : Lib.decDigits u = Lib.decDigits (u / 10) ++ [UInt8.ofNat (48 + u % 10)] := by rw [Lib.decDigits, dif_neg h]

theorem dig10_mono (x y : Nat) (hx : x < 10) (hy : y < 10) : (UInt8.ofNat (48 + x) < UInt8.ofNat (48 + y) ↔ x < y) ∧ (UInt8.ofNat (48 + x) = UInt8.ofNat (48 + y) → x = y) := by
  have key : ∀ x y : Fin 10, (UInt8.ofNat (48 + x.1) < UInt8.ofNat (48 + y.1) ↔ x.1 < y.1) ∧ (UInt8.ofNat (48 + x.1) = UInt8.ofNat (48 + y.1) → x.1 = y.1) := by decide +kernel
  exact key ⟨x, hx⟩ ⟨y, hy⟩

theorem dec_less (a : Nat) : ∀ b, Lib.nDigits a = Lib.nDigits b → Op.bytesLess (Lib.decDigits a) (Lib.decDigits b) = decide (a < b) ∧ (Lib.decDigits a = Lib.decDigits b → a = b) := by
  induction a using Nat.strongRecOn with
  | _ a ih =>
    intro b hn
    by_cases ha : a < 10
    · have hb : b < 10 := by
        rcases Nat.lt_or_ge b 10 with h | h
        · exact h
        · rw [Lib.nDigits_small ha, Lib.nDigits_big (by omega)] at hn
          have := Lib.nDigits_pos (b / 10); omega
      have hm := dig10_mono a b ha hb
      rw [Lib.decDigits_one ha, Lib.decDigits_one hb]
      constructor
      · simp only [Op.bytesLess, Bool.and_false, Bool.or_false]
        rw [Bool.eq_iff_iff]
        simp only [decide_eq_true_eq, hm.1]
      · intro h; exact hm.2 (List.cons.inj h).1
    · have hb : ¬ b < 10 := by
        intro h
        rw [Lib.nDigits_small h, Lib.nDigits_big ha] at hn
        have := Lib.nDigits_pos (a / 10); omega
      rw [Lib.nDigits_big ha, Lib.nDigits_big hb] at hn
      have h1 := ih (a / 10) (by omega) (b / 10) (by omega)
      have hm := dig10_mono (a % 10) (b % 10) (by omega) (by omega)
      have hlen : (Lib.decDigits (a / 10)).length = (Lib.decDigits (b / 10)).length := by rw [Lib.decDigits_length, Lib.decDigits_length]; omega
      rw [dec_snoc ha, dec_snoc hb]
      constructor
      · rw [less_snoc _ _ _ _ hlen, h1.1]
        by_cases hq : Lib.decDigits (a / 10) = Lib.decDigits (b / 10)
        · have hab := h1.2 hq
          simp only [hq, beq_self_eq_true, Bool.true_and]
          rw [Bool.eq_iff_iff]
          simp only [Bool.or_eq_true, decide_eq_true_eq, hm.1]
          omega
        · have hab : a / 10 ≠ b / 10 := fun h => hq (by rw [h])
          have : (Lib.decDigits (a / 10) == Lib.decDigits (b / 10)) = false := by simpa using hq
          simp only [this, Bool.false_and, Bool.or_false]
          rw [Bool.eq_iff_iff]
          simp only [decide_eq_true_eq]
          omega
      · intro he
        obtain ⟨e1, e2⟩ := List.append_inj he hlen
        have e3 := h1.2 e1
        have e4 := hm.2 (List.cons.inj e2).1
        omega

theorem nDigits_mono (a : Nat) : ∀ b, a ≤ b → Lib.nDigits a ≤ Lib.nDigits b := by
  induction a using Nat.strongRecOn with
  | _ a ih =>
    intro b hab
    by_cases ha : a < 10
    · rw [Lib.nDigits_small ha]; exact Lib.nDigits_pos b
    · have hb : ¬ b < 10 := by omega
      rw [Lib.nDigits_big ha, Lib.nDigits_big hb]
      have := ih (a / 10) (by omega) (b / 10) (by omega)
      omega

/-- The greater number has the longer decimal text, or the greater one of the same length. -/
theorem dec_order (a b : Nat) : (decide ((Lib.decDigits a).length < (Lib.decDigits b).length) || (decide ((Lib.decDigits a).length = (Lib.decDigits b).length) && Op.bytesLess (Lib.decDigits a) (Lib.decDigits b))) = decide (a < b) := by
  rw [Lib.decDigits_length, Lib.decDigits_length]
  by_cases h1 : Lib.nDigits a < Lib.nDigits b
  · have : a < b := by
      rcases Nat.lt_or_ge a b with h | h
      · exact h
      · have := nDigits_mono b a h; omega
    simp [h1, this]
  · by_cases h2 : Lib.nDigits a = Lib.nDigits b
    · rw [(dec_less a b h2).1]
      simp [h2]
    · have : ¬ a < b := fun h => by have := nDigits_mono a b (by omega); omega
      simp [h1, h2, this]

theorem parse_append (M : Nat) : ∀ (l r : List UInt8) (n u : Nat), Lib.parseUintM M n l = .ok u → Lib.parseUintM M n (l ++ r) = Lib.parseUintM M u r
  | [], r, n, u, h => by
    simp only [Lib.parseUintM] at h
    cases h
    rfl
  | c :: l, r, n, u, h => by
    simp only [List.cons_append, Lib.parseUintM] at h ⊢
    split at h
    · rename_i h1
      rw [if_pos h1]
      split at h
      · cases h
      · rename_i h2
        rw [if_neg h2]
        split at h
        · cases h
        · rename_i h3
          rw [if_neg h3]
          exact parse_append M l r _ u h
    · cases h

theorem parse_dec (u : Nat) (h : u < 18446744073709551616) : Lib.parseUintM (2 ^ 64 - 1) 0 (Lib.decDigits u) = .ok u := by
  induction u using Nat.strongRecOn with
  | _ u ih =>
    have hd : ∀ x, x < 10 → (UInt8.ofNat (48 + x)).toNat = 48 + x := fun x hx => by
      rw [UInt8.toNat_ofNat_of_lt' (by show _ < 256; omega)]
    by_cases hu : u < 10
    · rw [Lib.decDigits_one hu]
      simp only [Lib.parseUintM]
      rw [hd u hu, if_pos (by omega), if_neg (by omega), if_neg (by omega)]
      simp
    · rw [dec_snoc hu, parse_append _ _ _ _ _ (ih (u / 10) (by omega) (by omega))]
      simp only [Lib.parseUintM]
      rw [hd (u % 10) (by omega), if_pos (by omega), if_neg (by omega), if_neg (by omega)]
      congr 1; omega

theorem dec_back (u : Nat) (h : u < 9223372036854775808) : decNum (Lib.decDigits u) = u ∧ decErr (Lib.decDigits u) = 0 := by
  have hne : Lib.decDigits u ≠ [] := fun he => by
    have h1 := Lib.decDigits_length u
    have h2 := Lib.nDigits_pos u
    rw [he] at h1; simp at h1; omega
  have hp : Lib.parseUintB 64 (Lib.decDigits u) = .ok u := by unfold Lib.parseUintB; rw [if_neg hne]; exact parse_dec u (by omega)
  unfold decNum decErr
  rw [hp]
  simp [h]

end Go.Proofs.YtdplffhieekfaaaDoor
