/-
  The document's answer: Short, Decimal.
  Conditions: none but the number's own bounds.
-/
import Derived.Test.YtdplffhieekfaaaDoorRefRead
namespace Go.Proofs.YtdplffhieekfaaaDoor
open Go.RowKit

set_option maxHeartbeats 1000000 in
theorem rshort_no (u : Int) (hu : 9223372036854775808 ≤ u) (w : World) :
    Calls Tryd.prog 40 #[.int .u64 u] w fun e w' => e = .returned (.tuple #[.string ⟨#[]⟩, .int .i64 1]) ∧ w' = w := by
  go_enter Tryd.func40, Tryd.ntmps40
  go_wp2
  go_ret2
  exact ⟨rfl, rfl⟩
set_option maxHeartbeats 1000000 in
theorem rdecimal_no (u : Int) (hu : 9223372036854775808 ≤ u) (w : World) :
    Calls Tryd.prog 38 #[.int .u64 u] w fun e w' => e = .returned (.tuple #[.string ⟨#[]⟩, .int .i64 1]) ∧ w' = w := by
  go_enter Tryd.func38, Tryd.ntmps38
  go_wp2
  go_ret2
  exact ⟨rfl, rfl⟩

/-- The last k letters of a short text. -/
def shortEnd (n k : Nat) : List UInt8 := (digs n k).map fun d => (letterOf d).toUInt8

theorem shortEnd_succ (n k : Nat) : shortEnd n (k + 1) = (letterOf (n / 32 ^ k % 32)).toUInt8 :: shortEnd n k := by
  unfold shortEnd
  refine Eq.trans (congrArg _ ?_) List.map_cons
  induction k generalizing n with
  | zero => simp [digs]
  | succ k ih =>
    rw [digs, ih (n / 32), List.cons_append]
    rw [show digs n (k + 1) = digs (n / 32) k ++ [n % 32] from rfl, Nat.div_div_eq_div_mul, show 32 * 32 ^ k = 32 ^ (k + 1) by rw [Nat.pow_succ]; omega]

theorem letter_cut (d : Nat) (h : d < 32) : (⟨#[48, 49, 50, 51, 52, 53, 54, 55, 56, 57, 65, 66, 67, 68, 69, 70, 71, 72, 74, 75, 77, 78, 80, 81, 82, 83, 84, 86, 87, 88, 89, 90]⟩ : ByteArray).extract d (d + 1) = ⟨#[(letterOf d).toUInt8]⟩ := by
  have key : ∀ d : Fin 32, (⟨#[48, 49, 50, 51, 52, 53, 54, 55, 56, 57, 65, 66, 67, 68, 69, 70, 71, 72, 74, 75, 77, 78, 80, 81, 82, 83, 84, 86, 87, 88, 89, 90]⟩ : ByteArray).extract d.1 (d.1 + 1) = ⟨#[(letterOf d.1).toUInt8]⟩ := by decide +kernel
  exact key ⟨d, h⟩

theorem bytes_cons (b : UInt8) (l : List UInt8) : (⟨#[b]⟩ : ByteArray) ++ ⟨l.toArray⟩ = ⟨(b :: l).toArray⟩ := by
  apply ByteArray.ext
  simp

set_option maxRecDepth 100000 in
set_option maxHeartbeats 1000000 in
theorem rshort_yes (u : Nat) (hu : u < 9223372036854775808) (w : World) :
    Calls Tryd.prog 40 #[.int .u64 u] w fun e w' => e = .returned (.tuple #[.string ⟨(shortOf u).toArray⟩, .int .i64 0]) ∧ w' = w := by
  have hb : decide ((9223372036854775808 : Int) ≤ (u : Int)) = false := by rw [decide_eq_false_iff_not]; omega
  have hu' : Hid (u < 9223372036854775808) := hu
  clear hu
  go_enter Tryd.func40, Tryd.ntmps40
  go_wp2
  go_loop [0, 4, 5] (fun n s i => ∃ (k m : Nat) (t : ByteArray), k ≤ 13 ∧ m ≤ u ∧ i = .int .i64 k ∧ n = .int .u64 m ∧ s = .string t ∧ Hid (t = ⟨(shortEnd u k).toArray⟩) ∧ Hid (m = u / 32 ^ k)) (fun _ _ i => 13 - (intOf i).toNat)
  case atStart => exact ⟨0, u, _, by omega, by omega, rfl, rfl, rfl, rfl, by show u = u / 32 ^ 0; simp⟩
  case round =>
    obtain ⟨k, m, t, hk, hmu, rfl, rfl, rfl, ht, hm⟩ := hrel
    by_cases hlt : k < 13
    · have hl : t.size = k := by rw [ht.out]; simp [shortEnd, digs_length, ByteArray.size]
      have hsz : ¬ 9223372036854775807 < min (m % 32 + 1) 32 - m % 32 + t.size := by omega
      have hl' : Hid _ := hl
      clear hl
      go_wp2
      refine ⟨⟨k + 1, m / 32, _, by omega, by omega, by go_num, by have := hu'.out; rw [IntKind.wrap_u64]; congr 1; omega, rfl, ?_, ?_⟩, by simp [intOf]; omega⟩
      · show _ = _
        rw [letter_cut _ (by omega), ht.out, bytes_cons, shortEnd_succ, ← hm.out]
      · show m / 32 = u / 32 ^ (k + 1)
        rw [hm.out, Nat.div_div_eq_div_mul, Nat.pow_succ]
    · have hk13 : k = 13 := by omega
      subst hk13
      go_wp2
      go_ret2
      rw [shortOf_digs, ht.out]
      exact ⟨rfl, rfl⟩

theorem dec_cons {n : Nat} {t : List UInt8} {N : Nat} (h : n < 10) (ht : Lib.decDigits N = Lib.decDigits n ++ t) : Lib.decDigits N = UInt8.ofNat (48 + n % 10) :: t := by
  rw [ht, Lib.decDigits, dif_pos h, Nat.mod_eq_of_lt h]; rfl
theorem dec_more {n : Nat} {t : List UInt8} {N : Nat} (h : ¬ n < 10) (ht : Lib.decDigits N = Lib.decDigits n ++ t) : Lib.decDigits N = Lib.decDigits (n / 10) ++ UInt8.ofNat (48 + n % 10) :: t := by
  rw [ht, dec_snoc h, List.append_assoc]; rfl

/-- The digits that stand, and the number that is left. -/
structure DecAt (u m : Nat) (t : ByteArray) : Prop where
  le : t.size + m ≤ max u 1
  eq : if m = 0 ∧ t.size ≠ 0 then t = ⟨(Lib.decDigits u).toArray⟩ else ∃ l, t = ⟨l.toArray⟩ ∧ Lib.decDigits u = Lib.decDigits m ++ l

theorem DecAt.zero {u m : Nat} {t : ByteArray} (h : DecAt u m t) (hm : m = 0) (ht : t.size ≠ 0) : t = ⟨(Lib.decDigits u).toArray⟩ := by
  have := h.eq
  rw [if_pos ⟨hm, ht⟩] at this
  exact this
theorem DecAt.one {u m : Nat} {t : ByteArray} (h : DecAt u m t) (ht : t.size = 0) : ∃ l, t = ⟨l.toArray⟩ ∧ Lib.decDigits u = Lib.decDigits m ++ l := by
  have := h.eq
  rw [if_neg (fun x => x.2 ht)] at this
  exact this
theorem DecAt.step0 {u : Nat} (h : DecAt u 0 ⟨#[]⟩) : DecAt u 0 (⟨#[48]⟩ ++ ⟨#[]⟩) := by
  obtain ⟨l, hl, hd⟩ := h.one rfl
  have hl0 : l = [] := by
    have := congrArg (fun b : ByteArray => b.data.toList) hl
    simpa using this.symm
  subst hl0
  have e : (⟨#[48]⟩ : ByteArray) ++ ⟨#[]⟩ = ⟨(Lib.decDigits u).toArray⟩ := by
    rw [dec_cons (by omega) hd]; rfl
  refine ⟨?_, ?_⟩
  · show 1 + 0 ≤ _; omega
  · rw [if_pos ⟨rfl, by show (1 : Nat) ≠ 0; omega⟩]; exact e
theorem DecAt.step {u m : Nat} {t : ByteArray} (h : DecAt u m t) (hm : 0 < m) : DecAt u (m / 10) (⟨#[UInt8.ofNat (48 + m % 10)]⟩ ++ t) := by
  have hq := h.eq
  rw [if_neg (fun x => absurd x.1 (by omega))] at hq
  obtain ⟨l, rfl, hd⟩ := hq
  rw [bytes_cons]
  have hle := h.le
  have hsz : (⟨(UInt8.ofNat (48 + m % 10) :: l).toArray⟩ : ByteArray).size = (⟨l.toArray⟩ : ByteArray).size + 1 := by simp [ByteArray.size]
  refine ⟨by rw [hsz]; omega, ?_⟩
  by_cases h10 : m < 10
  · rw [if_pos ⟨by omega, by rw [hsz]; omega⟩, dec_cons h10 hd]
  · rw [if_neg (fun x => absurd x.1 (by omega))]
    exact ⟨_, rfl, dec_more h10 hd⟩

theorem one_byte (W : World) (d : Nat) (h : d < 256) : (convert 32 9 (.slice (some ⟨W.heap.size, 0, none⟩) 1 1)).run Tryd.prog (W.alloc (.cells #[.int .u8 (d : Int)] 5)) = .ok (.string ⟨#[UInt8.ofNat d]⟩) (W.alloc (.cells #[.int .u8 (d : Int)] 5)) :=
  run_convert_bytes_back (P := Tryd.prog) (W.alloc (.cells #[.int .u8 (d : Int)] 5)) 32 9 5 ⟨W.heap.size, 0, none⟩ 1 [UInt8.ofNat d] Tryd.underlying32 Tryd.underlying5 Tryd.underlying9 (fun j hj => by
    have hj0 : j = 0 := by simpa using hj
    subst hj0
    rw [Lib.add_plain, Nat.zero_add, (cell_alloc_new W _ _ 0).1]
    simp [UInt8.toNat_ofNat_of_lt' (show d < 2 ^ 8 by omega)])

set_option maxRecDepth 100000 in
set_option maxHeartbeats 1000000 in
theorem rdecimal_yes (u : Nat) (hu : u < 9223372036854775808) (w : World) :
    Calls Tryd.prog 38 #[.int .u64 u] w fun e w' => e = .returned (.tuple #[.string ⟨(Lib.decDigits u).toArray⟩, .int .i64 0]) ∧ Below w.heap.size w w' := by
  have hb : decide ((9223372036854775808 : Int) ≤ (u : Int)) = false := by rw [decide_eq_false_iff_not]; omega
  have hu' : Hid (u < 9223372036854775808) := hu
  clear hu
  go_enter Tryd.func38, Tryd.ntmps38
  go_wp2
  go_loopw [0, 4] (fun n s W => ∃ (m : Nat) (t : ByteArray), m ≤ u ∧ n = .int .u64 m ∧ s = .string t ∧ Hid (DecAt u m t) ∧ Hid (Below w.heap.size w W)) (fun n s _ => (intOf n).toNat + (match s with | .string t => if t.size = 0 then 1 else 0 | _ => 0))
  case atStart => exact ⟨u, ⟨#[]⟩, by omega, rfl, rfl, ⟨by show 0 + u ≤ _; omega, by rw [if_neg (by intro h; exact h.2 rfl)]; exact ⟨[], rfl, by simp⟩⟩, Below.refl _ _⟩
  case round =>
    obtain ⟨m, t, hmu, rfl, rfl, ht, hbel⟩ := hrel
    by_cases hm0 : m = 0
    · by_cases hts : t.size = 0
      · obtain ⟨l, hl, hd⟩ := ht.out.one hts
        have hu0 : Hid _ := hd
        have ht0 : t = ⟨#[]⟩ := by
          apply ByteArray.ext; apply Array.eq_empty_of_size_eq_zero; exact hts
        subst ht0
        subst hm0
        have hst := ht.out.step0
        have hst' : Hid _ := hst
        have hcv := one_byte wr 48 (by omega)
        rw [show (((48 : Nat)) : Int) = 48 from rfl] at hcv
        clear hst hts hd hl
        go_wp2
        refine ⟨⟨0, _, by omega, by go_num, rfl, hst'.out, hbel.out.alloc hbel.out.size _⟩, ?_⟩
        decide
      · have hfin : Hid _ := ht.out.zero hm0 hts
        have hbq : t.toList.isEmpty = false := by
          rw [Lib.toList_data, List.isEmpty_eq_false_iff]
          intro he
          apply hts
          have := congrArg List.length he
          rw [Array.length_toList] at this
          exact this
        clear hts
        subst hm0
        go_wp2
        go_ret2
        rw [hfin.out]
        exact ⟨rfl, hbel.out⟩
    · have hmp : 0 < m := by omega
      have hst : Hid _ := ht.out.step hmp
      have hsz : ¬ 9223372036854775807 < 1 + t.size := by have := ht.out.le; have := hu'.out; omega
      have hcv := one_byte wr (48 + m % 10) (by omega)
      rw [show (((48 + m % 10 : Nat)) : Int) = 48 + (m : Int) % 10 by omega] at hcv
      clear hm0
      go_wp2
      rw [show (48 + UInt8.ofNat (m % 10)) = UInt8.ofNat (48 + m % 10) by simp]
      have hw10 : IntKind.u64.wrap ((m : Int) / 10) = ((m / 10 : Nat) : Int) := by have := hu'.out; rw [IntKind.wrap_u64]; omega
      rw [hw10]
      refine ⟨⟨m / 10, _, by omega, rfl, rfl, hst.out, hbel.out.alloc hbel.out.size _⟩, ?_⟩
      have hne : ¬ ((⟨#[UInt8.ofNat (48 + m % 10)]⟩ : ByteArray) ++ t).size = 0 := by
        rw [ByteArray.size_append]
        show ¬ 1 + t.size = 0
        omega
      simp only [intOf, Int.toNat_natCast, if_neg hne]
      omega
end Go.Proofs.YtdplffhieekfaaaDoor
