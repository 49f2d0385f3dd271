/-
  The document's answer: ParseDecimal.
  Conditions: a text that memory holds.
-/
import Derived.Test.YtdplffhieekfaaaDoorRefWrite
namespace Go.Proofs.YtdplffhieekfaaaDoor
open Go.RowKit

/-- A decimal text's value. -/
def val10 (l : List UInt8) : Nat := l.foldl (fun n b => 10 * n + (b.toNat - 48)) 0

theorem val10_snoc (l : List UInt8) (b : UInt8) : val10 (l ++ [b]) = 10 * val10 l + (b.toNat - 48) := by
  unfold val10; rw [List.foldl_append]; rfl

def isDig (b : UInt8) : Prop := 48 ≤ b.toNat ∧ b.toNat ≤ 57

theorem dig_of (x : Nat) (h : x < 10) : (UInt8.ofNat (48 + x)).toNat = 48 + x := by
  rw [UInt8.toNat_ofNat_of_lt' (show 48 + x < 2 ^ 8 by omega)]

theorem head_snoc (r : List UInt8) (b : UInt8) (h : r ≠ []) : (r ++ [b]).head? = r.head? := by
  cases r with
  | nil => exact absurd rfl h
  | cons x r => rfl

theorem dec_facts (u : Nat) : val10 (Lib.decDigits u) = u ∧ (∀ b ∈ Lib.decDigits u, isDig b) ∧ Lib.decDigits u ≠ [] ∧ (0 < u → (Lib.decDigits u).head? ≠ some 48) := by
  induction u using Nat.strongRecOn with
  | _ u ih =>
    by_cases h : u < 10
    · have e : Lib.decDigits u = [UInt8.ofNat (48 + u)] := by rw [Lib.decDigits, dif_pos h]
      rw [e]
      refine ⟨?_, fun b hb => ?_, by simp, fun h0 hh => ?_⟩
      · show 10 * 0 + ((UInt8.ofNat (48 + u)).toNat - 48) = u
        rw [dig_of u h]; omega
      · rw [List.mem_singleton] at hb
        subst hb
        unfold isDig
        rw [dig_of u h]; omega
      · have h1 : UInt8.ofNat (48 + u) = 48 := by simpa using hh
        have h2 := congrArg UInt8.toNat h1
        rw [dig_of u h] at h2
        have : (48 : UInt8).toNat = 48 := rfl
        omega
    · obtain ⟨h1, h2, h3, h4⟩ := ih (u / 10) (by omega)
      rw [dec_snoc h]
      refine ⟨?_, fun b hb => ?_, by simp, fun _ hh => ?_⟩
      · rw [val10_snoc, h1, dig_of _ (by omega)]; omega
      · rw [List.mem_append] at hb
        rcases hb with hb | hb
        · exact h2 b hb
        · rw [List.mem_singleton] at hb
          subst hb
          unfold isDig
          rw [dig_of _ (by omega)]; omega
      · rw [head_snoc _ _ h3] at hh
        exact h4 (by omega) hh

theorem dec_of_digits (l : List UInt8) (hne : l ≠ []) (hd : ∀ b ∈ l, isDig b) (h0 : l.length = 1 ∨ l.head? ≠ some 48) : Lib.decDigits (val10 l) = l := by
  have key : ∀ n (l : List UInt8), l.length = n + 1 → (∀ b ∈ l, isDig b) → (n = 0 ∨ l.head? ≠ some 48) → Lib.decDigits (val10 l) = l ∧ (l.head? ≠ some 48 → 0 < val10 l) := by
    intro n
    induction n with
    | zero =>
      intro l hl hd _
      match l, hl with
      | [b], _ =>
        have hb := hd b (by simp)
        unfold isDig at hb
        have hv : val10 [b] = b.toNat - 48 := by show 10 * 0 + (b.toNat - 48) = _; omega
        refine ⟨?_, fun hh => ?_⟩
        · rw [hv, Lib.decDigits, dif_pos (by omega), show 48 + (b.toNat - 48) = b.toNat by omega]
          simp
        · rw [hv]
          have : b ≠ 48 := fun e => hh (by rw [e]; rfl)
          have h2 : b.toNat ≠ 48 := fun e => this (UInt8.toNat_inj.1 e)
          omega
    | succ n ih =>
      intro l hl hd hz
      obtain ⟨r, b, rfl⟩ : ∃ r b, l = r ++ [b] := ⟨l.dropLast, l.getLast (by intro e; rw [e] at hl; cases hl), (List.dropLast_concat_getLast _).symm⟩
      have hr : r.length = n + 1 := by simpa using hl
      have hrn : r ≠ [] := fun e => by rw [e] at hr; cases hr
      have hh : r.head? ≠ some 48 := by
        rcases hz with hz | hz
        · omega
        · rwa [head_snoc _ _ hrn] at hz
      obtain ⟨i1, i2⟩ := ih r hr (fun x hx => hd x (List.mem_append_left _ hx)) (Or.inr hh)
      have hp := i2 hh
      have hb := hd b (by simp)
      unfold isDig at hb
      rw [val10_snoc]
      refine ⟨?_, fun _ => by omega⟩
      rw [dec_snoc (by omega), show (10 * val10 r + (b.toNat - 48)) / 10 = val10 r by omega, i1, show 48 + (10 * val10 r + (b.toNat - 48)) % 10 = b.toNat by omega]
      simp
  have hl : l.length = (l.length - 1) + 1 := by
    have : 0 < l.length := List.length_pos_iff.2 hne
    omega
  exact (key (l.length - 1) l hl hd (by rcases h0 with h | h; exact Or.inl (by omega); exact Or.inr h)).1

theorem dec_bad (l : List UInt8) (h : ∀ u, u < 9223372036854775808 → Lib.decDigits u ≠ l) : decNum l = 0 ∧ decErr l = 2 := by
  unfold decNum decErr
  split
  · rw [if_neg (fun hh => h _ hh.1 hh.2), if_neg (fun hh => h _ hh.1 hh.2)]; exact ⟨rfl, rfl⟩
  · exact ⟨rfl, rfl⟩

theorem dec_len (u : Nat) (h : u < 9223372036854775808) : 1 ≤ (Lib.decDigits u).length ∧ (Lib.decDigits u).length ≤ 19 := by
  rw [Lib.decDigits_length]
  refine ⟨Lib.nDigits_pos u, ?_⟩
  exact Nat.le_trans (nDigits_mono u 9223372036854775807 (by omega)) (by decide +kernel)

theorem val10_lt (l : List UInt8) (hd : ∀ b ∈ l, isDig b) : val10 l < 10 ^ l.length := by
  have key : ∀ n (l : List UInt8), l.length = n → (∀ b ∈ l, isDig b) → val10 l < 10 ^ n := by
    intro n
    induction n with
    | zero => intro l hl _; rw [List.length_eq_zero_iff.1 hl]; decide
    | succ n ih =>
      intro l hl hd
      obtain ⟨r, b, rfl⟩ : ∃ r b, l = r ++ [b] := ⟨l.dropLast, l.getLast (by intro e; rw [e] at hl; cases hl), (List.dropLast_concat_getLast _).symm⟩
      have := ih r (by simpa using hl) (fun x hx => hd x (List.mem_append_left _ hx))
      have hb := hd b (by simp)
      unfold isDig at hb
      rw [val10_snoc, Nat.pow_succ]
      omega
  exact key _ l rfl hd

theorem bytes_take (s : ByteArray) (k : Nat) (h : k < s.size) : s.data.toList.take (k + 1) = s.data.toList.take k ++ [s[k]] := by
  have hl : k < s.data.toList.length := by simpa using h
  rw [List.take_succ_eq_append_getElem hl]
  rfl
theorem bytes_mem (s : ByteArray) (k : Nat) (h : k < s.size) : s[k] ∈ s.data.toList := by
  have hl : k < s.data.toList.length := by simpa using h
  exact List.getElem_mem hl
theorem bytes_head (s : ByteArray) (h : 0 < s.size) : s.data.toList.head? = some s[0] := by
  have hl : 0 < s.data.toList.length := by simpa using h
  rw [List.head?_eq_getElem?, List.getElem?_eq_getElem hl]
  rfl

/-- The texts that are no number. -/
theorem dec_bad_len (s : ByteArray) (h : s.size < 1 ∨ 19 < s.size) : decNum s.data.toList = 0 ∧ decErr s.data.toList = 2 :=
  dec_bad _ fun u hu he => by
    have := dec_len u hu
    rw [he] at this
    have e : s.data.toList.length = s.size := by simp
    omega
theorem dec_bad_head (s : ByteArray) (h : 1 < s.size) (h0 : s[0].toNat = 48) : decNum s.data.toList = 0 ∧ decErr s.data.toList = 2 :=
  dec_bad _ fun u hu he => by
    obtain ⟨f1, _, _, f4⟩ := dec_facts u
    rw [he] at f1 f4
    have hh := bytes_head s (by omega)
    have e0 : s[0] = 48 := UInt8.toNat_inj.1 h0
    rw [e0] at hh
    by_cases hu0 : 0 < u
    · exact f4 hu0 hh
    · have : u = 0 := by omega
      subst this
      have e : s.data.toList.length = s.size := by simp
      rw [← he] at e
      have : (Lib.decDigits 0).length = 1 := by decide +kernel
      omega
theorem dec_bad_dig (s : ByteArray) (k : Nat) (h : k < s.size) (hb : s[k].toNat < 48 ∨ 57 < s[k].toNat) : decNum s.data.toList = 0 ∧ decErr s.data.toList = 2 :=
  dec_bad _ fun u hu he => by
    obtain ⟨_, f2, _, _⟩ := dec_facts u
    rw [he] at f2
    have := f2 _ (bytes_mem s k h)
    unfold isDig at this
    omega
theorem dec_bad_big (s : ByteArray) (hb : 9223372036854775808 ≤ val10 s.data.toList) : decNum s.data.toList = 0 ∧ decErr s.data.toList = 2 :=
  dec_bad _ fun u hu he => by
    obtain ⟨f1, _, _, _⟩ := dec_facts u
    rw [he] at f1
    omega
theorem dec_good (s : ByteArray) (h : 0 < s.size) (hd : ∀ b ∈ s.data.toList, isDig b) (h0 : s.size = 1 ∨ s[0].toNat ≠ 48) (hb : val10 s.data.toList < 9223372036854775808) : decNum s.data.toList = val10 s.data.toList ∧ decErr s.data.toList = 0 := by
  have hl : s.data.toList.length = s.size := by simp
  have e := dec_of_digits s.data.toList (fun he => by rw [he] at hl; simp at hl; omega) hd (by
    rcases h0 with h0 | h0
    · exact Or.inl (by omega)
    · refine Or.inr fun hh => h0 ?_
      rw [bytes_head s h] at hh
      have : s[0] = 48 := by simpa using hh
      rw [this]; rfl)
  have := dec_back (val10 s.data.toList) hb
  rw [e] at this
  exact this

set_option maxRecDepth 100000 in
set_option maxHeartbeats 2000000 in
theorem rparse_len (s : ByteArray) (w : World) (h : s.size < 1 ∨ 19 < s.size) :
    Calls Tryd.prog 41 #[.string s] w fun e w' => e = .returned (.tuple #[.int .u64 0, .int .i64 2]) ∧ w' = w := by
  by_cases h1 : s.size < 1
  · clear h
    go_enter Tryd.func41, Tryd.ntmps41
    go_wp2
    go_ret2
    exact ⟨rfl, rfl⟩
  · have h2 : 19 < s.size := by omega
    clear h
    go_enter Tryd.func41, Tryd.ntmps41
    go_wp2
    go_ret2
    exact ⟨rfl, rfl⟩
set_option maxRecDepth 100000 in
set_option maxHeartbeats 2000000 in
theorem rparse_head (s : ByteArray) (w : World) (h : 1 < s.size) (h19 : s.size ≤ 19) (h0 : s[0].toNat = 48) :
    Calls Tryd.prog 41 #[.string s] w fun e w' => e = .returned (.tuple #[.int .u64 0, .int .i64 2]) ∧ w' = w := by
  have hb : ((s[0].toNat : Int) == 48) = true := by rw [beq_iff_eq]; omega
  clear h0
  go_enter Tryd.func41, Tryd.ntmps41
  go_wp2
  go_ret2
  exact ⟨rfl, rfl⟩
set_option maxRecDepth 100000 in
set_option maxHeartbeats 2000000 in
theorem rparse_loop (s : ByteArray) (w : World) (h1 : 1 ≤ s.size) (h19 : s.size ≤ 19) (h0 : s.size = 1 ∨ s[0].toNat ≠ 48) :
    Calls Tryd.prog 41 #[.string s] w fun e w' => e = .returned (.tuple #[.int .u64 (decNum s.data.toList), .int .i64 (decErr s.data.toList)]) ∧ w' = w := by
  have h0' : Hid _ := h0
  by_cases hs1 : s.size = 1
  · clear h0
    go_enter Tryd.func41, Tryd.ntmps41
    go_wp2
    go_loop [4, 5] (fun n i => ∃ k v : Nat, k ≤ s.size ∧ v < 10000000000000000000 ∧ i = .int .i64 k ∧ n = .int .u64 v ∧ Hid (v = val10 (s.data.toList.take k)) ∧ Hid (∀ b ∈ s.data.toList.take k, isDig b)) (fun _ i => s.size - (intOf i).toNat)
    case atStart => exact ⟨0, 0, by omega, by omega, rfl, rfl, rfl, fun b hb => by simp at hb⟩
    case round =>
      obtain ⟨k, v, hk, hv10, rfl, rfl, hv, hd⟩ := hrel
      by_cases hlt : k < s.size
      · have hts : Hid _ := bytes_take s k hlt
        by_cases hlo : s[k].toNat < 48
        · have hbad : Hid _ := dec_bad_dig s k hlt (Or.inl hlo)
          go_wp2
          go_ret2
          rw [hbad.out.1, hbad.out.2]
          exact ⟨rfl, rfl⟩
        · by_cases hhi : 57 < s[k].toNat
          · have hbad : Hid _ := dec_bad_dig s k hlt (Or.inr hhi)
            go_wp2
            go_ret2
            rw [hbad.out.1, hbad.out.2]
            exact ⟨rfl, rfl⟩
          · have hv18 : v < 1000000000000000000 := by
              rw [hv.out]
              refine Nat.lt_of_lt_of_le (val10_lt _ hd.out) ?_
              have : (s.data.toList.take k).length ≤ 18 := by rw [List.length_take]; omega
              exact Nat.le_trans (Nat.pow_le_pow_right (by omega) this) (by decide)
            go_wp2
            refine ⟨⟨k + 1, 10 * v + (s[k].toNat - 48), by omega, by omega, by go_num, ?_, ?_, ?_⟩, by simp [intOf]; omega⟩
            · congr 1
              omega
            · show _ = _
              rw [hts.out, val10_snoc, ← hv.out]
            · rw [hts.out]
              intro b hb
              rw [List.mem_append] at hb
              rcases hb with hb | hb
              · exact hd.out b hb
              · rw [List.mem_singleton] at hb; subst hb; exact ⟨by omega, by omega⟩
      · have hks : k = s.size := by omega
        have hall : s.data.toList.take k = s.data.toList := List.take_of_length_le (by rw [hks]; simp)
        rw [hall] at hv hd
        by_cases hbig : v < 9223372036854775808
        · have hfin : Hid _ := dec_good s (by omega) hd.out h0'.out (by rw [← hv.out]; exact hbig)
          rw [← hv.out] at hfin
          have hbg : decide ((9223372036854775808 : Int) ≤ (v : Int)) = false := by rw [decide_eq_false_iff_not]; omega
          clear hall hbig hv10
          go_wp2
          go_ret2
          rw [hfin.out.1, hfin.out.2]
          exact ⟨rfl, rfl⟩
        · have hfin : Hid _ := dec_bad_big s (by rw [← hv.out]; omega)
          have hbg : decide ((9223372036854775808 : Int) ≤ (v : Int)) = true := by rw [decide_eq_true_iff]; omega
          clear hall hbig hv10
          go_wp2
          go_ret2
          rw [hfin.out.1, hfin.out.2]
          exact ⟨rfl, rfl⟩
  · have hb : ((s[0].toNat : Int) == 48) = false := by
      rw [beq_eq_false_iff_ne]
      rcases h0 with h0 | h0
      · exact absurd h0 hs1
      · omega
    have h2 : 1 < s.size := by omega
    clear h0 hs1
    go_enter Tryd.func41, Tryd.ntmps41
    go_wp2
    go_loop [4, 5] (fun n i => ∃ k v : Nat, k ≤ s.size ∧ v < 10000000000000000000 ∧ i = .int .i64 k ∧ n = .int .u64 v ∧ Hid (v = val10 (s.data.toList.take k)) ∧ Hid (∀ b ∈ s.data.toList.take k, isDig b)) (fun _ i => s.size - (intOf i).toNat)
    case atStart => exact ⟨0, 0, by omega, by omega, rfl, rfl, rfl, fun b hb => by simp at hb⟩
    case round =>
      obtain ⟨k, v, hk, hv10, rfl, rfl, hv, hd⟩ := hrel
      by_cases hlt : k < s.size
      · have hts : Hid _ := bytes_take s k hlt
        by_cases hlo : s[k].toNat < 48
        · have hbad : Hid _ := dec_bad_dig s k hlt (Or.inl hlo)
          go_wp2
          go_ret2
          rw [hbad.out.1, hbad.out.2]
          exact ⟨rfl, rfl⟩
        · by_cases hhi : 57 < s[k].toNat
          · have hbad : Hid _ := dec_bad_dig s k hlt (Or.inr hhi)
            go_wp2
            go_ret2
            rw [hbad.out.1, hbad.out.2]
            exact ⟨rfl, rfl⟩
          · have hv18 : v < 1000000000000000000 := by
              rw [hv.out]
              refine Nat.lt_of_lt_of_le (val10_lt _ hd.out) ?_
              have : (s.data.toList.take k).length ≤ 18 := by rw [List.length_take]; omega
              exact Nat.le_trans (Nat.pow_le_pow_right (by omega) this) (by decide)
            go_wp2
            refine ⟨⟨k + 1, 10 * v + (s[k].toNat - 48), by omega, by omega, by go_num, ?_, ?_, ?_⟩, by simp [intOf]; omega⟩
            · congr 1
              omega
            · show _ = _
              rw [hts.out, val10_snoc, ← hv.out]
            · rw [hts.out]
              intro b hb
              rw [List.mem_append] at hb
              rcases hb with hb | hb
              · exact hd.out b hb
              · rw [List.mem_singleton] at hb; subst hb; exact ⟨by omega, by omega⟩
      · have hks : k = s.size := by omega
        have hall : s.data.toList.take k = s.data.toList := List.take_of_length_le (by rw [hks]; simp)
        rw [hall] at hv hd
        by_cases hbig : v < 9223372036854775808
        · have hfin : Hid _ := dec_good s (by omega) hd.out h0'.out (by rw [← hv.out]; exact hbig)
          rw [← hv.out] at hfin
          have hbg : decide ((9223372036854775808 : Int) ≤ (v : Int)) = false := by rw [decide_eq_false_iff_not]; omega
          clear hall hbig hv10
          go_wp2
          go_ret2
          rw [hfin.out.1, hfin.out.2]
          exact ⟨rfl, rfl⟩
        · have hfin : Hid _ := dec_bad_big s (by rw [← hv.out]; omega)
          have hbg : decide ((9223372036854775808 : Int) ≤ (v : Int)) = true := by rw [decide_eq_true_iff]; omega
          clear hall hbig hv10
          go_wp2
          go_ret2
          rw [hfin.out.1, hfin.out.2]
          exact ⟨rfl, rfl⟩

theorem rparseDecimal_any (s : ByteArray) (w : World) :
    Calls Tryd.prog 41 #[.string s] w fun e w' => e = .returned (.tuple #[.int .u64 (decNum s.data.toList), .int .i64 (decErr s.data.toList)]) ∧ w' = w := by
  by_cases h : s.size < 1 ∨ 19 < s.size
  · obtain ⟨e1, e2⟩ := dec_bad_len s h
    rw [e1, e2]
    exact rparse_len s w h
  · by_cases h1 : s.size = 1
    · exact rparse_loop s w (by omega) (by omega) (Or.inl h1)
    · by_cases h0 : (s[0]'(by omega)).toNat = 48
      · obtain ⟨e1, e2⟩ := dec_bad_head s (by omega) h0
        rw [e1, e2]
        exact rparse_head s w (by omega) (by omega) h0
      · exact rparse_loop s w (by omega) (by omega) (Or.inr h0)
end Go.Proofs.YtdplffhieekfaaaDoor
