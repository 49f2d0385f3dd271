/-
  stampslaw: one step of the texts or the desks.
  Conditions: as for texts; the law's world is in memory.
-/
import Derived.Test.YtdplffhieekfaaaDoorGiveNew
import Derived.Test.YtdplffhieekfaaaDoorGiveNext
import Derived.Test.YtdplffhieekfaaaDoorGiveBatch
import Derived.Test.YtdplffhieekfaaaDoorGiveRenew
import Derived.Test.YtdplffhieekfaaaDoorGiveGiven
namespace Go.Proofs.YtdplffhieekfaaaDoor
open Go.RowKit

set_option maxRecDepth 100000 in
set_option maxHeartbeats 2000000 in
theorem gives_none {t : Nat} {W : World} {L : LB} {sd : Nat → Dk} {Ls Ms : List Value} {c : Int} (hI : LawIn t W L sd Ls Ms c) (hn : L.n = 0) (kd on a b n : Int) (s : ByteArray) (l0 l1 l2 : Int) (h6 : 6 ≤ kd) :
    Calls Tryd.prog 25 #[.pointer (some ⟨L.B, 0, none⟩), .agg #[.int .i64 kd, .int .i64 on, .int .i64 a, .int .i64 b, .int .u64 n, .string s, .int .i64 l0, .int .i64 l1, .int .i64 l2]] W fun e W' => e = .returned (.bool true) ∧ Stepped t W W' L := by
  have h5 : (kd == 5) = false := by rw [beq_eq_false_iff_ne]; omega
  obtain ⟨va, vcap, hvD⟩ := owns_slice (hI.dw.but.rD id)
  have x0 := hI.dw.but.x0 id
  rw [hvD, hn] at x0
  have hBlt : L.B < W.heap.size := (hI.dw.base .own _ rfl).2
  have hfin : Hid (∀ W', Below W.heap.size W W' → Stepped t W W' L) := fun W' h => hI.idle h
  clear hI hvD
  go_enter Tryd.func25, Tryd.ntmps25
  go_wp2
  go_ret
  exact ⟨rfl, hfin.out _ ((Below.refl _ W).alloc (Nat.le_refl _) _)⟩

theorem gives_any {t : Nat} {W : World} {L : LB} {sd : Nat → Dk} {Ls Ms : List Value} {c : Int} (hI : LawIn t W L sd Ls Ms c) (ht : t ≤ 2200000000000) (kd on a b n : Int) (s : ByteArray) (l0 l1 l2 : Int) (h5 : 5 ≤ kd) (h9 : kd ≤ 9) (o0 : -9223372036854775808 ≤ on) (o1 : on ≤ 9223372036854775807) (a0 : -9223372036854775808 ≤ a) (a1 : a ≤ 9223372036854775807) :
    Calls Tryd.prog 25 #[.pointer (some ⟨L.B, 0, none⟩), .agg #[.int .i64 kd, .int .i64 on, .int .i64 a, .int .i64 b, .int .u64 n, .string s, .int .i64 l0, .int .i64 l1, .int .i64 l2]] W fun e W' => e = .returned (.bool true) ∧ Stepped t W W' L := by
  by_cases e5 : kd = 5
  · subst e5; exact gives_new hI on a b n s l0 l1 l2
  · by_cases hn : L.n = 0
    · exact gives_none hI hn kd on a b n s l0 l1 l2 (by omega)
    · have hn' : 0 < L.n := by omega
      by_cases e6 : kd = 6
      · subst e6; exact gives_next hI ht hn' on a b n s l0 l1 l2 o0 o1 a0 a1
      · by_cases e7 : kd = 7
        · subst e7; exact gives_batch hI ht hn' on a b n s l0 l1 l2 o0 o1 a0 a1
        · by_cases e8 : kd = 8
          · subst e8; exact gives_renew hI hn' on a b n s l0 l1 l2 o0 o1
          · obtain rfl : kd = 9 := by omega
            exact gives_given hI hn' on a b n s l0 l1 l2 o0 o1

set_option maxRecDepth 100000 in
set_option maxHeartbeats 2000000 in
theorem step_gives {t : Nat} {W : World} {L : LB} {sd : Nat → Dk} {Ls Ms : List Value} {c : Int} (hI : LawIn t W L sd Ls Ms c) (ht : t ≤ 2200000000000) (kd on a b n : Int) (s : ByteArray) (l0 l1 l2 : Int) (h5 : 5 ≤ kd) (h9 : kd ≤ 9) (o0 : -9223372036854775808 ≤ on) (o1 : on ≤ 9223372036854775807) (a0 : -9223372036854775808 ≤ a) (a1 : a ≤ 9223372036854775807) :
    Calls Tryd.prog 14 #[.pointer (some ⟨L.B, 0, none⟩), .agg #[.int .i64 kd, .int .i64 on, .int .i64 a, .int .i64 b, .int .u64 n, .string s, .int .i64 l0, .int .i64 l1, .int .i64 l2]] W fun e W' => e = .returned (.bool true) ∧ Stepped t W W' L := by
  have b0 : Hid (Below W.heap.size W (W.alloc (.cells #[.int .i64 kd, .int .i64 on, .int .i64 a, .int .i64 b, .int .u64 n, .string s, .int .i64 l0, .int .i64 l1, .int .i64 l2] 46))) := (Below.refl _ W).alloc (Nat.le_refl _) _
  obtain ⟨hI1, hw1⟩ := hI.below b0.out
  have c := gives_any hI1 ht kd on a b n s l0 l1 l2 h5 h9 o0 o1 a0 a1
  replace hw1 : Hid _ := hw1
  clear hI1 hI b0 o0 o1 a0 a1
  go_enter Tryd.func14, Tryd.ntmps14
  go_wp2_with fail
  refine c.mono ?_
  rintro e w1 ⟨rfl, hs⟩
  have hfin : Hid (Stepped t W w1 L) := by
    obtain ⟨L', s', Ls', Ms', c', h1, h2⟩ := hs
    exact ⟨L', s', Ls', Ms', c', h1, hw1.out.trans h2⟩
  clear hs c
  go_wp2
  go_ret
  exact ⟨rfl, hfin.out⟩

theorem step_law {t : Nat} {W : World} {L : LB} {sd : Nat → Dk} {Ls Ms : List Value} {c : Int} (hI : LawIn t W L sd Ls Ms c) (hv : Vars W) (ht : t ≤ 2200000000000) (kd on a b n : Int) (s : ByteArray) (l0 l1 l2 : Int) (h9 : kd ≤ 9) (o0 : -9223372036854775808 ≤ on) (o1 : on ≤ 9223372036854775807) (a0 : -9223372036854775808 ≤ a) (a1 : a ≤ 9223372036854775807) (n0 : 0 ≤ n) (hs : s.size ≤ 281474976710656) :
    Calls Tryd.prog 14 #[.pointer (some ⟨L.B, 0, none⟩), .agg #[.int .i64 kd, .int .i64 on, .int .i64 a, .int .i64 b, .int .u64 n, .string s, .int .i64 l0, .int .i64 l1, .int .i64 l2]] W fun e W' => e = .returned (.bool true) ∧ Stepped t W W' L := by
  by_cases h1 : kd < 1
  · refine (step_none _ kd on a b n s l0 l1 l2 W h1).mono ?_
    rintro e w1 ⟨rfl, hb⟩
    exact ⟨rfl, hI.idle hb⟩
  · by_cases h4 : kd ≤ 4
    · refine (step_texts _ kd on a b n s l0 l1 l2 W hv (by omega) h4 n0 hs).mono ?_
      rintro e w1 ⟨rfl, hb⟩
      exact ⟨rfl, hI.idle hb⟩
    · exact step_gives hI ht kd on a b n s l0 l1 l2 (by omega) h9 o0 o1 a0 a1
end Go.Proofs.YtdplffhieekfaaaDoor
