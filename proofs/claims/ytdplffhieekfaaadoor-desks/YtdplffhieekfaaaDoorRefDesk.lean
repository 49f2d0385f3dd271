/-
  The document's desk: NewDesk, Next, Renew.
  Conditions: the desk's cells are known.
-/
import Derived.Test.YtdplffhieekfaaaDoorBatch
namespace Go.Proofs.YtdplffhieekfaaaDoor
open Go.RowKit

/-- What the document's desk keeps of the last number. -/
def rTime (s : Dk) : Int := if s.nxt = 0 then -1 else s.time
def rSeq (s : Dk) : Int := if s.nxt = 0 then 0 else s.nxt - 1

/-- The document's desk in memory. -/
structure RefAt (w : World) (b : Nat) (s : Dk) : Prop where
  c0 : w.cell? ⟨b, 0, none⟩ = some (.int .i64 s.node)
  c1 : w.cell? ⟨b, 1, none⟩ = some (.int .i64 s.frm)
  c2 : w.cell? ⟨b, 2, none⟩ = some (.int .i64 s.to)
  c3 : w.cell? ⟨b, 3, none⟩ = some (.int .i64 s.brw)
  c4 : w.cell? ⟨b, 4, none⟩ = some (.int .i64 (rTime s))
  c5 : w.cell? ⟨b, 5, none⟩ = some (.int .i64 (rSeq s))
  c6 : w.cell? ⟨b, 6, none⟩ = some (.int .i64 s.given)
  fz : ∀ o, w.frozen? ⟨b, o, none⟩ = false

/-- A desk that gave nothing has no time. -/
def Dk.Fresh (s : Dk) : Prop := s.nxt = 0 → s.time = 0

/-- The time that is asked first: by the clock and the window. -/
def topOf (s : Dk) (now : Int) : Int := if now < s.frm then s.frm else now

theorem timeOf_ref {s : Dk} (ok : s.Ok) (hf : s.Fresh) (now : Int) : timeOf s now = (if topOf s now ≤ rTime s then (if rSeq s = 4095 then rTime s + 1 else rTime s) else topOf s now) ∧
    seqOf s (timeOf s now) = (if timeOf s now = rTime s then rSeq s + 1 else 0) := by
  have f0 := ok.f0
  have x0 := ok.x0
  have x1 := ok.x1
  have m0 := ok.m0
  unfold timeOf seqOf topOf rTime rSeq
  by_cases h : s.nxt = 0
  · have ht := hf h
    simp only [h, ht, if_true]
    constructor <;> (repeat' split) <;> omega
  · simp only [h, if_false]
    constructor <;> (repeat' split) <;> omega

set_option maxHeartbeats 400000 in
theorem number_any (t nd s : Int) (w : World) (h0 : 0 ≤ t) (h1 : t ≤ 2199023255552) (h2 : 0 ≤ nd) (h3 : nd < 1024) (h4 : 0 ≤ s) (h5 : s < 4096) :
    Calls Tryd.prog 77 #[.int .i64 t, .int .i64 nd, .int .i64 s] w fun e w' => e = .returned (.int .u64 (numOf t nd s)) ∧ w' = w := by
  go_enter Tryd.func77, Tryd.ntmps77
  go_wp2
  go_ret
  exact ⟨by unfold numOf; rfl, rfl⟩
/- Next of the document refuses. -/
set_option maxHeartbeats 1000000 in
theorem rnext_no7_0 (b : Nat) (nd fr to br T Q g now : Int) (w : World) (_c0 : w.cell? ⟨b, 0, none⟩ = some (.int .i64 nd)) (_c1 : w.cell? ⟨b, 1, none⟩ = some (.int .i64 fr)) (_c2 : w.cell? ⟨b, 2, none⟩ = some (.int .i64 to)) (_c3 : w.cell? ⟨b, 3, none⟩ = some (.int .i64 br)) (_c4 : w.cell? ⟨b, 4, none⟩ = some (.int .i64 T)) (_c5 : w.cell? ⟨b, 5, none⟩ = some (.int .i64 Q)) (_c6 : w.cell? ⟨b, 6, none⟩ = some (.int .i64 g))
    (_f0 : 0 ≤ fr) (_f1 : fr < 2199023255552) (_t1 : to ≤ 2199023255552) (_b0 : 0 ≤ br) (_b1 : br ≤ 1000) (_T0 : -1 ≤ T) (_T1 : T < 2199023255552) (_n0 : -9223372036854775808 ≤ now) (_n1 : now ≤ 9223372036854775807) (_a1 : now < fr) (_a2 : fr ≤ T) (a3 : Q = 4095) (_h : to ≤ T + 1) :
    Calls Tryd.prog 47 #[.pointer (some ⟨b, 0, none⟩), .int .i64 now] w fun e w' => e = .returned (.tuple #[.int .u64 0, .int .i64 7]) ∧ w' = w := by
  have q1 : (Q == 4095) = true := by rw [beq_iff_eq]; omega
  clear a3
  go_enter Tryd.func47, Tryd.ntmps47
  go_wp2
  go_ret2
  exact ⟨rfl, rfl⟩
set_option maxHeartbeats 1000000 in
theorem rnext_no8_0 (b : Nat) (nd fr to br T Q g now : Int) (w : World) (_c0 : w.cell? ⟨b, 0, none⟩ = some (.int .i64 nd)) (_c1 : w.cell? ⟨b, 1, none⟩ = some (.int .i64 fr)) (_c2 : w.cell? ⟨b, 2, none⟩ = some (.int .i64 to)) (_c3 : w.cell? ⟨b, 3, none⟩ = some (.int .i64 br)) (_c4 : w.cell? ⟨b, 4, none⟩ = some (.int .i64 T)) (_c5 : w.cell? ⟨b, 5, none⟩ = some (.int .i64 Q)) (_c6 : w.cell? ⟨b, 6, none⟩ = some (.int .i64 g))
    (_f0 : 0 ≤ fr) (_f1 : fr < 2199023255552) (_t1 : to ≤ 2199023255552) (_b0 : 0 ≤ br) (_b1 : br ≤ 1000) (_T0 : -1 ≤ T) (_T1 : T < 2199023255552) (_n0 : -9223372036854775808 ≤ now) (_n1 : now ≤ 9223372036854775807) (_a1 : now < fr) (_a2 : fr ≤ T) (a3 : Q = 4095) (_h : T + 1 < to) (_h8 : now + br < T + 1) :
    Calls Tryd.prog 47 #[.pointer (some ⟨b, 0, none⟩), .int .i64 now] w fun e w' => e = .returned (.tuple #[.int .u64 0, .int .i64 8]) ∧ w' = w := by
  have q1 : (Q == 4095) = true := by rw [beq_iff_eq]; omega
  clear a3
  by_cases n2 : now < 0
  · by_cases n3 : br < T + 1
    · go_enter Tryd.func47, Tryd.ntmps47
      go_wp2
      go_ret2
      exact ⟨rfl, rfl⟩
    · go_enter Tryd.func47, Tryd.ntmps47
      go_wp2
      go_ret2
      exact ⟨rfl, rfl⟩
  · have n3 : br < T + 1 - now := by omega
    go_enter Tryd.func47, Tryd.ntmps47
    go_wp2
    go_ret2
    exact ⟨rfl, rfl⟩
set_option maxHeartbeats 1000000 in
theorem rnext_no7_1 (b : Nat) (nd fr to br T Q g now : Int) (w : World) (_c0 : w.cell? ⟨b, 0, none⟩ = some (.int .i64 nd)) (_c1 : w.cell? ⟨b, 1, none⟩ = some (.int .i64 fr)) (_c2 : w.cell? ⟨b, 2, none⟩ = some (.int .i64 to)) (_c3 : w.cell? ⟨b, 3, none⟩ = some (.int .i64 br)) (_c4 : w.cell? ⟨b, 4, none⟩ = some (.int .i64 T)) (_c5 : w.cell? ⟨b, 5, none⟩ = some (.int .i64 Q)) (_c6 : w.cell? ⟨b, 6, none⟩ = some (.int .i64 g))
    (_f0 : 0 ≤ fr) (_f1 : fr < 2199023255552) (_t1 : to ≤ 2199023255552) (_b0 : 0 ≤ br) (_b1 : br ≤ 1000) (_T0 : -1 ≤ T) (_T1 : T < 2199023255552) (_n0 : -9223372036854775808 ≤ now) (_n1 : now ≤ 9223372036854775807) (_a1 : now < fr) (_a2 : fr ≤ T) (a3 : ¬ Q = 4095) (_h : to ≤ T) :
    Calls Tryd.prog 47 #[.pointer (some ⟨b, 0, none⟩), .int .i64 now] w fun e w' => e = .returned (.tuple #[.int .u64 0, .int .i64 7]) ∧ w' = w := by
  have q1 : (Q == 4095) = false := by rw [beq_eq_false_iff_ne]; omega
  clear a3
  go_enter Tryd.func47, Tryd.ntmps47
  go_wp2
  go_ret2
  exact ⟨rfl, rfl⟩
set_option maxHeartbeats 1000000 in
theorem rnext_no8_1 (b : Nat) (nd fr to br T Q g now : Int) (w : World) (_c0 : w.cell? ⟨b, 0, none⟩ = some (.int .i64 nd)) (_c1 : w.cell? ⟨b, 1, none⟩ = some (.int .i64 fr)) (_c2 : w.cell? ⟨b, 2, none⟩ = some (.int .i64 to)) (_c3 : w.cell? ⟨b, 3, none⟩ = some (.int .i64 br)) (_c4 : w.cell? ⟨b, 4, none⟩ = some (.int .i64 T)) (_c5 : w.cell? ⟨b, 5, none⟩ = some (.int .i64 Q)) (_c6 : w.cell? ⟨b, 6, none⟩ = some (.int .i64 g))
    (_f0 : 0 ≤ fr) (_f1 : fr < 2199023255552) (_t1 : to ≤ 2199023255552) (_b0 : 0 ≤ br) (_b1 : br ≤ 1000) (_T0 : -1 ≤ T) (_T1 : T < 2199023255552) (_n0 : -9223372036854775808 ≤ now) (_n1 : now ≤ 9223372036854775807) (_a1 : now < fr) (_a2 : fr ≤ T) (a3 : ¬ Q = 4095) (_h : T < to) (_h8 : now + br < T) :
    Calls Tryd.prog 47 #[.pointer (some ⟨b, 0, none⟩), .int .i64 now] w fun e w' => e = .returned (.tuple #[.int .u64 0, .int .i64 8]) ∧ w' = w := by
  have q1 : (Q == 4095) = false := by rw [beq_eq_false_iff_ne]; omega
  clear a3
  by_cases n2 : now < 0
  · by_cases n3 : br < T
    · go_enter Tryd.func47, Tryd.ntmps47
      go_wp2
      go_ret2
      exact ⟨rfl, rfl⟩
    · go_enter Tryd.func47, Tryd.ntmps47
      go_wp2
      go_ret2
      exact ⟨rfl, rfl⟩
  · have n3 : br < T - now := by omega
    go_enter Tryd.func47, Tryd.ntmps47
    go_wp2
    go_ret2
    exact ⟨rfl, rfl⟩
set_option maxHeartbeats 1000000 in
theorem rnext_no7_2 (b : Nat) (nd fr to br T Q g now : Int) (w : World) (_c0 : w.cell? ⟨b, 0, none⟩ = some (.int .i64 nd)) (_c1 : w.cell? ⟨b, 1, none⟩ = some (.int .i64 fr)) (_c2 : w.cell? ⟨b, 2, none⟩ = some (.int .i64 to)) (_c3 : w.cell? ⟨b, 3, none⟩ = some (.int .i64 br)) (_c4 : w.cell? ⟨b, 4, none⟩ = some (.int .i64 T)) (_c5 : w.cell? ⟨b, 5, none⟩ = some (.int .i64 Q)) (_c6 : w.cell? ⟨b, 6, none⟩ = some (.int .i64 g))
    (_f0 : 0 ≤ fr) (_f1 : fr < 2199023255552) (_t1 : to ≤ 2199023255552) (_b0 : 0 ≤ br) (_b1 : br ≤ 1000) (_T0 : -1 ≤ T) (_T1 : T < 2199023255552) (_n0 : -9223372036854775808 ≤ now) (_n1 : now ≤ 9223372036854775807) (_a1 : now < fr) (_a2 : ¬ fr ≤ T) (_h : to ≤ fr) :
    Calls Tryd.prog 47 #[.pointer (some ⟨b, 0, none⟩), .int .i64 now] w fun e w' => e = .returned (.tuple #[.int .u64 0, .int .i64 7]) ∧ w' = w := by
  go_enter Tryd.func47, Tryd.ntmps47
  go_wp2
  go_ret2
  exact ⟨rfl, rfl⟩
set_option maxHeartbeats 1000000 in
theorem rnext_no8_2 (b : Nat) (nd fr to br T Q g now : Int) (w : World) (_c0 : w.cell? ⟨b, 0, none⟩ = some (.int .i64 nd)) (_c1 : w.cell? ⟨b, 1, none⟩ = some (.int .i64 fr)) (_c2 : w.cell? ⟨b, 2, none⟩ = some (.int .i64 to)) (_c3 : w.cell? ⟨b, 3, none⟩ = some (.int .i64 br)) (_c4 : w.cell? ⟨b, 4, none⟩ = some (.int .i64 T)) (_c5 : w.cell? ⟨b, 5, none⟩ = some (.int .i64 Q)) (_c6 : w.cell? ⟨b, 6, none⟩ = some (.int .i64 g))
    (_f0 : 0 ≤ fr) (_f1 : fr < 2199023255552) (_t1 : to ≤ 2199023255552) (_b0 : 0 ≤ br) (_b1 : br ≤ 1000) (_T0 : -1 ≤ T) (_T1 : T < 2199023255552) (_n0 : -9223372036854775808 ≤ now) (_n1 : now ≤ 9223372036854775807) (_a1 : now < fr) (_a2 : ¬ fr ≤ T) (_h : fr < to) (_h8 : now + br < fr) :
    Calls Tryd.prog 47 #[.pointer (some ⟨b, 0, none⟩), .int .i64 now] w fun e w' => e = .returned (.tuple #[.int .u64 0, .int .i64 8]) ∧ w' = w := by
  by_cases n2 : now < 0
  · by_cases n3 : br < fr
    · go_enter Tryd.func47, Tryd.ntmps47
      go_wp2
      go_ret2
      exact ⟨rfl, rfl⟩
    · go_enter Tryd.func47, Tryd.ntmps47
      go_wp2
      go_ret2
      exact ⟨rfl, rfl⟩
  · have n3 : br < fr - now := by omega
    go_enter Tryd.func47, Tryd.ntmps47
    go_wp2
    go_ret2
    exact ⟨rfl, rfl⟩
set_option maxHeartbeats 1000000 in
theorem rnext_no7_3 (b : Nat) (nd fr to br T Q g now : Int) (w : World) (_c0 : w.cell? ⟨b, 0, none⟩ = some (.int .i64 nd)) (_c1 : w.cell? ⟨b, 1, none⟩ = some (.int .i64 fr)) (_c2 : w.cell? ⟨b, 2, none⟩ = some (.int .i64 to)) (_c3 : w.cell? ⟨b, 3, none⟩ = some (.int .i64 br)) (_c4 : w.cell? ⟨b, 4, none⟩ = some (.int .i64 T)) (_c5 : w.cell? ⟨b, 5, none⟩ = some (.int .i64 Q)) (_c6 : w.cell? ⟨b, 6, none⟩ = some (.int .i64 g))
    (_f0 : 0 ≤ fr) (_f1 : fr < 2199023255552) (_t1 : to ≤ 2199023255552) (_b0 : 0 ≤ br) (_b1 : br ≤ 1000) (_T0 : -1 ≤ T) (_T1 : T < 2199023255552) (_n0 : -9223372036854775808 ≤ now) (_n1 : now ≤ 9223372036854775807) (_a1 : ¬ now < fr) (_a2 : now ≤ T) (a3 : Q = 4095) (_h : to ≤ T + 1) :
    Calls Tryd.prog 47 #[.pointer (some ⟨b, 0, none⟩), .int .i64 now] w fun e w' => e = .returned (.tuple #[.int .u64 0, .int .i64 7]) ∧ w' = w := by
  have q1 : (Q == 4095) = true := by rw [beq_iff_eq]; omega
  clear a3
  go_enter Tryd.func47, Tryd.ntmps47
  go_wp2
  go_ret2
  exact ⟨rfl, rfl⟩
set_option maxHeartbeats 1000000 in
theorem rnext_no8_3 (b : Nat) (nd fr to br T Q g now : Int) (w : World) (_c0 : w.cell? ⟨b, 0, none⟩ = some (.int .i64 nd)) (_c1 : w.cell? ⟨b, 1, none⟩ = some (.int .i64 fr)) (_c2 : w.cell? ⟨b, 2, none⟩ = some (.int .i64 to)) (_c3 : w.cell? ⟨b, 3, none⟩ = some (.int .i64 br)) (_c4 : w.cell? ⟨b, 4, none⟩ = some (.int .i64 T)) (_c5 : w.cell? ⟨b, 5, none⟩ = some (.int .i64 Q)) (_c6 : w.cell? ⟨b, 6, none⟩ = some (.int .i64 g))
    (_f0 : 0 ≤ fr) (_f1 : fr < 2199023255552) (_t1 : to ≤ 2199023255552) (_b0 : 0 ≤ br) (_b1 : br ≤ 1000) (_T0 : -1 ≤ T) (_T1 : T < 2199023255552) (_n0 : -9223372036854775808 ≤ now) (_n1 : now ≤ 9223372036854775807) (_a1 : ¬ now < fr) (_a2 : now ≤ T) (a3 : Q = 4095) (_h : T + 1 < to) (_h8 : now + br < T + 1) :
    Calls Tryd.prog 47 #[.pointer (some ⟨b, 0, none⟩), .int .i64 now] w fun e w' => e = .returned (.tuple #[.int .u64 0, .int .i64 8]) ∧ w' = w := by
  have q1 : (Q == 4095) = true := by rw [beq_iff_eq]; omega
  clear a3
  have n2 : ¬ now < 0 := by omega
  have n3 : br < T + 1 - now := by omega
  go_enter Tryd.func47, Tryd.ntmps47
  go_wp2
  go_ret2
  exact ⟨rfl, rfl⟩
set_option maxHeartbeats 1000000 in
theorem rnext_no7_4 (b : Nat) (nd fr to br T Q g now : Int) (w : World) (_c0 : w.cell? ⟨b, 0, none⟩ = some (.int .i64 nd)) (_c1 : w.cell? ⟨b, 1, none⟩ = some (.int .i64 fr)) (_c2 : w.cell? ⟨b, 2, none⟩ = some (.int .i64 to)) (_c3 : w.cell? ⟨b, 3, none⟩ = some (.int .i64 br)) (_c4 : w.cell? ⟨b, 4, none⟩ = some (.int .i64 T)) (_c5 : w.cell? ⟨b, 5, none⟩ = some (.int .i64 Q)) (_c6 : w.cell? ⟨b, 6, none⟩ = some (.int .i64 g))
    (_f0 : 0 ≤ fr) (_f1 : fr < 2199023255552) (_t1 : to ≤ 2199023255552) (_b0 : 0 ≤ br) (_b1 : br ≤ 1000) (_T0 : -1 ≤ T) (_T1 : T < 2199023255552) (_n0 : -9223372036854775808 ≤ now) (_n1 : now ≤ 9223372036854775807) (_a1 : ¬ now < fr) (_a2 : now ≤ T) (a3 : ¬ Q = 4095) (_h : to ≤ T) :
    Calls Tryd.prog 47 #[.pointer (some ⟨b, 0, none⟩), .int .i64 now] w fun e w' => e = .returned (.tuple #[.int .u64 0, .int .i64 7]) ∧ w' = w := by
  have q1 : (Q == 4095) = false := by rw [beq_eq_false_iff_ne]; omega
  clear a3
  go_enter Tryd.func47, Tryd.ntmps47
  go_wp2
  go_ret2
  exact ⟨rfl, rfl⟩
set_option maxHeartbeats 1000000 in
theorem rnext_no8_4 (b : Nat) (nd fr to br T Q g now : Int) (w : World) (_c0 : w.cell? ⟨b, 0, none⟩ = some (.int .i64 nd)) (_c1 : w.cell? ⟨b, 1, none⟩ = some (.int .i64 fr)) (_c2 : w.cell? ⟨b, 2, none⟩ = some (.int .i64 to)) (_c3 : w.cell? ⟨b, 3, none⟩ = some (.int .i64 br)) (_c4 : w.cell? ⟨b, 4, none⟩ = some (.int .i64 T)) (_c5 : w.cell? ⟨b, 5, none⟩ = some (.int .i64 Q)) (_c6 : w.cell? ⟨b, 6, none⟩ = some (.int .i64 g))
    (_f0 : 0 ≤ fr) (_f1 : fr < 2199023255552) (_t1 : to ≤ 2199023255552) (_b0 : 0 ≤ br) (_b1 : br ≤ 1000) (_T0 : -1 ≤ T) (_T1 : T < 2199023255552) (_n0 : -9223372036854775808 ≤ now) (_n1 : now ≤ 9223372036854775807) (_a1 : ¬ now < fr) (_a2 : now ≤ T) (a3 : ¬ Q = 4095) (_h : T < to) (_h8 : now + br < T) :
    Calls Tryd.prog 47 #[.pointer (some ⟨b, 0, none⟩), .int .i64 now] w fun e w' => e = .returned (.tuple #[.int .u64 0, .int .i64 8]) ∧ w' = w := by
  have q1 : (Q == 4095) = false := by rw [beq_eq_false_iff_ne]; omega
  clear a3
  have n2 : ¬ now < 0 := by omega
  have n3 : br < T - now := by omega
  go_enter Tryd.func47, Tryd.ntmps47
  go_wp2
  go_ret2
  exact ⟨rfl, rfl⟩
set_option maxHeartbeats 1000000 in
theorem rnext_no7_5 (b : Nat) (nd fr to br T Q g now : Int) (w : World) (_c0 : w.cell? ⟨b, 0, none⟩ = some (.int .i64 nd)) (_c1 : w.cell? ⟨b, 1, none⟩ = some (.int .i64 fr)) (_c2 : w.cell? ⟨b, 2, none⟩ = some (.int .i64 to)) (_c3 : w.cell? ⟨b, 3, none⟩ = some (.int .i64 br)) (_c4 : w.cell? ⟨b, 4, none⟩ = some (.int .i64 T)) (_c5 : w.cell? ⟨b, 5, none⟩ = some (.int .i64 Q)) (_c6 : w.cell? ⟨b, 6, none⟩ = some (.int .i64 g))
    (_f0 : 0 ≤ fr) (_f1 : fr < 2199023255552) (_t1 : to ≤ 2199023255552) (_b0 : 0 ≤ br) (_b1 : br ≤ 1000) (_T0 : -1 ≤ T) (_T1 : T < 2199023255552) (_n0 : -9223372036854775808 ≤ now) (_n1 : now ≤ 9223372036854775807) (_a1 : ¬ now < fr) (_a2 : ¬ now ≤ T) (_h : to ≤ now) :
    Calls Tryd.prog 47 #[.pointer (some ⟨b, 0, none⟩), .int .i64 now] w fun e w' => e = .returned (.tuple #[.int .u64 0, .int .i64 7]) ∧ w' = w := by
  go_enter Tryd.func47, Tryd.ntmps47
  go_wp2
  go_ret2
  exact ⟨rfl, rfl⟩
set_option maxHeartbeats 1000000 in
theorem rnext_no8_5 (b : Nat) (nd fr to br T Q g now : Int) (w : World) (_c0 : w.cell? ⟨b, 0, none⟩ = some (.int .i64 nd)) (_c1 : w.cell? ⟨b, 1, none⟩ = some (.int .i64 fr)) (_c2 : w.cell? ⟨b, 2, none⟩ = some (.int .i64 to)) (_c3 : w.cell? ⟨b, 3, none⟩ = some (.int .i64 br)) (_c4 : w.cell? ⟨b, 4, none⟩ = some (.int .i64 T)) (_c5 : w.cell? ⟨b, 5, none⟩ = some (.int .i64 Q)) (_c6 : w.cell? ⟨b, 6, none⟩ = some (.int .i64 g))
    (_f0 : 0 ≤ fr) (_f1 : fr < 2199023255552) (_t1 : to ≤ 2199023255552) (_b0 : 0 ≤ br) (_b1 : br ≤ 1000) (_T0 : -1 ≤ T) (_T1 : T < 2199023255552) (_n0 : -9223372036854775808 ≤ now) (_n1 : now ≤ 9223372036854775807) (_a1 : ¬ now < fr) (_a2 : ¬ now ≤ T) (_h : now < to) (_h8 : now + br < now) :
    Calls Tryd.prog 47 #[.pointer (some ⟨b, 0, none⟩), .int .i64 now] w fun e w' => e = .returned (.tuple #[.int .u64 0, .int .i64 8]) ∧ w' = w := by
  omega
set_option maxRecDepth 100000 in
set_option maxHeartbeats 1000000 in
theorem rnext_yes_0 (b : Nat) (nd fr to br T Q g now : Int) (w : World) (_c0 : w.cell? ⟨b, 0, none⟩ = some (.int .i64 nd)) (_c1 : w.cell? ⟨b, 1, none⟩ = some (.int .i64 fr)) (_c2 : w.cell? ⟨b, 2, none⟩ = some (.int .i64 to)) (_c3 : w.cell? ⟨b, 3, none⟩ = some (.int .i64 br)) (_c4 : w.cell? ⟨b, 4, none⟩ = some (.int .i64 T)) (_c5 : w.cell? ⟨b, 5, none⟩ = some (.int .i64 Q)) (_c6 : w.cell? ⟨b, 6, none⟩ = some (.int .i64 g))
    (_f0 : 0 ≤ fr) (_f1 : fr < 2199023255552) (_t1 : to ≤ 2199023255552) (_b0 : 0 ≤ br) (_b1 : br ≤ 1000) (_T0 : -1 ≤ T) (_T1 : T < 2199023255552) (_n0 : -9223372036854775808 ≤ now) (_n1 : now ≤ 9223372036854775807) (fz : ∀ o, w.frozen? ⟨b, o, none⟩ = false) (_Q0 : 0 ≤ Q) (_Q1 : Q ≤ 4095) (d0 : 0 ≤ nd) (d1 : nd < 1024) (_g0 : 0 ≤ g) (_g1 : g < 9223372036854775807) (_a1 : now < fr) (_a2 : fr ≤ T) (a3 : Q = 4095) (_h : T + 1 < to) (_h8 : T + 1 ≤ now + br) :
    Calls Tryd.prog 47 #[.pointer (some ⟨b, 0, none⟩), .int .i64 now] w fun e w' => e = .returned (.tuple #[.int .u64 (numOf (T + 1) nd (0)), .int .i64 0]) ∧ ∃ n, w' = (((w.setCell ⟨b, 4, none⟩ (.int .i64 (T + 1))).setCell ⟨b, 5, none⟩ (.int .i64 (0))).setCell ⟨b, 6, none⟩ (.int .i64 (g + 1))).drewN n := by
  have z4 := fz 4
  have z5 := fz 5
  have z6 := fz 6
  clear fz
  have hnum := fun w => number_any (T + 1) nd (0) w (by omega) (by omega) d0 d1 (by omega) (by omega)
  have q1 : (Q == 4095) = true := by rw [beq_iff_eq]; omega
  clear a3
  have q2 : (T + 1 == T) = false := by rw [beq_eq_false_iff_ne]; omega
  generalize numOf (T + 1) nd (0) = N at *
  by_cases n2 : now < 0
  · go_enter Tryd.func47, Tryd.ntmps47
    go_wp2_with fail
    refine (hnum _).mono ?_
    rintro e w' ⟨rfl, rfl⟩
    clear hnum
    go_wp2
    go_ret2
    exact ⟨rfl, 0, rfl⟩
  · go_enter Tryd.func47, Tryd.ntmps47
    go_wp2_with fail
    refine (hnum _).mono ?_
    rintro e w' ⟨rfl, rfl⟩
    clear hnum
    go_wp2
    go_ret2
    exact ⟨rfl, 0, rfl⟩
set_option maxRecDepth 100000 in
set_option maxHeartbeats 1000000 in
theorem rnext_yes_1 (b : Nat) (nd fr to br T Q g now : Int) (w : World) (_c0 : w.cell? ⟨b, 0, none⟩ = some (.int .i64 nd)) (_c1 : w.cell? ⟨b, 1, none⟩ = some (.int .i64 fr)) (_c2 : w.cell? ⟨b, 2, none⟩ = some (.int .i64 to)) (_c3 : w.cell? ⟨b, 3, none⟩ = some (.int .i64 br)) (_c4 : w.cell? ⟨b, 4, none⟩ = some (.int .i64 T)) (_c5 : w.cell? ⟨b, 5, none⟩ = some (.int .i64 Q)) (_c6 : w.cell? ⟨b, 6, none⟩ = some (.int .i64 g))
    (_f0 : 0 ≤ fr) (_f1 : fr < 2199023255552) (_t1 : to ≤ 2199023255552) (_b0 : 0 ≤ br) (_b1 : br ≤ 1000) (_T0 : -1 ≤ T) (_T1 : T < 2199023255552) (_n0 : -9223372036854775808 ≤ now) (_n1 : now ≤ 9223372036854775807) (fz : ∀ o, w.frozen? ⟨b, o, none⟩ = false) (_Q0 : 0 ≤ Q) (_Q1 : Q ≤ 4095) (d0 : 0 ≤ nd) (d1 : nd < 1024) (_g0 : 0 ≤ g) (_g1 : g < 9223372036854775807) (_a1 : now < fr) (_a2 : fr ≤ T) (a3 : ¬ Q = 4095) (_h : T < to) (_h8 : T ≤ now + br) :
    Calls Tryd.prog 47 #[.pointer (some ⟨b, 0, none⟩), .int .i64 now] w fun e w' => e = .returned (.tuple #[.int .u64 (numOf (T) nd (Q + 1)), .int .i64 0]) ∧ ∃ n, w' = (((w.setCell ⟨b, 4, none⟩ (.int .i64 (T))).setCell ⟨b, 5, none⟩ (.int .i64 (Q + 1))).setCell ⟨b, 6, none⟩ (.int .i64 (g + 1))).drewN n := by
  have z4 := fz 4
  have z5 := fz 5
  have z6 := fz 6
  clear fz
  have hnum := fun w => number_any (T) nd (Q + 1) w (by omega) (by omega) d0 d1 (by omega) (by omega)
  have q1 : (Q == 4095) = false := by rw [beq_eq_false_iff_ne]; omega
  clear a3
  generalize numOf (T) nd (Q + 1) = N at *
  by_cases n2 : now < 0
  · go_enter Tryd.func47, Tryd.ntmps47
    go_wp2_with fail
    refine (hnum _).mono ?_
    rintro e w' ⟨rfl, rfl⟩
    clear hnum
    go_wp2
    go_ret2
    exact ⟨rfl, 0, rfl⟩
  · go_enter Tryd.func47, Tryd.ntmps47
    go_wp2_with fail
    refine (hnum _).mono ?_
    rintro e w' ⟨rfl, rfl⟩
    clear hnum
    go_wp2
    go_ret2
    exact ⟨rfl, 0, rfl⟩
set_option maxRecDepth 100000 in
set_option maxHeartbeats 1000000 in
theorem rnext_yes_2 (b : Nat) (nd fr to br T Q g now : Int) (w : World) (_c0 : w.cell? ⟨b, 0, none⟩ = some (.int .i64 nd)) (_c1 : w.cell? ⟨b, 1, none⟩ = some (.int .i64 fr)) (_c2 : w.cell? ⟨b, 2, none⟩ = some (.int .i64 to)) (_c3 : w.cell? ⟨b, 3, none⟩ = some (.int .i64 br)) (_c4 : w.cell? ⟨b, 4, none⟩ = some (.int .i64 T)) (_c5 : w.cell? ⟨b, 5, none⟩ = some (.int .i64 Q)) (_c6 : w.cell? ⟨b, 6, none⟩ = some (.int .i64 g))
    (_f0 : 0 ≤ fr) (_f1 : fr < 2199023255552) (_t1 : to ≤ 2199023255552) (_b0 : 0 ≤ br) (_b1 : br ≤ 1000) (_T0 : -1 ≤ T) (_T1 : T < 2199023255552) (_n0 : -9223372036854775808 ≤ now) (_n1 : now ≤ 9223372036854775807) (fz : ∀ o, w.frozen? ⟨b, o, none⟩ = false) (_Q0 : 0 ≤ Q) (_Q1 : Q ≤ 4095) (d0 : 0 ≤ nd) (d1 : nd < 1024) (_g0 : 0 ≤ g) (_g1 : g < 9223372036854775807) (_a1 : now < fr) (_a2 : ¬ fr ≤ T) (_h : fr < to) (_h8 : fr ≤ now + br) :
    Calls Tryd.prog 47 #[.pointer (some ⟨b, 0, none⟩), .int .i64 now] w fun e w' => e = .returned (.tuple #[.int .u64 (numOf (fr) nd (0)), .int .i64 0]) ∧ ∃ n, w' = (((w.setCell ⟨b, 4, none⟩ (.int .i64 (fr))).setCell ⟨b, 5, none⟩ (.int .i64 (0))).setCell ⟨b, 6, none⟩ (.int .i64 (g + 1))).drewN n := by
  have z4 := fz 4
  have z5 := fz 5
  have z6 := fz 6
  clear fz
  have hnum := fun w => number_any (fr) nd (0) w (by omega) (by omega) d0 d1 (by omega) (by omega)
  have q2 : (fr == T) = false := by rw [beq_eq_false_iff_ne]; omega
  generalize numOf (fr) nd (0) = N at *
  by_cases n2 : now < 0
  · go_enter Tryd.func47, Tryd.ntmps47
    go_wp2_with fail
    refine (hnum _).mono ?_
    rintro e w' ⟨rfl, rfl⟩
    clear hnum
    go_wp2
    go_ret2
    exact ⟨rfl, 0, rfl⟩
  · go_enter Tryd.func47, Tryd.ntmps47
    go_wp2_with fail
    refine (hnum _).mono ?_
    rintro e w' ⟨rfl, rfl⟩
    clear hnum
    go_wp2
    go_ret2
    exact ⟨rfl, 0, rfl⟩
set_option maxRecDepth 100000 in
set_option maxHeartbeats 1000000 in
theorem rnext_yes_3 (b : Nat) (nd fr to br T Q g now : Int) (w : World) (_c0 : w.cell? ⟨b, 0, none⟩ = some (.int .i64 nd)) (_c1 : w.cell? ⟨b, 1, none⟩ = some (.int .i64 fr)) (_c2 : w.cell? ⟨b, 2, none⟩ = some (.int .i64 to)) (_c3 : w.cell? ⟨b, 3, none⟩ = some (.int .i64 br)) (_c4 : w.cell? ⟨b, 4, none⟩ = some (.int .i64 T)) (_c5 : w.cell? ⟨b, 5, none⟩ = some (.int .i64 Q)) (_c6 : w.cell? ⟨b, 6, none⟩ = some (.int .i64 g))
    (_f0 : 0 ≤ fr) (_f1 : fr < 2199023255552) (_t1 : to ≤ 2199023255552) (_b0 : 0 ≤ br) (_b1 : br ≤ 1000) (_T0 : -1 ≤ T) (_T1 : T < 2199023255552) (_n0 : -9223372036854775808 ≤ now) (_n1 : now ≤ 9223372036854775807) (fz : ∀ o, w.frozen? ⟨b, o, none⟩ = false) (_Q0 : 0 ≤ Q) (_Q1 : Q ≤ 4095) (d0 : 0 ≤ nd) (d1 : nd < 1024) (_g0 : 0 ≤ g) (_g1 : g < 9223372036854775807) (_a1 : ¬ now < fr) (_a2 : now ≤ T) (a3 : Q = 4095) (_h : T + 1 < to) (_h8 : T + 1 ≤ now + br) :
    Calls Tryd.prog 47 #[.pointer (some ⟨b, 0, none⟩), .int .i64 now] w fun e w' => e = .returned (.tuple #[.int .u64 (numOf (T + 1) nd (0)), .int .i64 0]) ∧ ∃ n, w' = (((w.setCell ⟨b, 4, none⟩ (.int .i64 (T + 1))).setCell ⟨b, 5, none⟩ (.int .i64 (0))).setCell ⟨b, 6, none⟩ (.int .i64 (g + 1))).drewN n := by
  have z4 := fz 4
  have z5 := fz 5
  have z6 := fz 6
  clear fz
  have hnum := fun w => number_any (T + 1) nd (0) w (by omega) (by omega) d0 d1 (by omega) (by omega)
  have q1 : (Q == 4095) = true := by rw [beq_iff_eq]; omega
  clear a3
  have q2 : (T + 1 == T) = false := by rw [beq_eq_false_iff_ne]; omega
  generalize numOf (T + 1) nd (0) = N at *
  have n2 : ¬ now < 0 := by omega
  go_enter Tryd.func47, Tryd.ntmps47
  go_wp2_with fail
  refine (hnum _).mono ?_
  rintro e w' ⟨rfl, rfl⟩
  clear hnum
  go_wp2
  go_ret2
  exact ⟨rfl, 0, rfl⟩
set_option maxRecDepth 100000 in
set_option maxHeartbeats 1000000 in
theorem rnext_yes_4 (b : Nat) (nd fr to br T Q g now : Int) (w : World) (_c0 : w.cell? ⟨b, 0, none⟩ = some (.int .i64 nd)) (_c1 : w.cell? ⟨b, 1, none⟩ = some (.int .i64 fr)) (_c2 : w.cell? ⟨b, 2, none⟩ = some (.int .i64 to)) (_c3 : w.cell? ⟨b, 3, none⟩ = some (.int .i64 br)) (_c4 : w.cell? ⟨b, 4, none⟩ = some (.int .i64 T)) (_c5 : w.cell? ⟨b, 5, none⟩ = some (.int .i64 Q)) (_c6 : w.cell? ⟨b, 6, none⟩ = some (.int .i64 g))
    (_f0 : 0 ≤ fr) (_f1 : fr < 2199023255552) (_t1 : to ≤ 2199023255552) (_b0 : 0 ≤ br) (_b1 : br ≤ 1000) (_T0 : -1 ≤ T) (_T1 : T < 2199023255552) (_n0 : -9223372036854775808 ≤ now) (_n1 : now ≤ 9223372036854775807) (fz : ∀ o, w.frozen? ⟨b, o, none⟩ = false) (_Q0 : 0 ≤ Q) (_Q1 : Q ≤ 4095) (d0 : 0 ≤ nd) (d1 : nd < 1024) (_g0 : 0 ≤ g) (_g1 : g < 9223372036854775807) (_a1 : ¬ now < fr) (_a2 : now ≤ T) (a3 : ¬ Q = 4095) (_h : T < to) (_h8 : T ≤ now + br) :
    Calls Tryd.prog 47 #[.pointer (some ⟨b, 0, none⟩), .int .i64 now] w fun e w' => e = .returned (.tuple #[.int .u64 (numOf (T) nd (Q + 1)), .int .i64 0]) ∧ ∃ n, w' = (((w.setCell ⟨b, 4, none⟩ (.int .i64 (T))).setCell ⟨b, 5, none⟩ (.int .i64 (Q + 1))).setCell ⟨b, 6, none⟩ (.int .i64 (g + 1))).drewN n := by
  have z4 := fz 4
  have z5 := fz 5
  have z6 := fz 6
  clear fz
  have hnum := fun w => number_any (T) nd (Q + 1) w (by omega) (by omega) d0 d1 (by omega) (by omega)
  have q1 : (Q == 4095) = false := by rw [beq_eq_false_iff_ne]; omega
  clear a3
  generalize numOf (T) nd (Q + 1) = N at *
  have n2 : ¬ now < 0 := by omega
  go_enter Tryd.func47, Tryd.ntmps47
  go_wp2_with fail
  refine (hnum _).mono ?_
  rintro e w' ⟨rfl, rfl⟩
  clear hnum
  go_wp2
  go_ret2
  exact ⟨rfl, 0, rfl⟩
set_option maxRecDepth 100000 in
set_option maxHeartbeats 1000000 in
theorem rnext_yes_5 (b : Nat) (nd fr to br T Q g now : Int) (w : World) (_c0 : w.cell? ⟨b, 0, none⟩ = some (.int .i64 nd)) (_c1 : w.cell? ⟨b, 1, none⟩ = some (.int .i64 fr)) (_c2 : w.cell? ⟨b, 2, none⟩ = some (.int .i64 to)) (_c3 : w.cell? ⟨b, 3, none⟩ = some (.int .i64 br)) (_c4 : w.cell? ⟨b, 4, none⟩ = some (.int .i64 T)) (_c5 : w.cell? ⟨b, 5, none⟩ = some (.int .i64 Q)) (_c6 : w.cell? ⟨b, 6, none⟩ = some (.int .i64 g))
    (_f0 : 0 ≤ fr) (_f1 : fr < 2199023255552) (_t1 : to ≤ 2199023255552) (_b0 : 0 ≤ br) (_b1 : br ≤ 1000) (_T0 : -1 ≤ T) (_T1 : T < 2199023255552) (_n0 : -9223372036854775808 ≤ now) (_n1 : now ≤ 9223372036854775807) (fz : ∀ o, w.frozen? ⟨b, o, none⟩ = false) (_Q0 : 0 ≤ Q) (_Q1 : Q ≤ 4095) (d0 : 0 ≤ nd) (d1 : nd < 1024) (_g0 : 0 ≤ g) (_g1 : g < 9223372036854775807) (_a1 : ¬ now < fr) (_a2 : ¬ now ≤ T) (_h : now < to) (_h8 : now ≤ now + br) :
    Calls Tryd.prog 47 #[.pointer (some ⟨b, 0, none⟩), .int .i64 now] w fun e w' => e = .returned (.tuple #[.int .u64 (numOf (now) nd (0)), .int .i64 0]) ∧ ∃ n, w' = (((w.setCell ⟨b, 4, none⟩ (.int .i64 (now))).setCell ⟨b, 5, none⟩ (.int .i64 (0))).setCell ⟨b, 6, none⟩ (.int .i64 (g + 1))).drewN n := by
  have z4 := fz 4
  have z5 := fz 5
  have z6 := fz 6
  clear fz
  have hnum := fun w => number_any (now) nd (0) w (by omega) (by omega) d0 d1 (by omega) (by omega)
  have q2 : (now == T) = false := by rw [beq_eq_false_iff_ne]; omega
  generalize numOf (now) nd (0) = N at *
  have n2 : ¬ now < 0 := by omega
  go_enter Tryd.func47, Tryd.ntmps47
  go_wp2_with fail
  refine (hnum _).mono ?_
  rintro e w' ⟨rfl, rfl⟩
  clear hnum
  go_wp2
  go_ret2
  exact ⟨rfl, 0, rfl⟩
end Go.Proofs.YtdplffhieekfaaaDoor
