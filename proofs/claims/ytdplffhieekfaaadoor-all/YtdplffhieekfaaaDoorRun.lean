/-
  Plain numbers: what so many Next, one behind the other at one clock, would answer.
-/
import Derived.Test.YtdplffhieekfaaaDoorNew
namespace Go.Proofs.YtdplffhieekfaaaDoor

/-- A number was taken, and not counted yet. -/
def Dk.stepT (s : Dk) (now : Int) : Dk := { s with time := timeOf s now, nxt := seqOf s (timeOf s now) + 1 }

/-- So many numbers were taken. -/
def Dk.run (s : Dk) (now : Int) : Nat → Dk
  | 0 => s
  | n + 1 => (s.run now n).stepT now

/-- The time and the place of the n-th number from here. -/
def timeAt (s : Dk) (now : Int) (n : Nat) : Int := timeOf s now + (seqOf s (timeOf s now) + n) / 4096
def seqAt (s : Dk) (now : Int) (n : Nat) : Int := (seqOf s (timeOf s now) + n) % 4096

theorem run_same (s : Dk) (now : Int) (n : Nat) : (s.run now n).node = s.node ∧ (s.run now n).frm = s.frm ∧ (s.run now n).to = s.to ∧ (s.run now n).brw = s.brw ∧ (s.run now n).given = s.given := by
  induction n with
  | zero => exact ⟨rfl, rfl, rfl, rfl, rfl⟩
  | succ n ih => exact ih

theorem run_at {s : Dk} (ok : s.Ok) (now : Int) (n : Nat) : timeOf (s.run now n) now = timeAt s now n ∧ seqOf (s.run now n) (timeOf (s.run now n) now) = seqAt s now n := by
  have hq := seqOf_lt ok now
  induction n with
  | zero =>
    unfold timeAt seqAt
    have h1 : (seqOf s (timeOf s now) + ((0 : Nat) : Int)) / 4096 = 0 := by omega
    have h2 : (seqOf s (timeOf s now) + ((0 : Nat) : Int)) % 4096 = seqOf s (timeOf s now) := by omega
    rw [h1, h2]
    exact ⟨by show timeOf s now = _; omega, rfl⟩
  | succ n ih =>
    obtain ⟨i1, i2⟩ := ih
    have hs := run_same s now n
    have e1 : (s.run now (n + 1)).time = timeAt s now n := i1
    have e2 : (s.run now (n + 1)).nxt = seqAt s now n + 1 := by show seqOf _ _ + 1 = _; rw [i2]
    have e3 : (s.run now (n + 1)).frm = s.frm := hs.2.1
    have hg := timeOf_ge (s.run now n) now
    rw [i1, hs.2.1] at hg
    have top : max now (max (s.run now (n + 1)).frm (s.run now (n + 1)).time) = timeAt s now n := by rw [e1, e3]; omega
    have sq : seqOf (s.run now (n + 1)) (timeAt s now n) = seqAt s now n + 1 := by
      unfold seqOf; rw [e1, if_pos rfl, e2]
    by_cases hf : seqAt s now n + 1 = 4096
    · have t1 : timeOf (s.run now (n + 1)) now = timeAt s now n + 1 := by unfold timeOf; rw [top, sq, if_pos hf]
      have q1 : seqOf (s.run now (n + 1)) (timeAt s now n + 1) = 0 := by unfold seqOf; rw [e1, if_neg (by omega)]
      rw [t1, q1]
      unfold timeAt seqAt at *
      constructor <;> omega
    · have t1 : timeOf (s.run now (n + 1)) now = timeAt s now n := by unfold timeOf; rw [top, sq, if_neg hf]
      rw [t1, sq]
      unfold timeAt seqAt at *
      constructor <;> omega

/-- From here on no time serves. -/
def lidOf (s : Dk) (now : Int) : Int := min s.to (now + s.brw + 1)

/-- The error of a time. -/
def errAt (s : Dk) (now t : Int) : Int := if s.to ≤ t then 7 else if now + s.brw < t then 8 else 0

theorem errAt_zero (s : Dk) (now t : Int) : errAt s now t = 0 ↔ t < lidOf s now := by
  unfold errAt lidOf
  split
  · constructor <;> intro h <;> omega
  · split
    · constructor <;> intro h <;> omega
    · constructor <;> intro h <;> omega

theorem errOf_at (s : Dk) (now : Int) : errOf s now = errAt s now (timeOf s now) := rfl

/-- The error of the first of so many numbers that has one, or 0. -/
def batchErr (s : Dk) (now : Int) (n : Nat) : Int :=
  if timeAt s now (n - 1) < lidOf s now then 0 else errAt s now (max (timeOf s now) (lidOf s now))

theorem batchErr_ne {s : Dk} {now : Int} {n : Nat} (h : ¬ timeAt s now (n - 1) < lidOf s now) : batchErr s now n ≠ 0 := by
  unfold batchErr
  rw [if_neg h]
  intro h0
  rw [errAt_zero] at h0
  omega

theorem run_ok {s : Dk} (ok : s.Ok) (now : Int) (n : Nat) (h : n = 0 ∨ timeAt s now (n - 1) < lidOf s now) : (s.run now n).Ok := by
  cases n with
  | zero => exact ok
  | succ n =>
    have hs := run_same s now (n + 1)
    obtain ⟨i1, i2⟩ := run_at ok now n
    have hq := seqOf_lt ok now
    have e1 : (s.run now (n + 1)).time = timeAt s now n := i1
    have e2 : (s.run now (n + 1)).nxt = seqAt s now n + 1 := by show seqOf _ _ + 1 = _; rw [i2]
    have hlt : timeAt s now n < lidOf s now := by rcases h with h | h; omega; exact h
    have hg := timeOf_ge s now
    have f0 := ok.f0
    have t1 := ok.t1
    unfold lidOf at hlt
    refine ⟨by rw [hs.1]; exact ok.n0, by rw [hs.1]; exact ok.n1, by rw [hs.2.1]; exact ok.f0, by rw [hs.2.1, hs.2.2.1]; exact ok.ft, by rw [hs.2.2.1]; exact ok.t1, by rw [hs.2.2.2.1]; exact ok.b0, by rw [hs.2.2.2.1]; exact ok.b1, ?_, ?_, ?_, ?_⟩
    · rw [e1]; unfold timeAt; omega
    · rw [e1]; omega
    · rw [e2]; unfold seqAt; omega
    · rw [e2]; unfold seqAt; omega

theorem timeAt_mono (s : Dk) (now : Int) {i n : Nat} (h : i ≤ n) : timeAt s now i ≤ timeAt s now n := by
  unfold timeAt; omega

end Go.Proofs.YtdplffhieekfaaaDoor
