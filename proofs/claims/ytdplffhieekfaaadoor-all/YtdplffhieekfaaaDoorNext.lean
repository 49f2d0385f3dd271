/-
  NewDesk, (*Desk).Next and (*Desk).Given, as the document has them.
  Conditions: a desk in memory; of Next, that fewer than the greatest int were given.
-/
import Derived.Test.YtdplffhieekfaaaDoorTake
namespace Go.Proofs.YtdplffhieekfaaaDoor
open Go.RowKit Go.Conc

set_option maxHeartbeats 400000 in
theorem add_any (b o : Nat) (x d : Int) (w : World) (hc : w.cell? ⟨b, o, none⟩ = some (.int .i64 x)) (hz : w.frozen? ⟨b, o, none⟩ = false) (h0 : 0 ≤ x) (h1 : 0 ≤ d) (h2 : x + d ≤ 9223372036854775807) :
    Calls Tryd.prog 32 #[.pointer (some ⟨b, o, none⟩), .int .i64 d] w fun e w' => e = .returned (.int .i64 (x + d)) ∧ w.setCell ⟨b, o, none⟩ (.int .i64 (x + d)) = w' := by
  have hadd := run_call_add (P := Tryd.prog) Tryd.func61 (by kernel_rfl) (by kernel_rfl) (by kernel_rfl) .i64 (by kernel_rfl) (y := d) (s := x + d) hc hz (by simp [go_sem]; rw [IntKind.wrap_i64]; omega)
  go_enter Tryd.func32, Tryd.ntmps32
  go_wp2
  go_ret
  exact ⟨rfl, rfl⟩

set_option maxHeartbeats 400000 in
theorem load_any (b o : Nat) (x : Int) (w : World) (hc : w.cell? ⟨b, o, none⟩ = some (.int .i64 x)) :
    Calls Tryd.prog 79 #[.pointer (some ⟨b, o, none⟩)] w fun e w' => e = .returned (.int .i64 x) ∧ w' = w := by
  have hl := run_call_load (P := Tryd.prog) Tryd.func93 (by kernel_rfl) (by kernel_rfl) (by kernel_rfl) .i64 (by kernel_rfl) hc
  go_enter Tryd.func79, Tryd.ntmps79
  go_wp2
  go_ret
  exact ⟨rfl, rfl⟩

set_option maxHeartbeats 400000 in
theorem given_any (b : Nat) (x : Int) (w : World) (hc : w.cell? ⟨b, 7, none⟩ = some (.int .i64 x)) :
    Calls Tryd.prog 53 #[.pointer (some ⟨b, 0, none⟩)] w fun e w' => e = .returned (.int .i64 x) ∧ w' = w := by
  go_enter Tryd.func53, Tryd.ntmps53
  go_wp2_with (go_at_call 79; refine (load_any _ _ _ _ hc).mono ?_; rintro e w' ⟨rfl, rfl⟩)
  go_ret
  exact ⟨rfl, rfl⟩

/-- The count goes up. -/
theorem DeskAt.count {w : World} {b : Nat} {c : Option Nat} {s : Dk} (hd : DeskAt w b c s) (g : Int) : DeskAt (w.setCell ⟨b, 7, none⟩ (.int .i64 g)) b c { s with given := g } := by
  obtain ⟨ok, made, hm, hc, hr⟩ := hd
  have ho : ∀ o, o ≠ 7 → (w.setCell ⟨b, 7, none⟩ (.int .i64 g)).cell? ⟨b, o, none⟩ = w.cell? ⟨b, o, none⟩ := fun o h => World.cell?_setCell_other _ ⟨b, 7, none⟩ ⟨b, o, none⟩ _ (by simp)
  refine ⟨⟨ok.n0, ok.n1, ok.f0, ok.ft, ok.t1, ok.b0, ok.b1, ok.m0, ok.m1, ok.x0, ok.x1⟩, made, hm, ⟨(ho 0 (by decide)).trans hc.c0, (ho 1 (by decide)).trans hc.c1, (ho 2 (by decide)).trans hc.c2, (ho 3 (by decide)).trans hc.c3,
    (ho 4 (by decide)).trans hc.c4, (ho 5 (by decide)).trans hc.c5, (ho 6 (by decide)).trans hc.c6, World.cell?_setCell_same _ _ _ hc.c7, fun o => by rw [World.frozen?_setCell]; exact hc.fz o⟩, ?_⟩
  cases c with
  | none => exact hr
  | some k =>
    obtain ⟨buf, sn, rc, h1, h2⟩ := hr
    have hbk : b ≠ k := cells_not_chan hc.c0 h1
    exact ⟨buf, sn, rc, by rw [Below.heap_setCell _ _ _ _ (by simp; omega)]; exact h1, h2⟩

/-- The error of the next number, or 0. -/
def errOf (s : Dk) (now : Int) : Int := if s.to ≤ timeOf s now then 7 else if now + s.brw < timeOf s now then 8 else 0

/-- The desk behind its next number. -/
def Dk.step (s : Dk) (now : Int) : Dk := { s with time := timeOf s now, nxt := seqOf s (timeOf s now) + 1, given := s.given + 1 }

theorem timeOf_ge (s : Dk) (now : Int) : now ≤ timeOf s now ∧ s.frm ≤ timeOf s now ∧ s.time ≤ timeOf s now := by
  unfold timeOf
  split <;> omega

theorem seqOf_lt {s : Dk} (ok : s.Ok) (now : Int) : 0 ≤ seqOf s (timeOf s now) ∧ seqOf s (timeOf s now) < 4096 := by
  have h0 := ok.x0
  have h1 := ok.x1
  by_cases h : seqOf s (max now (max s.frm s.time)) = 4096
  · have e1 : timeOf s now = max now (max s.frm s.time) + 1 := by unfold timeOf; rw [if_pos h]
    have e2 : max now (max s.frm s.time) = s.time := by
      unfold seqOf at h
      split at h
      · assumption
      · omega
    rw [e1, e2]
    unfold seqOf
    rw [if_neg (by omega)]
    omega
  · have e1 : timeOf s now = max now (max s.frm s.time) := by unfold timeOf; rw [if_neg h]
    rw [e1]
    unfold seqOf at h ⊢
    split at h
    · rw [if_pos (by assumption)]; omega
    · rw [if_neg (by assumption)]; omega

set_option maxHeartbeats 400000 in
/-- Next refuses. -/
theorem DeskAt.next_no {w : World} {b : Nat} {c : Option Nat} {s : Dk} (hd : DeskAt w b c s) (now : Int) (hn : -9223372036854775808 ≤ now) (he : errOf s now ≠ 0) :
    Calls Tryd.prog 17 #[.pointer (some ⟨b, 0, none⟩), .int .i64 now] w fun e w' => e = .returned (.tuple #[.int .u64 0, .int .i64 (errOf s now)]) ∧ ∃ n, w' = w.drewN n := by
  have ht := hd.ntime now
  have hg := timeOf_ge s now
  have hr : ∀ n, Calls Tryd.prog 30 #[.pointer (some ⟨b, 0, none⟩), .int .i64 (timeOf s now), .int .i64 now] (w.drewN n) fun e w' => e = .returned (.int .i64 (errOf s now)) ∧ w' = w.drewN n := by
    intro n
    obtain ⟨ok, made, hm, hc, hr⟩ := hd.drewN n
    exact refusal_any b (timeOf s now) now s.to s.brw _ hc.c2 hc.c3 ok.b0 ok.b1 ok.t1 hg.1 hn
  have he' : (errOf s now != 0) = true := by simpa using he
  generalize errOf s now = er at *
  generalize timeOf s now = t at *
  clear hd hg he
  go_enter Tryd.func17, Tryd.ntmps17
  go_wp2_with (first | (go_at_call 29; refine ht.mono ?_; rintro e w' ⟨rfl, m, rfl⟩) | (go_at_call 30; refine (hr _).mono ?_; rintro e w' ⟨rfl, rfl⟩))
  go_ret2
  exact ⟨rfl, _, rfl⟩

set_option maxHeartbeats 400000 in
/-- Next gives. -/
theorem DeskAt.next_yes {w : World} {b : Nat} {c : Option Nat} {s : Dk} (hd : DeskAt w b c s) (now : Int) (hn : -9223372036854775808 ≤ now) (he : errOf s now = 0) (g0 : 0 ≤ s.given) (g1 : s.given < 9223372036854775807) :
    Calls Tryd.prog 17 #[.pointer (some ⟨b, 0, none⟩), .int .i64 now] w fun e w' => e = .returned (.tuple #[.int .u64 (numOf (timeOf s now) s.node (seqOf s (timeOf s now))), .int .i64 0]) ∧
      ∃ c', (c' = c ∨ ∃ k, w.heap.size ≤ k ∧ c' = some k) ∧ DeskAt w' b c' (s.step now) ∧ Keep (fun i => i = b ∨ c = some i) w w' := by
  have ht := hd.ntime now
  have hg := timeOf_ge s now
  have hq := seqOf_lt hd.ok now
  have hlt : timeOf s now < s.to := by unfold errOf at he; split at he <;> omega
  have hr : ∀ n, Calls Tryd.prog 30 #[.pointer (some ⟨b, 0, none⟩), .int .i64 (timeOf s now), .int .i64 now] (w.drewN n) fun e w' => e = .returned (.int .i64 0) ∧ w' = w.drewN n := by
    intro n
    obtain ⟨ok, made, hm, hc, hr⟩ := hd.drewN n
    have := refusal_any b (timeOf s now) now s.to s.brw _ hc.c2 hc.c3 ok.b0 ok.b1 ok.t1 hg.1 hn
    rw [show (if s.to ≤ timeOf s now then (7 : Int) else if now + s.brw < timeOf s now then 8 else 0) = 0 from he] at this
    exact this
  have f0 := hd.ok.f0
  have t1 := hd.ok.t1
  have hk : ∀ n, Calls Tryd.prog 31 #[.pointer (some ⟨b, 0, none⟩), .int .i64 (timeOf s now)] (w.drewN n) fun e w1 => e = .returned (.int .u64 (numOf (timeOf s now) s.node (seqOf s (timeOf s now)))) ∧ w1.cell? ⟨b, 7, none⟩ = some (.int .i64 s.given) ∧ w1.frozen? ⟨b, 7, none⟩ = false ∧
      Hid (∃ c', (c' = c ∨ ∃ k, w.heap.size ≤ k ∧ c' = some k) ∧ DeskAt (w1.setCell ⟨b, 7, none⟩ (.int .i64 (s.given + 1))) b c' (s.step now) ∧ Keep (fun i => i = b ∨ c = some i) w (w1.setCell ⟨b, 7, none⟩ (.int .i64 (s.given + 1)))) := by
    intro n
    refine ((hd.drewN n).take (timeOf s now) (by omega) (by omega) hq.2).mono ?_
    rintro e w1 ⟨rfl, c', hc', hd', hkp⟩
    refine ⟨rfl, ?_, ?_, c', ?_, hd'.count (s.given + 1), ?_⟩
    · obtain ⟨_, made, _, hc, _⟩ := hd'; exact hc.c7
    · obtain ⟨_, made, _, hc, _⟩ := hd'; exact hc.fz 7
    · exact hc'
    · exact (((Keep.refl (fun i => i = b ∨ c = some i) w).drewN n).trans hkp).setCell (p := ⟨b, 7, none⟩) (fun _ => .inl rfl) _
  generalize numOf (timeOf s now) s.node (seqOf s (timeOf s now)) = nv at *
  generalize timeOf s now = t at *
  clear hd hg he hq hlt
  go_enter Tryd.func17, Tryd.ntmps17
  go_wp2_with (first | (go_at_call 29; refine ht.mono ?_; rintro e w' ⟨rfl, m, rfl⟩) | (go_at_call 30; refine (hr _).mono ?_; rintro e w' ⟨rfl, rfl⟩) | (go_at_call 31; refine (hk _).mono ?_; rintro e w1 ⟨rfl, hc7, hz7, fin⟩) | (go_at_call 32; refine (add_any _ _ _ _ _ hc7 hz7 g0 (by omega) (by omega)).mono ?_; rintro e w2 ⟨rfl, rfl⟩))
  go_ret2
  exact ⟨rfl, fin.out⟩

end Go.Proofs.YtdplffhieekfaaaDoor
