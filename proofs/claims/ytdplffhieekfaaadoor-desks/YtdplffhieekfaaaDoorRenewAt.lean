/-
  Renew keeps both desks in step.
  Conditions: the desks' cells are known.
-/
import Derived.Test.YtdplffhieekfaaaDoorRenew
namespace Go.Proofs.YtdplffhieekfaaaDoor
open Go.RowKit

/-- What Renew answers. -/
def renewErr (s : Dk) (nd f t : Int) : Int :=
  haveI : Decidable (Lease nd f t) := inferInstanceAs (Decidable (0 ≤ nd ∧ nd < 1024 ∧ 0 ≤ f ∧ f < t ∧ t ≤ 2199023255552))
  if Lease nd f t then (if nd = s.node then (if f < s.to then 5 else 0) else 3) else 4

theorem Dk.Ok.renew {s : Dk} (ok : s.Ok) {f t : Int} (h : Lease s.node f t) : (s.renew f t).Ok := by
  obtain ⟨h1, h2, h3, h4, h5⟩ := h
  exact ⟨ok.n0, ok.n1, h3, h4, h5, ok.b0, ok.b1, ok.m0, ok.m1, ok.x0, ok.x1⟩

theorem DeskAt.renewed {w w1 : World} {b : Nat} {c : Option Nat} {s : Dk} (h : DeskAt w b c s) (hb : Below w.heap.size w w1) {f t : Int} (hl : Lease s.node f t) :
    DeskAt (((w1.setCell ⟨b, 0, none⟩ (.int .i64 s.node)).setCell ⟨b, 1, none⟩ (.int .i64 f)).setCell ⟨b, 2, none⟩ (.int .i64 t)) b c (s.renew f t) ∧
      Keep (fun i => i = b) w (((w1.setCell ⟨b, 0, none⟩ (.int .i64 s.node)).setCell ⟨b, 1, none⟩ (.int .i64 f)).setCell ⟨b, 2, none⟩ (.int .i64 t)) := by
  obtain ⟨ok, made, hm, hc, hr⟩ := h.below hb
  obtain ⟨r0, r1, r2, r3, rf, rk⟩ := three_cells (.int .i64 s.node) (.int .i64 f) (.int .i64 t) hc.c0 hc.c1 hc.c2
  refine ⟨⟨ok.renew hl, made, hm, ⟨r0, r1, r2, (r3 3 (by omega)).trans hc.c3, (r3 4 (by omega)).trans hc.c4, (r3 5 (by omega)).trans hc.c5, (r3 6 (by omega)).trans hc.c6, (r3 7 (by omega)).trans hc.c7, fun o => (rf o).trans (hc.fz o)⟩, ?_⟩, (Keep.of_below hb).trans' rk (fun _ _ h => h)⟩
  cases c with
  | none => exact hr
  | some k =>
    obtain ⟨buf, sn, rc, h1, h2⟩ := hr
    have hbk : b ≠ k := cells_not_chan hc.c0 h1
    have hk : k < w1.heap.size := by
      rcases Nat.lt_or_ge k w1.heap.size with h | h
      · exact h
      · rw [Array.getElem?_eq_none h] at h1; cases h1
    exact ⟨buf, sn, rc, (rk.block k hk (fun e => hbk e.symm)).trans h1, h2⟩

theorem RefAt.below {w w1 : World} {b : Nat} {s : Dk} (h : RefAt w b s) (hb : Below w.heap.size w w1) : RefAt w1 b s := by
  have hlt : b < w.heap.size := block_lt_of_cell h.c0
  exact ⟨kept_cell hb hlt h.c0, kept_cell hb hlt h.c1, kept_cell hb hlt h.c2, kept_cell hb hlt h.c3, kept_cell hb hlt h.c4, kept_cell hb hlt h.c5, kept_cell hb hlt h.c6, fun o => by rw [hb.frozen (p := ⟨b, o, none⟩) hlt]; exact h.fz o⟩
theorem RefAt.keep {S : Nat → Prop} {w w1 : World} {b : Nat} {s : Dk} (h : RefAt w b s) (hk : Keep S w w1) (hs : ¬ S b) : RefAt w1 b s := by
  have hlt : b < w.heap.size := block_lt_of_cell h.c0
  have e := fun o => hk.cell (p := ⟨b, o, none⟩) hlt hs
  exact ⟨(e 0).trans h.c0, (e 1).trans h.c1, (e 2).trans h.c2, (e 3).trans h.c3, (e 4).trans h.c4, (e 5).trans h.c5, (e 6).trans h.c6, fun o => by rw [hk.frozen (p := ⟨b, o, none⟩) hlt hs]; exact h.fz o⟩

theorem RefAt.renewed {w w1 : World} {b : Nat} {s : Dk} (h : RefAt w b s) (hb : Below w.heap.size w w1) (f t : Int) :
    RefAt (((w1.setCell ⟨b, 0, none⟩ (.int .i64 s.node)).setCell ⟨b, 1, none⟩ (.int .i64 f)).setCell ⟨b, 2, none⟩ (.int .i64 t)) b (s.renew f t) ∧
      Keep (fun i => i = b) w (((w1.setCell ⟨b, 0, none⟩ (.int .i64 s.node)).setCell ⟨b, 1, none⟩ (.int .i64 f)).setCell ⟨b, 2, none⟩ (.int .i64 t)) := by
  have hc := h.below hb
  obtain ⟨r0, r1, r2, r3, rf, rk⟩ := three_cells (.int .i64 s.node) (.int .i64 f) (.int .i64 t) hc.c0 hc.c1 hc.c2
  exact ⟨⟨r0, r1, r2, (r3 3 (by omega)).trans hc.c3, (r3 4 (by omega)).trans hc.c4, (r3 5 (by omega)).trans hc.c5, (r3 6 (by omega)).trans hc.c6, fun o => (rf o).trans (hc.fz o)⟩, (Keep.of_below hb).trans' rk (fun _ _ h => h)⟩

/-- The program's. -/
theorem DeskAt.renew_any {w : World} {b : Nat} {c : Option Nat} {s : Dk} (h : DeskAt w b c s) (nd f t : Int) :
    Calls Tryd.prog 51 #[.pointer (some ⟨b, 0, none⟩), .agg #[.int .i64 nd, .int .i64 f, .int .i64 t]] w fun e w' => e = .returned (.int .i64 (renewErr s nd f t)) ∧
      DeskAt w' b c (if renewErr s nd f t = 0 then s.renew f t else s) ∧ Keep (fun i => i = b) w w' := by
  obtain ⟨ok, made, hm, hc, hr⟩ := id h
  unfold renewErr
  by_cases hl : Lease nd f t
  · rw [if_pos hl]
    by_cases hn : nd = s.node
    · subst hn
      rw [if_pos rfl]
      by_cases ho : f < s.to
      · rw [if_pos ho]
        refine (renew_old b _ f t s.to w hc.c0 hc.c2 hl ho).mono fun e w' hh => ⟨hh.1, ?_, Keep.of_below hh.2⟩
        rw [if_neg (by omega)]
        exact h.below hh.2
      · rw [if_neg ho]
        refine (renew_yes b _ f t _ s.to w hc.c0 hc.c1 hc.c2 hc.fz hl ho).mono ?_
        rintro e w' ⟨rfl, w1, hb, rfl⟩
        rw [if_pos rfl]
        exact ⟨rfl, h.renewed hb hl⟩
    · rw [if_neg hn]
      refine (renew_node b nd f t _ w hc.c0 hl hn).mono fun e w' hh => ⟨hh.1, ?_, Keep.of_below hh.2⟩
      rw [if_neg (by omega)]
      exact h.below hh.2
  · rw [if_neg hl]
    refine (renew_lease b nd f t w hl).mono fun e w' hh => ⟨hh.1, ?_, Keep.of_below hh.2⟩
    rw [if_neg (by omega)]
    exact h.below hh.2

/-- The document's. -/
theorem RefAt.renew_any {w : World} {b : Nat} {s : Dk} (h : RefAt w b s) (nd f t : Int) :
    Calls Tryd.prog 52 #[.pointer (some ⟨b, 0, none⟩), .agg #[.int .i64 nd, .int .i64 f, .int .i64 t]] w fun e w' => e = .returned (.int .i64 (renewErr s nd f t)) ∧
      RefAt w' b (if renewErr s nd f t = 0 then s.renew f t else s) ∧ Keep (fun i => i = b) w w' := by
  unfold renewErr
  by_cases hl : Lease nd f t
  · rw [if_pos hl]
    by_cases hn : nd = s.node
    · subst hn
      rw [if_pos rfl]
      by_cases ho : f < s.to
      · rw [if_pos ho]
        refine (rrenew_old b _ f t s.to w h.c0 h.c2 hl ho).mono fun e w' hh => ⟨hh.1, ?_, Keep.of_below hh.2⟩
        rw [if_neg (by omega)]
        exact h.below hh.2
      · rw [if_neg ho]
        refine (rrenew_yes b _ f t _ s.to w h.c0 h.c1 h.c2 h.fz hl ho).mono ?_
        rintro e w' ⟨rfl, w1, hb, rfl⟩
        rw [if_pos rfl]
        exact ⟨rfl, h.renewed hb f t⟩
    · rw [if_neg hn]
      refine (rrenew_node b nd f t _ w h.c0 hl hn).mono fun e w' hh => ⟨hh.1, ?_, Keep.of_below hh.2⟩
      rw [if_neg (by omega)]
      exact h.below hh.2
  · rw [if_neg hl]
    refine (rrenew_lease b nd f t w hl).mono fun e w' hh => ⟨hh.1, ?_, Keep.of_below hh.2⟩
    rw [if_neg (by omega)]
    exact h.below hh.2
end Go.Proofs.YtdplffhieekfaaaDoor
