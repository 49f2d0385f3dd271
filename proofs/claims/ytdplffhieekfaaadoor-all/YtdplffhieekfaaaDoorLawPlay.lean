/-
  stampslaw.played with the kinds of the texts.
  Conditions: as for texts; a script whose steps lie in memory.
-/
import Derived.Test.YtdplffhieekfaaaDoorLawStep
import Derived.Deep.Slices
import Derived.Carry
namespace Go.Proofs.YtdplffhieekfaaaDoor
open Go.RowKit

/-- A step in memory: its fields, each within its kind. -/
structure OpAt (W : World) (b o : Nat) (kd on x y n : Int) (s : ByteArray) (l0 l1 l2 : Int) : Prop where
  c0 : W.cell? ⟨b, o, none⟩ = some (.int .i64 kd)
  c1 : W.cell? ⟨b, o + 1, none⟩ = some (.int .i64 on)
  c2 : W.cell? ⟨b, o + 2, none⟩ = some (.int .i64 x)
  c3 : W.cell? ⟨b, o + 3, none⟩ = some (.int .i64 y)
  c4 : W.cell? ⟨b, o + 4, none⟩ = some (.int .u64 n)
  c5 : W.cell? ⟨b, o + 5, none⟩ = some (.string s)
  c6 : W.cell? ⟨b, o + 6, none⟩ = some (.int .i64 l0)
  c7 : W.cell? ⟨b, o + 7, none⟩ = some (.int .i64 l1)
  c8 : W.cell? ⟨b, o + 8, none⟩ = some (.int .i64 l2)
  bkd : -9223372036854775808 ≤ kd ∧ kd ≤ 9223372036854775807
  bon : -9223372036854775808 ≤ on ∧ on ≤ 9223372036854775807
  bx : -9223372036854775808 ≤ x ∧ x ≤ 9223372036854775807
  by' : -9223372036854775808 ≤ y ∧ y ≤ 9223372036854775807
  bn : 0 ≤ n ∧ n ≤ 18446744073709551615
  bs : s.size ≤ 140737488355328
  b0 : -9223372036854775808 ≤ l0 ∧ l0 ≤ 9223372036854775807
  b1 : -9223372036854775808 ≤ l1 ∧ l1 ≤ 9223372036854775807
  b2 : -9223372036854775808 ≤ l2 ∧ l2 ≤ 9223372036854775807

/-- The script: so many steps. -/
def ScriptAt (W : World) (v : Value) : Prop :=
  v = .slice none 0 0 ∨ ∃ (b o : Nat) (sp : Option Nat) (len cap : Nat), v = .slice (some ⟨b, o, sp⟩) len cap ∧ len ≤ 9223372036854775807 ∧ (0 < len → sp = none ∧ b < W.heap.size) ∧
    ∀ i, i < len → ∃ kd on x y n s l0 l1 l2, OpAt W b (o + i * 9) kd on x y n s l0 l1 l2

theorem OpAt.on {W W' : World} {b o : Nat} {kd on x y n : Int} {s : ByteArray} {l0 l1 l2 : Int} (h : OpAt W b o kd on x y n s l0 l1 l2) (hb : Below W.heap.size W W') (hlt : b < W.heap.size) : OpAt W' b o kd on x y n s l0 l1 l2 :=
  { h with c0 := kept_cell hb hlt h.c0, c1 := kept_cell hb hlt h.c1, c2 := kept_cell hb hlt h.c2, c3 := kept_cell hb hlt h.c3, c4 := kept_cell hb hlt h.c4, c5 := kept_cell hb hlt h.c5, c6 := kept_cell hb hlt h.c6, c7 := kept_cell hb hlt h.c7, c8 := kept_cell hb hlt h.c8 }

/-- The law's own world while only texts were asked. -/
structure TextsAt (w W : World) : Prop where
  bel : Below w.heap.size w W
  lt : w.heap.size < W.heap.size
  lists : W.cell? ⟨w.heap.size, 2, none⟩ = some (.slice none 0 0)

theorem TextsAt.on {w W W' : World} (h : TextsAt w W) (hb : Below W.heap.size W W') : TextsAt w W' :=
  ⟨h.bel.trans (hb.mono (Nat.le_of_lt h.lt)), Nat.lt_of_lt_of_le h.lt hb.size, kept_cell hb h.lt h.lists⟩

set_option maxRecDepth 100000 in
set_option maxHeartbeats 2000000 in
theorem played_texts (sv : Value) (w : World) (hv : Vars w) (hs : ScriptAt w sv) :
    Calls Tryd.prog 7 #[sv, .int .i64 4] w fun e w' => e = .returned (.bool true) ∧ Below w.heap.size w w' := by
  have hv' : Hid _ := hv
  have hs' : Hid _ := hs
  clear hv hs
  go_enter Tryd.func7, Tryd.ntmps7
  go_wp2_with fail
  go_loopw [6, 7] (fun ok k W => ∃ (j : Nat), j ≤ 4 ∧ ok = .bool true ∧ k = .int .i64 ((j : Int) + 1) ∧ Hid (TextsAt w W)) (fun _ k _ => 5 - (intOf k).toNat)
  case atStart =>
    exact ⟨0, by omega, rfl, rfl, (Below.refl _ w).alloc (Nat.le_refl _) _, by simp, by rw [(cell_alloc_new w _ _ 2).1]; rfl⟩
  case round =>
    obtain ⟨j, hj, rfl, rfl, hW⟩ := hrel
    by_cases hlt : j < 4
    · have b8 : ((j : Int) + 1 == 8) = false := by rw [beq_eq_false_iff_ne]; omega
      have hle : decide ((j : Int) + 1 ≤ 4) = true := by rw [decide_eq_true_iff]; omega
      go_wp2_with fail
      refine (step_texts _ _ _ _ _ _ _ _ _ _ _ (hv'.out.on (hW.out.bel.alloc (Nat.le_of_lt hW.out.lt) _)) (by omega) (by omega) (by omega) (by decide)).mono ?_
      rintro e w1 ⟨rfl, hb1⟩
      have hW1 : Hid (TextsAt w w1) := (hW.out.on ((Below.refl _ wr).alloc (Nat.le_refl _) _)).on hb1
      clear hb1 hW
      go_wp2
      exact ⟨⟨j + 1, by omega, rfl, by go_num, hW1⟩, by simp [intOf]; omega⟩
    · have hj4 : j = 4 := by omega
      subst hj4
      clear hlt hj
      rw [show ((4 : Nat) : Int) + 1 = 5 from rfl]
      go_wp2_with fail
      rcases hs'.out with rfl | ⟨b, o, sp, len, cap, rfl, hlen, hsp, hops⟩
      · go_loopw [6, 9] (fun ok i W => ok = .bool true ∧ i = .int .i64 0 ∧ Hid (TextsAt w W)) (fun _ _ _ => 0)
        case atStart => exact ⟨rfl, rfl, hW⟩
        case round =>
          obtain ⟨rfl, rfl, hW2⟩ := hrel
          go_wp2
          go_ret
          exact ⟨rfl, hW2.out.bel⟩
      · have hops' : Hid _ := hops
        have hsp' : Hid _ := hsp
        clear hops hsp
        go_loopw [6, 9] (fun ok i W => ∃ k : Nat, k ≤ len ∧ ok = .bool true ∧ i = .int .i64 k ∧ Hid (TextsAt w W)) (fun _ i _ => len - (intOf i).toNat)
        case atStart => exact ⟨0, by omega, rfl, rfl, hW⟩
        case round =>
          obtain ⟨k, hk, rfl, rfl, hW2⟩ := hrel
          clear hW
          by_cases hlt : k < len
          · obtain ⟨kd, on, x, y, n, s, l0, l1, l2, hop⟩ := hops'.out k hlt
            obtain ⟨rfl, hblt⟩ := hsp'.out (by omega)
            have hbl : Hid (b < wr.heap.size) := Nat.lt_of_lt_of_le hblt hW2.out.bel.size
            obtain ⟨c0, c1, c2, c3, c4, c5, c6, c7, c8, bkd, bon, bx, by', bn, bs, b0, b1, b2⟩ := hop.on hW2.out.bel hblt
            have hbs : Hid _ := bs
            have hbn : Hid _ := bn
            have hvw : Hid (Vars wr) := hv'.out.on hW2.out.bel
            clear bs bn bon bx by' b0 b1 b2 hop hblt
            by_cases h4 : 4 < kd
            · go_wp2
              exact ⟨⟨k + 1, by omega, rfl, by go_num, hW2⟩, by simp [intOf]; omega⟩
            · have hst : Calls Tryd.prog 14 #[.pointer (some ⟨w.heap.size, 0, none⟩), .agg #[.int .i64 kd, .int .i64 on, .int .i64 x, .int .i64 y, .int .u64 n, .string s, .int .i64 l0, .int .i64 l1, .int .i64 l2]] wr fun e w' => e = .returned (.bool true) ∧ Below wr.heap.size wr w' := by
                have hn := hbn.out
                have hs := hbs.out
                by_cases h1 : kd < 1
                · exact step_none _ kd on x y n s l0 l1 l2 wr h1
                · exact step_texts _ kd on x y n s l0 l1 l2 wr hvw.out (by omega) (by omega) hn.1 (by omega)
              go_wp2_with fail
              refine hst.mono ?_
              rintro e w1 ⟨rfl, hb1⟩
              have hW1 : Hid (TextsAt w w1) := hW2.out.on hb1
              have hl : w1.cell? ⟨w.heap.size, 2, none⟩ = some (.slice none 0 0) := hW1.out.lists
              have hstill := still_none w.heap.size w1 hl
              clear hb1 hst hl c0 c1 c2 c3 c4 c5 c6 c7 c8
              go_wp2_with fail
              refine hstill.mono ?_
              rintro e w2 ⟨rfl, rfl⟩
              clear hstill
              go_wp2
              exact ⟨⟨k + 1, by omega, rfl, by go_num, hW1⟩, by simp [intOf]; omega⟩
          · have hkl : k = len := by omega
            go_wp2
            go_ret
            exact ⟨rfl, hW2.out.bel⟩
end Go.Proofs.YtdplffhieekfaaaDoor
