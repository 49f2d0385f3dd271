/-
  stampskeep.Never: the walk, over the ticks' contract.
-/
import Derived.Test.YtdplffhieekfaaaMade
namespace Go.Proofs.Ytdplffhieekfaaa
open Go.RowKit Go.Maps Go.Lib

/-- The start: no desk yet. -/
theorem made_none {w w3 : World} {b m g cap sp : Nat} (hO : OfficeAt w3 b m g cap sp []) (hb : Below w.heap.size w w3) (l1 : w.heap.size ≤ b) (l2 : w.heap.size ≤ m) (l3 : w.heap.size ≤ g) :
    Made w.heap.size w (w3.alloc (.cells #[.slice none 0 0, .slice none 0 0, .slice none 0 0, .slice none 0 0, .pointer (some ⟨b, 0, none⟩), .slice none 0 0] 55)) w3.heap.size 0 sp := by
  have hl := hO.lt
  have hs := hb.size
  have hc := fun o => cell_alloc_new w3 #[.slice none 0 0, .slice none 0 0, .slice none 0 0, .slice none 0 0, .pointer (some ⟨b, 0, none⟩), .slice none 0 0] 55 o
  have hnil : ∀ T, (w3.alloc (.cells #[.slice none 0 0, .slice none 0 0, .slice none 0 0, .slice none 0 0, .pointer (some ⟨b, 0, none⟩), .slice none 0 0] 55)).ownsRow w.heap.size T 1 (.slice none 0 0) ([] : List Value).length [] := fun T => ⟨rfl, Or.inl ⟨rfl, rfl⟩⟩
  have hbm := hO.bm
  have hbg := hO.bg
  have hgm := hO.gm
  have key : ∀ p x, ({ X := w3.heap.size, b := b, m := m, g := g, cap := cap, span := sp, vD := .slice none 0 0, vN := .slice none 0 0, vC := .slice none 0 0, vT := .slice none 0 0, dk := fun _ => 0, n := 0 } : GB).at p = some x → (p = .own ∧ x = w3.heap.size) ∨ (p = .office ∧ x = b) ∨ (p = .map ∧ x = m) ∨ (p = .row ∧ x = g) := fun p x hp => by
    cases p with
    | own => cases hp; exact Or.inl ⟨rfl, rfl⟩
    | office => cases hp; exact Or.inr (Or.inl ⟨rfl, rfl⟩)
    | map => cases hp; exact Or.inr (Or.inr (Or.inl ⟨rfl, rfl⟩))
    | row => cases hp; exact Or.inr (Or.inr (Or.inr ⟨rfl, rfl⟩))
    | desks => cases hp
    | nodes => cases hp
    | clocks => cases hp
    | last => cases hp
    | all => cases hp
    | chan k => cases hp
    | desk k =>
      have : (if k < 0 then some (0 : Nat) else none) = some x := hp
      rw [if_neg (Nat.not_lt_zero _)] at this
      cases this
  refine ⟨{ X := w3.heap.size, b := b, m := m, g := g, cap := cap, span := sp, vD := .slice none 0 0, vN := .slice none 0 0, vC := .slice none 0 0, vT := .slice none 0 0, dk := fun _ => 0, n := 0 }, [], fun _ => newDk 0 0 1 0, rfl, rfl, rfl, ⟨⟨fun _ => (hc 0).1, fun _ => (hc 1).1, fun _ => (hc 2).1, fun _ => (hc 3).1, fun _ => (hc 4).1, fun _ => (hc 5).1, fun _ o => (hc o).2, fun _ => hnil _, fun _ => hnil _, fun _ => hnil _, fun _ => hnil _, fun k hk => absurd hk (Nat.not_lt_zero _), fun _ _ _ => hO.on (heap_alloc_old _ _ hl.1) (heap_alloc_old _ _ hl.2.1) (heap_alloc_old _ _ hl.2.2)⟩, fun p q x hp hq => ?_, fun p x hp => ?_⟩, rfl, fun i hi => absurd hi (Nat.not_lt_zero _), fun i j hi => absurd hi (Nat.not_lt_zero _), fun nd => (by simp [fenceOf]), hb.alloc (by omega) _⟩
  · rcases key p x hp with ⟨rfl, e1⟩ | ⟨rfl, e1⟩ | ⟨rfl, e1⟩ | ⟨rfl, e1⟩ <;> rcases key q x hq with ⟨rfl, e2⟩ | ⟨rfl, e2⟩ | ⟨rfl, e2⟩ | ⟨rfl, e2⟩ <;> first | rfl | (exfalso; omega)
  · rcases key p x hp with ⟨rfl, e1⟩ | ⟨rfl, e1⟩ | ⟨rfl, e1⟩ | ⟨rfl, e1⟩ <;> (simp; omega)

set_option maxRecDepth 100000 in
set_option maxHeartbeats 4000000 in
theorem never_walk (htick : ∀ (B : Nat) (W0 W : World) (X t : Nat) (c A Bv : Int), FleetInv B W0 W X t → t ≤ 1048576 → -9223372036854775808 ≤ A → A ≤ 9223372036854775807 → -9223372036854775808 ≤ Bv → Bv ≤ 9223372036854775807 →
      Calls Try.prog 19 #[.pointer (some ⟨X, 0, none⟩), .agg #[.int .i64 c, .int .i64 A, .int .i64 Bv]] W fun e w' => e = .returned (.bool true) ∧ FleetInv B W0 w' X (t + 1))
    (a : Option Addr) (n cp : Nat) (span now : Int) (w : World) (hn : n ≤ 1048576)
    (hs1 : -9223372036854775808 ≤ span) (hs2 : span ≤ 9223372036854775807) (ho1 : -9223372036854775808 ≤ now) (ho2 : now ≤ 9223372036854775807)
    (hc : ∀ k, k < n → ∃ b off c A Bv, a = some ⟨b, off, none⟩ ∧ w.cell? ⟨b, off + k * 3, none⟩ = some (.int .i64 c) ∧ w.cell? ⟨b, off + k * 3 + 1, none⟩ = some (.int .i64 A) ∧ w.cell? ⟨b, off + k * 3 + 2, none⟩ = some (.int .i64 Bv) ∧ -9223372036854775808 ≤ A ∧ A ≤ 9223372036854775807 ∧ -9223372036854775808 ≤ Bv ∧ Bv ≤ 9223372036854775807) :
    Calls Try.prog 6 #[.slice a n cp, .int .i64 span, .int .i64 now] w fun e w' => e = .returned (.bool true) ∧ Below w.heap.size w w' := by
  obtain ⟨q, hq, hq1⟩ : ∃ q : Nat, pickI span 50 = (q : Int) ∧ q < 50 := by
    have := pickI_bounds span 50 (by omega)
    exact ⟨(pickI span 50).toNat, by omega, by omega⟩
  have hps := fun w => pick_any span 50 w hs1 hs2 (by omega)
  rw [hq] at hps
  obtain ⟨p, hp, hp1⟩ : ∃ p : Nat, pickI now 1000 = (p : Int) ∧ p < 1000 := by
    have := pickI_bounds now 1000 (by omega)
    exact ⟨(pickI now 1000).toNat, by omega, by omega⟩
  have hpn := fun w => pick_any now 1000 w ho1 ho2 (by omega)
  rw [hp] at hpn
  have hno : ∀ w, Calls Try.prog 17 #[.string ⟨#[]⟩, .int .i64 (1 + (q : Int))] w fun e w' => ∃ b m g cap, e = .returned (.tuple #[.pointer (some ⟨b, 0, none⟩), .int .i64 0]) ∧ w.heap.size ≤ b ∧ w.heap.size ≤ m ∧ w.heap.size ≤ g ∧ OfficeAt w' b m g cap (1 + q) [] ∧ Below w.heap.size w w' := fun w => by
    have := newOffice_told [] good_nil 0 (1 + q) w (by simp [jtext]) (by omega) (by omega) (by omega)
    rw [show ((1 + q : Nat) : Int) = 1 + (q : Int) from by omega] at this
    exact this
  replace hc : Hid _ := hc
  replace htick : Hid _ := htick
  clear hq hp hs1 hs2 ho1 ho2
  go_enter Try.func6, Try.ntmps6
  go_wp2_with fail
  refine (awake_any _).mono ?_
  rintro e w1 ⟨rfl, hb1⟩
  replace hb1 : Hid _ := hb1
  go_wp2_with fail
  refine (hps _).mono ?_
  rintro e w2 ⟨rfl, rfl⟩
  clear hps
  go_wp2_with fail
  refine (hno _).mono ?_
  rintro e w3 ⟨b, m, g, cap, rfl, hbb, hmm, hgg, hO, hb3⟩
  have hm0 := made_none hO (hb1.out.trans (hb3.mono hb1.out.size)) (by have := hb1.out.size; omega) (by have := hb1.out.size; omega) (by have := hb1.out.size; omega)
  replace hm0 : Hid _ := hm0
  clear hno hO hbb hmm hgg hb3
  go_wp2
  go_loopw [11] (fun i W => ∃ k : Nat, i = .int .i64 (k : Int) ∧ k ≤ 6 ∧ Hid (Made w.heap.size w W w3.heap.size k (1 + q))) (fun i _ => 6 - (RowKit.intOf i).toNat)
  case atStart => exact ⟨0, rfl, by omega, hm0⟩
  case round =>
    obtain ⟨k, rfl, hk, hM⟩ := hrel
    by_cases hlt : k < 6
    · have hst := hM.out.step hlt (by omega) (by omega) ((p : Int) - 500) (by omega)
      rw [show ((k / 2 : Nat) : Int) = (k : Int) / 2 from by omega] at hst
      have hlt' : (k : Int) < 6 := by omega
      go_wp2_with fail
      refine (hpn _).mono ?_
      rintro e w4 ⟨rfl, rfl⟩
      go_wp2_with fail
      refine hst.mono ?_
      rintro e w5 ⟨rfl, hM5⟩
      replace hM5 : Hid _ := hM5
      clear hst
      go_wp2
      exact ⟨⟨k + 1, by simp, by omega, hM5⟩, by simp [RowKit.intOf]; omega⟩
    · obtain rfl : k = 6 := by omega
      have hf0 : Hid (FleetInv w.heap.size w wr w3.heap.size 0) := hM.out.fleet (by omega) (by omega)
      clear hlt hM
      go_wp2
      go_loopw [13] (fun i W => ∃ k : Nat, i = .int .i64 (k : Int) ∧ k ≤ n ∧ Hid (FleetInv w.heap.size w W w3.heap.size k)) (fun i _ => n - (RowKit.intOf i).toNat)
      case atStart => exact ⟨0, rfl, Nat.zero_le _, hf0⟩
      case round =>
        obtain ⟨k, rfl, hkn, hI⟩ := hrel
        by_cases hlt : k < n
        · obtain ⟨bz, off, c, A, Bv, rfl, z0, z1, z2, i1, i2, i3, i4⟩ := hc.out k hlt
          have hbw : Below w.heap.size w wr := by obtain ⟨_, _, _, _, _, _, _, _, _, _, _, _, _, _, hb⟩ := hI.out.ex; exact hb
          have y0 := (hbw.cell (p := ⟨bz, off + k * 3, none⟩) (block_lt_of_cell z0)).trans z0
          have y1 := (hbw.cell (p := ⟨bz, off + k * 3 + 1, none⟩) (block_lt_of_cell z1)).trans z1
          have y2 := (hbw.cell (p := ⟨bz, off + k * 3 + 2, none⟩) (block_lt_of_cell z2)).trans z2
          have ht := htick.out _ _ _ _ k c A Bv hI.out (by omega) i1 i2 i3 i4
          have hlt' : (k : Int) < (n : Int) := by omega
          clear z0 z1 z2 i1 i2 i3 i4 hbw
          go_wp2_with fail
          refine ht.mono ?_
          rintro e w5 ⟨rfl, hI5⟩
          replace hI5 : Hid _ := hI5
          clear ht
          go_wp2
          go_roundw
          case rel => (repeat apply Exists.intro); exact ⟨⟨k + 1, by simp, by omega, hI5⟩, rfl⟩
          case measure => simp [RowKit.intOf]; omega
        · have hlt' : (n : Int) ≤ (k : Int) := by omega
          go_wp2
          go_ret
          obtain ⟨_, _, _, _, _, _, _, _, _, _, _, _, _, _, hb⟩ := hI.out.ex
          exact ⟨rfl, hb⟩
end Go.Proofs.Ytdplffhieekfaaa
