/-
  stampslaw: one step, of whatever kind.
  Conditions: as for texts; the law's world is in memory.
  stampslaw.played with the all kinds.
  Conditions: as for texts; a script whose steps lie in memory, no longer than a script can be.
-/
import Derived.Test.YtdplffhieekfaaaDoorAllLends
import Derived.Test.YtdplffhieekfaaaDoorAllOpens
namespace Go.Proofs.YtdplffhieekfaaaDoor
open Go.RowKit

theorem lends_any {t : Nat} {W : World} {L : LB} {sd : Nat → Dk} {Ls Ms : List Value} {c : Int} {O : OB} {d : Nat → Od} (hI : AllIn t W L sd Ls Ms c O d) (ht : t ≤ 2200000000000) (kd on a b n : Int) (s : ByteArray) (l0 l1 l2 : Int) (hk : kd = 11 ∨ kd = 12) (o0 : -9223372036854775808 ≤ on) (o1 : on ≤ 9223372036854775807) (b0 : -9223372036854775808 ≤ b) (b1 : b ≤ 9223372036854775807) :
    Calls Tryd.prog 27 #[.pointer (some ⟨L.B, 0, none⟩), .agg #[.int .i64 kd, .int .i64 on, .int .i64 a, .int .i64 b, .int .u64 n, .string s, .int .i64 l0, .int .i64 l1, .int .i64 l2]] W fun e W' => e = .returned (.bool true) ∧ AllStepped t W W' L.B := by
  by_cases hn : O.n = 0
  · exact lends_none hI hn kd on a b n s l0 l1 l2
  · rcases hk with rfl | rfl
    · exact lends_lease hI ht (by omega) on a b n s l0 l1 l2 o0 o1 b0 b1
    · exact lends_journal hI (by omega) on a b n s l0 l1 l2 o0 o1

set_option maxRecDepth 100000 in
set_option maxHeartbeats 2000000 in
theorem step_opens {t : Nat} {W : World} {L : LB} {sd : Nat → Dk} {Ls Ms : List Value} {c : Int} {O : OB} {d : Nat → Od} (hI : AllIn t W L sd Ls Ms c O d) (ht : t ≤ 2200000000000) (on a b n : Int) (s : ByteArray) (l0 l1 l2 : Int) (o0 : -9223372036854775808 ≤ on) (o1 : on ≤ 9223372036854775807) (a0 : -9223372036854775808 ≤ a) (a1 : a ≤ 9223372036854775807) (b0 : -9223372036854775808 ≤ b) (b1 : b ≤ 9223372036854775807) :
    Calls Tryd.prog 14 #[.pointer (some ⟨L.B, 0, none⟩), .agg #[.int .i64 10, .int .i64 on, .int .i64 a, .int .i64 b, .int .u64 n, .string s, .int .i64 l0, .int .i64 l1, .int .i64 l2]] W fun e W' => e = .returned (.bool true) ∧ AllStepped t W W' L.B := by
  have b2 : Hid (Below W.heap.size W (W.alloc (.cells #[.int .i64 10, .int .i64 on, .int .i64 a, .int .i64 b, .int .u64 n, .string s, .int .i64 l0, .int .i64 l1, .int .i64 l2] 46))) := (Below.refl _ W).alloc (Nat.le_refl _) _
  have c1 := opens_any (hI.below b2.out) ht on a b n s l0 l1 l2 o0 o1 a0 a1 b0 b1
  have hB : Hid (L.B ≤ W.heap.size) := Nat.le_of_lt (hI.law.dw.base .own _ rfl).2
  clear hI o0 o1 a0 a1 b0 b1
  go_enter Tryd.func14, Tryd.ntmps14
  go_wp2_with fail
  refine c1.mono ?_
  rintro e w1 ⟨rfl, hs⟩
  have hfin : Hid (AllStepped t W w1 L.B) := AllStepped.pre (b2.out.mono hB.out) hs
  clear hs c1
  go_wp2
  go_ret
  exact ⟨rfl, hfin.out⟩

set_option maxRecDepth 100000 in
set_option maxHeartbeats 2000000 in
theorem step_lends {t : Nat} {W : World} {L : LB} {sd : Nat → Dk} {Ls Ms : List Value} {c : Int} {O : OB} {d : Nat → Od} (hI : AllIn t W L sd Ls Ms c O d) (ht : t ≤ 2200000000000) (kd on a b n : Int) (s : ByteArray) (l0 l1 l2 : Int) (hk : kd = 11 ∨ kd = 12) (o0 : -9223372036854775808 ≤ on) (o1 : on ≤ 9223372036854775807) (b0 : -9223372036854775808 ≤ b) (b1 : b ≤ 9223372036854775807) :
    Calls Tryd.prog 14 #[.pointer (some ⟨L.B, 0, none⟩), .agg #[.int .i64 kd, .int .i64 on, .int .i64 a, .int .i64 b, .int .u64 n, .string s, .int .i64 l0, .int .i64 l1, .int .i64 l2]] W fun e W' => e = .returned (.bool true) ∧ AllStepped t W W' L.B := by
  have b2 : Hid (Below W.heap.size W (W.alloc (.cells #[.int .i64 kd, .int .i64 on, .int .i64 a, .int .i64 b, .int .u64 n, .string s, .int .i64 l0, .int .i64 l1, .int .i64 l2] 46))) := (Below.refl _ W).alloc (Nat.le_refl _) _
  have c1 := lends_any (hI.below b2.out) ht kd on a b n s l0 l1 l2 hk o0 o1 b0 b1
  have hB : Hid (L.B ≤ W.heap.size) := Nat.le_of_lt (hI.law.dw.base .own _ rfl).2
  clear hI o0 o1 b0 b1
  rcases hk with rfl | rfl
  · go_enter Tryd.func14, Tryd.ntmps14
    go_wp2_with fail
    refine c1.mono ?_
    rintro e w1 ⟨rfl, hs⟩
    have hfin : Hid (AllStepped t W w1 L.B) := AllStepped.pre (b2.out.mono hB.out) hs
    clear hs c1
    go_wp2
    go_ret
    exact ⟨rfl, hfin.out⟩
  · go_enter Tryd.func14, Tryd.ntmps14
    go_wp2_with fail
    refine c1.mono ?_
    rintro e w1 ⟨rfl, hs⟩
    have hfin : Hid (AllStepped t W w1 L.B) := AllStepped.pre (b2.out.mono hB.out) hs
    clear hs c1
    go_wp2
    go_ret
    exact ⟨rfl, hfin.out⟩

theorem step_all {t : Nat} {W : World} {L : LB} {sd : Nat → Dk} {Ls Ms : List Value} {c : Int} {O : OB} {d : Nat → Od} (hI : AllIn t W L sd Ls Ms c O d) (hv : Vars W) (ht : t ≤ 2200000000000) (kd on a b n : Int) (s : ByteArray) (l0 l1 l2 : Int) (h12 : kd ≤ 12) (o0 : -9223372036854775808 ≤ on) (o1 : on ≤ 9223372036854775807) (a0 : -9223372036854775808 ≤ a) (a1 : a ≤ 9223372036854775807) (b0 : -9223372036854775808 ≤ b) (b1 : b ≤ 9223372036854775807) (n0 : 0 ≤ n) (hs : s.size ≤ 281474976710656) :
    Calls Tryd.prog 14 #[.pointer (some ⟨L.B, 0, none⟩), .agg #[.int .i64 kd, .int .i64 on, .int .i64 a, .int .i64 b, .int .u64 n, .string s, .int .i64 l0, .int .i64 l1, .int .i64 l2]] W fun e W' => e = .returned (.bool true) ∧ AllStepped t W W' L.B := by
  by_cases h9 : kd ≤ 9
  · exact (step_law hI.law hv ht kd on a b n s l0 l1 l2 h9 o0 o1 a0 a1 n0 hs).mono fun e W' ⟨he, h⟩ => ⟨he, hI.ofStep h⟩
  · by_cases h10 : kd = 10
    · subst h10; exact step_opens hI ht on a b n s l0 l1 l2 o0 o1 a0 a1 b0 b1
    · exact step_lends hI ht kd on a b n s l0 l1 l2 (by omega) o0 o1 b0 b1
end Go.Proofs.YtdplffhieekfaaaDoor
namespace Go.Proofs.YtdplffhieekfaaaDoor
open Go.RowKit

/-- Between two steps, somehow. -/
def PlayAll (w W : World) (t : Nat) : Prop := ∃ L s Ls Ms c O d, AllIn t W L s Ls Ms c O d ∧ L.B = w.heap.size ∧ Below w.heap.size w W

theorem PlayAll.bel {w W : World} {t : Nat} (h : PlayAll w W t) : Below w.heap.size w W := by obtain ⟨L, s, Ls, Ms, c, O, d, _, _, hb⟩ := h; exact hb
theorem PlayAll.below {w W W' : World} {t : Nat} (h : PlayAll w W t) (hb : Below W.heap.size W W') : PlayAll w W' t := by
  obtain ⟨L, s, Ls, Ms, c, O, d, hI, hB, hb0⟩ := h
  exact ⟨L, s, Ls, Ms, c, O, d, hI.below hb, hB, hb0.trans (hb.mono hb0.size)⟩

theorem PlayAll.step {w W : World} {t : Nat} (h : PlayAll w W t) (hv : Vars w) (ht : t ≤ 2200000000000) (kd on a b n : Int) (s : ByteArray) (l0 l1 l2 : Int) (h12 : kd ≤ 12) (o0 : -9223372036854775808 ≤ on) (o1 : on ≤ 9223372036854775807) (a0 : -9223372036854775808 ≤ a) (a1 : a ≤ 9223372036854775807) (b0 : -9223372036854775808 ≤ b) (b1 : b ≤ 9223372036854775807) (n0 : 0 ≤ n) (hs : s.size ≤ 281474976710656) :
    Calls Tryd.prog 14 #[.pointer (some ⟨w.heap.size, 0, none⟩), .agg #[.int .i64 kd, .int .i64 on, .int .i64 a, .int .i64 b, .int .u64 n, .string s, .int .i64 l0, .int .i64 l1, .int .i64 l2]] W fun e W' => e = .returned (.bool true) ∧ PlayAll w W' (t + 1) := by
  have hv' := hv.on h.bel
  obtain ⟨L, s', Ls, Ms, c, O, d, hI, hB, hb⟩ := h
  have := step_all hI hv' ht kd on a b n s l0 l1 l2 h12 o0 o1 a0 a1 b0 b1 n0 hs
  rw [hB] at this
  refine this.mono fun e W' ⟨he, ⟨L', s2, Ls', Ms', c', O', d', hI', hB'⟩, hb'⟩ => ⟨he, L', s2, Ls', Ms', c', O', d', hI', hB', hb.trans hb'⟩

theorem PlayAll.still {w W : World} {t : Nat} (h : PlayAll w W t) (ht : t ≤ 2200000000000) :
    Calls Tryd.prog 15 #[.pointer (some ⟨w.heap.size, 0, none⟩)] W fun e W' => e = .returned (.bool true) ∧ PlayAll w W' t := by
  have h' := h
  obtain ⟨L, s', Ls, Ms, c, O, d, hI, hB, hb⟩ := h
  have := hI.law.dw.still (by have := hI.law.len; omega)
  rw [hB] at this
  exact this.mono fun e W' ⟨he, n, hw⟩ => ⟨he, by rw [hw]; exact h'.below (below_drewN (Below.refl _ _) n)⟩

set_option maxRecDepth 100000 in
set_option maxHeartbeats 4000000 in
theorem played_all (sv : Value) (w : World) (hv : Vars w) (hs : ScriptAt w sv) (hln : ∃ a len cap, sv = .slice a len cap ∧ len ≤ 1759218604390) :
    Calls Tryd.prog 7 #[sv, .int .i64 12] w fun e w' => e = .returned (.bool true) ∧ Below w.heap.size w w' := by
  have hv' : Hid _ := hv
  have hs' : Hid _ := hs
  have hln' : Hid _ := hln
  clear hv hs hln
  go_enter Tryd.func7, Tryd.ntmps7
  go_wp2_with fail
  go_loopw [6, 7] (fun ok k W => ∃ (j : Nat), j ≤ 12 ∧ ok = .bool true ∧ k = .int .i64 ((j : Int) + 1) ∧ Hid (PlayAll w W j)) (fun _ k _ => 13 - (intOf k).toNat)
  case atStart =>
    exact ⟨0, by omega, rfl, rfl, _, _, _, _, _, _, _, all_start w _, rfl, (Below.refl _ w).alloc (Nat.le_refl _) _⟩
  case round =>
    obtain ⟨j, hj, rfl, rfl, hW⟩ := hrel
    by_cases hlt : j < 12
    · have hle : decide ((j : Int) + 1 ≤ 12) = true := by rw [decide_eq_true_iff]; omega
      by_cases h7 : j = 7
      · subst h7
        rw [show ((7 : Nat) : Int) + 1 = 8 from rfl]
        clear hle
        go_wp2_with fail
        refine ((hW.out.below ((Below.refl _ wr).alloc (Nat.le_refl _) _)).step hv'.out (by omega) _ _ _ _ _ _ _ _ _ (by omega) (by omega) (by omega) (by omega) (by omega) (by omega) (by omega) (by omega) (by decide)).mono ?_
        rintro e w1 ⟨rfl, hW1⟩
        replace hW1 : Hid _ := hW1
        clear hW
        go_wp2
        exact ⟨⟨8, by omega, rfl, by go_num, hW1⟩, by simp [intOf]⟩
      · have b8 : ((j : Int) + 1 == 8) = false := by rw [beq_eq_false_iff_ne]; omega
        go_wp2_with fail
        refine ((hW.out.below ((Below.refl _ wr).alloc (Nat.le_refl _) _)).step hv'.out (by omega) _ _ _ _ _ _ _ _ _ (by omega) (by omega) (by omega) (by omega) (by omega) (by omega) (by omega) (by omega) (by decide)).mono ?_
        rintro e w1 ⟨rfl, hW1⟩
        replace hW1 : Hid _ := hW1
        clear hW
        go_wp2
        exact ⟨⟨j + 1, by omega, rfl, by go_num, hW1⟩, by simp [intOf]; omega⟩
    · have hj4 : j = 12 := by omega
      subst hj4
      clear hlt hj
      rw [show ((12 : Nat) : Int) + 1 = 13 from rfl]
      go_wp2_with fail
      rcases hs'.out with rfl | ⟨b, o, sp, len, cap, rfl, hlen, hsp, hops⟩
      · go_loopw [6, 9] (fun ok i W => ok = .bool true ∧ i = .int .i64 0 ∧ Hid (PlayAll w W 12)) (fun _ _ _ => 0)
        case atStart => exact ⟨rfl, rfl, hW⟩
        case round =>
          obtain ⟨rfl, rfl, hW2⟩ := hrel
          go_wp2
          go_ret
          exact ⟨rfl, hW2.out.bel⟩
      · have hll : Hid (len ≤ 1759218604390) := by
          obtain ⟨a', len', cap', e, h⟩ := hln'.out
          simp only [Value.slice.injEq] at e
          rw [e.2.1]; exact h
        have hops' : Hid _ := hops
        have hsp' : Hid _ := hsp
        clear hops hsp
        go_loopw [6, 9] (fun ok i W => ∃ k : Nat, k ≤ len ∧ ok = .bool true ∧ i = .int .i64 k ∧ Hid (PlayAll w W (12 + k))) (fun _ i _ => len - (intOf i).toNat)
        case atStart => exact ⟨0, by omega, rfl, rfl, hW⟩
        case round =>
          obtain ⟨k, hk, rfl, rfl, hW2⟩ := hrel
          clear hW
          by_cases hlt : k < len
          · obtain ⟨kd, on, x, y, n, s, l0, l1, l2, hop⟩ := hops'.out k hlt
            obtain ⟨rfl, hblt⟩ := hsp'.out (by omega)
            have hbl : Hid (b < wr.heap.size) := Nat.lt_of_lt_of_le hblt hW2.out.bel.size
            obtain ⟨c0, c1, c2, c3, c4, c5, c6, c7, c8, bkd, bon, bx, by', bn, bs, b0, b1, b2⟩ := hop.on hW2.out.bel hblt
            have hbs : Hid _ := bs
            have hbn : Hid _ := bn
            have hbon : Hid _ := bon
            have hbx : Hid _ := bx
            have hby : Hid _ := by'
            clear bs bn bon bx by' b0 b1 b2 hop hblt
            by_cases h9 : 12 < kd
            · have hW3 : Hid (PlayAll w wr (12 + (k + 1))) := by
                obtain ⟨L, s', Ls, Ms, c, O, d, hI, hB, hb⟩ := hW2.out
                exact ⟨L, s', Ls, Ms, c, O, d, hI.later, hB, hb⟩
              go_wp2
              exact ⟨⟨k + 1, by omega, rfl, by go_num, hW3⟩, by simp [intOf]; omega⟩
            · have hst : Calls Tryd.prog 14 #[.pointer (some ⟨w.heap.size, 0, none⟩), .agg #[.int .i64 kd, .int .i64 on, .int .i64 x, .int .i64 y, .int .u64 n, .string s, .int .i64 l0, .int .i64 l1, .int .i64 l2]] wr fun e w' => e = .returned (.bool true) ∧ PlayAll w w' (12 + k + 1) := by
                have hl := hll.out
                have hs := hbs.out
                exact hW2.out.step hv'.out (by omega) kd on x y n s l0 l1 l2 (by omega) hbon.out.1 hbon.out.2 hbx.out.1 hbx.out.2 hby.out.1 hby.out.2 hbn.out.1 (by omega)
              go_wp2_with fail
              refine hst.mono ?_
              rintro e w1 ⟨rfl, hW1⟩
              have hstill := hW1.still (by have := hll.out; omega)
              clear hW1 hst c0 c1 c2 c3 c4 c5 c6 c7 c8
              go_wp2_with fail
              refine hstill.mono ?_
              rintro e w2 ⟨rfl, hW3⟩
              have hW4 : Hid (PlayAll w w2 (12 + (k + 1))) := hW3
              clear hstill hW3
              go_wp2
              exact ⟨⟨k + 1, by omega, rfl, by go_num, hW4⟩, by simp [intOf]; omega⟩
          · have hkl : k = len := by omega
            go_wp2
            go_ret
            exact ⟨rfl, hW2.out.bel⟩
end Go.Proofs.YtdplffhieekfaaaDoor
