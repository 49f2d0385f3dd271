/-
  stampslaw: a step that is of the texts or is none, and the look at the lists that came out while there are none.
  Conditions: as for texts.
-/
import Derived.Test.YtdplffhieekfaaaDoorLawTexts
namespace Go.Proofs.YtdplffhieekfaaaDoor
open Go.RowKit

set_option maxRecDepth 100000 in
set_option maxHeartbeats 2000000 in
theorem step_texts (p : Value) (kd on a b n : Int) (s : ByteArray) (l0 l1 l2 : Int) (w : World) (hv : Vars w) (hk : 1 ≤ kd) (hk4 : kd ≤ 4) (h0 : 0 ≤ n) (hs : s.size ≤ 281474976710656) :
    Calls Tryd.prog 14 #[p, .agg #[.int .i64 kd, .int .i64 on, .int .i64 a, .int .i64 b, .int .u64 n, .string s, .int .i64 l0, .int .i64 l1, .int .i64 l2]] w fun e w' => e = .returned (.bool true) ∧ Below w.heap.size w w' := by
  have b0 : Hid (Below w.heap.size w (w.alloc (.cells #[.int .i64 kd, .int .i64 on, .int .i64 a, .int .i64 b, .int .u64 n, .string s, .int .i64 l0, .int .i64 l1, .int .i64 l2] 46))) := (Below.refl _ w).alloc (Nat.le_refl _) _
  have c := texts_any kd on a b n s l0 l1 l2 _ (hv.on b0.out) hk hk4 h0 hs
  clear hv h0 hs
  go_enter Tryd.func14, Tryd.ntmps14
  go_wp2_with fail
  refine c.mono ?_
  rintro e w1 ⟨rfl, hb1⟩
  have b1 : Hid (Below w.heap.size w w1) := b0.out.trans (hb1.mono (by simp))
  clear hb1 b0 c
  go_wp2
  go_ret
  exact ⟨rfl, b1.out⟩

set_option maxRecDepth 100000 in
set_option maxHeartbeats 2000000 in
theorem step_none (p : Value) (kd on a b n : Int) (s : ByteArray) (l0 l1 l2 : Int) (w : World) (hk : kd < 1) :
    Calls Tryd.prog 14 #[p, .agg #[.int .i64 kd, .int .i64 on, .int .i64 a, .int .i64 b, .int .u64 n, .string s, .int .i64 l0, .int .i64 l1, .int .i64 l2]] w fun e w' => e = .returned (.bool true) ∧ Below w.heap.size w w' := by
  have b10 : (kd == 10) = false := by rw [beq_eq_false_iff_ne]; omega
  have b11 : (kd == 11) = false := by rw [beq_eq_false_iff_ne]; omega
  have b12 : (kd == 12) = false := by rw [beq_eq_false_iff_ne]; omega
  go_enter Tryd.func14, Tryd.ntmps14
  go_wp2
  go_ret
  exact ⟨rfl, (Below.refl _ w).alloc (Nat.le_refl _) _⟩

set_option maxRecDepth 100000 in
set_option maxHeartbeats 2000000 in
theorem still_none (B : Nat) (w : World) (hl : w.cell? ⟨B, 2, none⟩ = some (.slice none 0 0)) :
    Calls Tryd.prog 15 #[.pointer (some ⟨B, 0, none⟩)] w fun e w' => e = .returned (.bool true) ∧ w' = w := by
  go_enter Tryd.func15, Tryd.ntmps15
  go_wp2
  go_loop [3] (fun i => i = .int .i64 0) (fun _ => 0)
  case atStart => rfl
  case round =>
    subst hrel
    go_wp2
    go_ret
    exact ⟨rfl, rfl⟩
end Go.Proofs.YtdplffhieekfaaaDoor
