/-
  stampskeep.awake answers true: a desk gives its first number, and that has its parts.
-/
import Derived.Test.YtdplffhieekfaaaNew
namespace Go.Proofs.Ytdplffhieekfaaa
open Go.RowKit Go.Conc

theorem awake_next {w : World} {k : Nat} (h : DeskAt w k none (newDk 2 100 200 5)) :
    Calls Try.prog 14 #[.pointer (some ⟨k, 0, none⟩), .int .i64 150] w fun e w' => e = .returned (.tuple #[.int .u64 629153792, .int .i64 0]) ∧ Keep (fun i => i = k) w w' := by
  refine (h.next_yes 150 (by omega) (by decide) (by decide) (by decide)).mono ?_
  rintro e w' ⟨rfl, c', _, _, hk⟩
  exact ⟨rfl, hk.mono (fun i _ hi => by rcases hi with hi | hi; exact hi; cases hi)⟩

set_option maxHeartbeats 400000 in
theorem awake_any (w : World) : Calls Try.prog 9 #[] w fun e w' => e = .returned (.bool true) ∧ Below w.heap.size w w' := by
  go_enter Try.func9, Try.ntmps9
  go_wp2_with (first | (go_at_call 13; refine (newDesk_yes 2 100 200 5 _ ⟨by omega, by omega, by omega, by omega, by omega⟩ (by omega) (by omega)).mono ?_; rintro e w1 ⟨k, hk, rfl, hd, hb⟩; have hb' : Hid _ := hb; clear hb) | (go_at_call 14; refine (awake_next hd).mono ?_; rintro e w2 ⟨rfl, hkp⟩; have hkp' : Hid _ := hkp; clear hkp) | (go_at_call 10; refine (parts_ok _ _ (by omega) (by omega)).mono ?_; rintro e w3 ⟨rfl, hb3⟩))
  go_ret
  have h1 := hb'.out
  have h2 := hkp'.out
  have s1 := h1.size
  have s2 := h2.size
  have s3 := hb3.size
  exact ⟨rfl, (((h1.trans (h2.below s1 (fun i hi => by omega))).trans (hb3.mono (by omega))).alloc (by omega) _)⟩

end Go.Proofs.Ytdplffhieekfaaa
