/-
  stampslaw.gives, Given.
  Conditions: the law's world is in memory.
-/
import Derived.Test.YtdplffhieekfaaaDoorWorlds
import Derived.BigQuiet
import Derived.Deep.Cut
import Derived.Deep.RegionHeld3
namespace Go.Proofs.YtdplffhieekfaaaDoor
open Go.RowKit

set_option maxRecDepth 100000 in
set_option maxHeartbeats 4000000 in
theorem gives_given {t : Nat} {W : World} {L : LB} {sd : Nat → Dk} {Ls Ms : List Value} {c : Int} (hI : LawIn t W L sd Ls Ms c) (hn : 0 < L.n) (on a b n : Int) (s : ByteArray) (l0 l1 l2 : Int) (o0 : -9223372036854775808 ≤ on) (o1 : on ≤ 9223372036854775807) :
    Calls Tryd.prog 25 #[.pointer (some ⟨L.B, 0, none⟩), .agg #[.int .i64 9, .int .i64 on, .int .i64 a, .int .i64 b, .int .u64 n, .string s, .int .i64 l0, .int .i64 l1, .int .i64 l2]] W fun e W' => e = .returned (.bool true) ∧ Stepped t W W' L := by
  obtain ⟨g, cap, k, hP, hpick⟩ := hI.picked hn on o0 o1
  obtain ⟨hkn, h12, p0, pd, pr⟩ := hP
  have hBlt : L.B < W.heap.size := (hI.dw.base .own _ rfl).2
  have hglt : g < W.heap.size := block_lt_of_cell pd
  have hL0 : ((L.n : Int) == 0) = false := by rw [beq_eq_false_iff_ne]; omega
  replace hI : Hid _ := hI
  go_enter Tryd.func25, Tryd.ntmps25
  go_upto_region 11 with fail
  go_cut [9] from 80 (fun x wx => ∃ X : Nat, x = .pointer (some ⟨X, 0, none⟩) ∧ Hid (XAt (W.alloc (.cells #[.int .i64 9, .int .i64 on, .int .i64 a, .int .i64 b, .int .u64 n, .string s, .int .i64 l0, .int .i64 l1, .int .i64 l2] 46)) wx L k X))
  case first =>
    go_region_held3 (fun w' => w'.cell? ⟨L.B, 0, none⟩ = some (.slice (some ⟨g, 0, none⟩) L.n cap) ∧ w'.cell? ⟨W.heap.size, 1, none⟩ = some (.int .i64 on) ∧ w'.cell? ⟨g, k * 2, none⟩ = some (.pointer (some ⟨L.dk k, 0, none⟩)) ∧ w'.cell? ⟨g, k * 2 + 1, none⟩ = some (.pointer (some ⟨L.rf k, 0, none⟩))) (go_keep)
      (first | (go_at_call 46; refine (hpick _).mono ?_; rintro e w6 ⟨rfl, rfl⟩))
    all_goals
      go_wp2_with fail
      go_meet
      exact ⟨_, rfl, xat_of _ L k _ _ (by simp)⟩
  case rest =>
  obtain ⟨X, rfl, hX⟩ := hcut
  obtain ⟨hJ, hWent, _, hle, hX0, xd, xr, q0, ⟨q2, q3, q6, q7, q8⟩, hdl, hrl⟩ := hI.out.atPick hkn hX.out
  have hg := hJ.given k hkn
  have hdk := hJ.dw.but.dsk k hkn id id
  have hfr : Hid _ := hJ.dw.fresh k hkn
  have hok : Hid _ := hdk.ok
  have hlen := hJ.len
  have hc0 := hJ.c0
  have hc1 := hJ.c1
  replace hJ : Hid _ := hJ
  replace hWent : Hid _ := hWent
  replace hdl : Hid _ := hdl
  replace hrl : Hid _ := hrl
  clear hX hpick p0 pd pr hI hglt hBlt hL0 hle
  have hc7 : wc.cell? ⟨L.dk k, 7, none⟩ = some (.int .i64 (sd k).given) := by obtain ⟨_, made, _, hcl, _⟩ := hdk; exact hcl.c7
  have hr6 : wc.cell? ⟨L.rf k, 6, none⟩ = some (.int .i64 (sd k).given) := (hJ.out.dw.but.ref k hkn id).c6
  have hgv := given_any (L.dk k) (sd k).given wc hc7
  have hfin : Hid (Stepped t W wc L) := ⟨_, _, _, _, _, hJ.out.later, hWent.out⟩
  clear hdk hc7
  go_wp2_with fail
  refine hgv.mono ?_
  rintro e w1 ⟨rfl, rfl⟩
  clear hgv
  go_wp2
  go_ret
  exact ⟨rfl, hfin.out⟩
end Go.Proofs.YtdplffhieekfaaaDoor
