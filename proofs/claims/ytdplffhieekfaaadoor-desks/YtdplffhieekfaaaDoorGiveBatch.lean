/-
  stampslaw.gives, Batch.
  Conditions: the law's world is in memory.
-/
import Derived.Test.YtdplffhieekfaaaDoorWorlds
import Derived.BigQuiet
import Derived.Deep.Cut
import Derived.Deep.RegionHeld3
namespace Go.Proofs.YtdplffhieekfaaaDoor
open Go.RowKit

set_option maxRecDepth 100000 in
set_option maxHeartbeats 4000000 in
theorem gives_batch {t : Nat} {W : World} {L : LB} {sd : Nat → Dk} {Ls Ms : List Value} {c : Int} (hI : LawIn t W L sd Ls Ms c) (ht : t ≤ 2200000000000) (hn : 0 < L.n) (on a b n : Int) (s : ByteArray) (l0 l1 l2 : Int) (o0 : -9223372036854775808 ≤ on) (o1 : on ≤ 9223372036854775807) (a0 : -9223372036854775808 ≤ a) (a1 : a ≤ 9223372036854775807) :
    Calls Tryd.prog 25 #[.pointer (some ⟨L.B, 0, none⟩), .agg #[.int .i64 7, .int .i64 on, .int .i64 a, .int .i64 b, .int .u64 n, .string s, .int .i64 l0, .int .i64 l1, .int .i64 l2]] W fun e W' => e = .returned (.bool true) ∧ Stepped t W W' L := by
  obtain ⟨g, cap, k, hP, hpick⟩ := hI.picked hn on o0 o1
  obtain ⟨hkn, h12, p0, pd, pr⟩ := hP
  have hBlt : L.B < W.heap.size := (hI.dw.base .own _ rfl).2
  have hglt : g < W.heap.size := block_lt_of_cell pd
  have hL0 : ((L.n : Int) == 0) = false := by rw [beq_eq_false_iff_ne]; omega
  replace hI : Hid _ := hI
  go_enter Tryd.func25, Tryd.ntmps25
  go_upto_region 11 with fail
  go_cut [9] from 80 (fun x wx => ∃ X : Nat, x = .pointer (some ⟨X, 0, none⟩) ∧ Hid (XAt (W.alloc (.cells #[.int .i64 7, .int .i64 on, .int .i64 a, .int .i64 b, .int .u64 n, .string s, .int .i64 l0, .int .i64 l1, .int .i64 l2] 46)) wx L k X))
  case first =>
    go_region_held3 (fun w' => w'.cell? ⟨L.B, 0, none⟩ = some (.slice (some ⟨g, 0, none⟩) L.n cap) ∧ w'.cell? ⟨W.heap.size, 1, none⟩ = some (.int .i64 on) ∧ w'.cell? ⟨g, k * 2, none⟩ = some (.pointer (some ⟨L.dk k, 0, none⟩)) ∧ w'.cell? ⟨g, k * 2 + 1, none⟩ = some (.pointer (some ⟨L.rf k, 0, none⟩))) (go_keep)
      (first | (go_at_call 46; refine (hpick _).mono ?_; rintro e w6 ⟨rfl, rfl⟩))
    all_goals
      go_wp2_with fail
      go_meet
      exact ⟨_, rfl, xat_of _ L k _ _ (by simp)⟩
  case rest =>
  obtain ⟨X, rfl, hX⟩ := hcut
  obtain ⟨hJ, hWent, _, hle, hX0, xd, xr, q0, ⟨q2, q3, q6, q7, q8⟩, hdl, hrl⟩ := hI.out.atPick hkn hX.out
  have hg := hJ.given k hkn
  have hdk := hJ.dw.but.dsk k hkn id id
  have hfr : Hid _ := hJ.dw.fresh k hkn
  have hok : Hid _ := hdk.ok
  have hlen := hJ.len
  have hc0 := hJ.c0
  have hc1 := hJ.c1
  replace hJ : Hid _ := hJ
  replace hWent : Hid _ := hWent
  replace hdl : Hid _ := hdl
  replace hrl : Hid _ := hrl
  clear hX hpick p0 pd pr hI hglt hBlt hL0 hle
  have hnx := hdk.batch_all a b a0 hg.1 (by omega)
  have hbl : Hid (bLen (sd k) a b ≤ 10000) := bLen_le (sd k) a b
  clear hdk
  go_wp2_with fail
  refine hnx.mono ?_
  rintro e w1 ⟨l, rfl, hl1, ⟨c', hc', hd1⟩, k1⟩
  have hrx := (hJ.out.dw.refKeep hkn k1).batch_all hok.out hfr.out a b a0 a1 hg.1 (by omega)
  have xr1 : w1.cell? ⟨X, 1, none⟩ = some (.pointer (some ⟨L.rf k, 0, none⟩)) := keep_new k1 hdl.out 1 hX0 xr
  have q21 : w1.cell? ⟨W.heap.size, 2, none⟩ = some (.int .i64 a) := keep_new k1 hdl.out 2 (Nat.le_refl _) q2
  have q31 : w1.cell? ⟨W.heap.size, 3, none⟩ = some (.int .i64 b) := keep_new k1 hdl.out 3 (Nat.le_refl _) q3
  replace hc' : Hid _ := hc'
  replace hd1 : Hid _ := hd1
  replace k1 : Hid _ := k1
  have hl1' : Hid (w1.ownsRow wc.heap.size 25 1 l (bLen (sd k) a b) (numCells (sd k) a (bLen (sd k) a b))) := hl1
  clear hnx xd xr q0 q2 q3 q6 q7 q8 hl1
  obtain ⟨la, lcap, hla⟩ := owns_slice hl1'.out
  subst hla
  go_wp2_with fail
  refine hrx.mono ?_
  rintro e w2 ⟨r, rfl, hl2, hr2, k2⟩
  have hrg : Hid (∀ i, wc.heap.size ≤ i → ¬ i = L.rf k) := fun i hi e => by have := hrl.out i e; have := hWent.out.keep.size; omega
  have m1 : Hid (w2.ownsRow wc.heap.size 25 1 (.slice la (bLen (sd k) a b) lcap) (bLen (sd k) a b) (numCells (sd k) a (bLen (sd k) a b))) := owns_keep hl1'.out k2 hrg.out
  have m2 : Hid (w2.ownsRow (w1.heap.size + 1) 25 1 r (bLen (sd k) a b) (numCells (sd k) a (bLen (sd k) a b))) := hl2
  obtain ⟨ra, rcap, hra⟩ := owns_slice hl2
  subst hra
  have hgg : Hid ((sd k).given ≤ ((sd k).runG a (bLen (sd k) a b)).given ∧ ((sd k).runG a (bLen (sd k) a b)).given ≤ (sd k).given + 10000) := by
    have := hbl.out
    show (sd k).given ≤ (sd k).given + ((bLen (sd k) a b : Nat) : Int) ∧ (sd k).given + ((bLen (sd k) a b : Nat) : Int) ≤ (sd k).given + 10000
    omega
  have hff : Hid ((sd k).runG a (bLen (sd k) a b)).Fresh := runG_fresh hok.out hfr.out a _
  replace hr2 : Hid _ := hr2
  replace k2 : Hid _ := k2
  clear hrx xr1 q21 q31 hl2
  have hrows : Hid (∀ w3, Below w2.heap.size w2 w3 → RowsAt w3 L.B L.lv L.mv Ls.length Ls Ms c ∧ Ms.length = Ls.length ∧ w3.ownsRow (L.B + 1) 25 1 (.slice la (bLen (sd k) a b) lcap) (bLen (sd k) a b) (numCells (sd k) a (bLen (sd k) a b))) := fun w3 hb => by
    have h2 := (hJ.out.desked hkn hc'.out hd1.out k1.out hr2.out k2.out hff.out hgg.out.1 hgg.out.2).1
    have h3 := (h2.below hb).1.dw
    refine ⟨h3.rows, h3.but.rds.len, owns_base (owns_stay m1.out (fun x hx => hb.block x (owns_in m1.out x hx).2)) ?_⟩
    exact (hJ.out.dw.base .own _ rfl).2
  have hap : Hid (∀ g, (Value.slice la (bLen (sd k) a b) lcap).ownBlock = some g → L.lv.ownBlock ≠ some g ∧ L.mv.ownBlock ≠ some g) := fun g hg => by
    have := hJ.out.apartList hkn hc'.out hd1.out hl1'.out g hg
    exact ⟨this.2.2.1 .lists, this.2.2.1 .marks⟩
  have hfin : Hid (∀ w3 w4 x lv' mv' lc N4, Below w2.heap.size w2 w3 → N4.length = 4 → KS w3 L.B L.lv L.mv (.slice la (bLen (sd k) a b) lcap) x (c + 1) w4 lv' mv' lc (Ls ++ N4) (Ms ++ List.replicate 4 (.int .u64 x)) (bLen (sd k) a b + 4) N4 → Stepped t W w4 L) := fun w3 w4 x lv' mv' lc N4 hb hN hK =>
    listed_fin hJ.out hWent.out hkn hc'.out hd1.out k1.out hr2.out k2.out hff.out hgg.out.1 hgg.out.2 hl1'.out hb hbl.out hN hK
  have hnum : Hid (∀ j, j < bLen (sd k) a b → (numCells (sd k) a (bLen (sd k) a b))[j]? = some (.int .u64 (numAt (sd k) a j))) := fun j hj => by
    unfold numCells
    rw [List.getElem?_map, List.getElem?_range hj]
    rfl
  clear hl1' hc' hd1 k1 hr2 k2 hrg hgg hff
  generalize numCells (sd k) a (bLen (sd k) a b) = xs at *
  generalize bLen (sd k) a b = m at *
  have hlen1 := fun w ty => len_row m lcap la w ty
  have hlen2 := fun w ty => len_row m rcap ra w ty
  go_wp2_with fail
  go_loopw [18, 19] (fun ok i V => ∃ j : Nat, j ≤ m ∧ ok = .bool true ∧ i = .int .i64 j ∧ Hid (∃ nq, V = w2.drewN nq)) (fun _ i _ => m - (intOf i).toNat)
  case atStart => exact ⟨0, by omega, rfl, rfl, 0, rfl⟩
  case round =>
    obtain ⟨j, hj, rfl, rfl, hV⟩ := hrel
    by_cases hlt : j < m
    · have hm : m ≤ 10000 := hbl.out
      obtain ⟨g1, cp1, e1⟩ := owns_some m1.out (by omega)
      obtain ⟨g2, cp2, e2⟩ := owns_some m2.out (by omega)
      simp only [Value.slice.injEq] at e1 e2
      obtain ⟨rfl, _, rfl⟩ := e1
      obtain ⟨rfl, _, rfl⟩ := e2
      have d1 : wr.cell? ⟨g1, j, none⟩ = some (.int .u64 (numAt (sd k) a j)) := by
        obtain ⟨nq, rfl⟩ := hV.out
        have := m1.out.cells (g := g1) rfl j _ (hnum.out j hlt)
        rwa [addr_add0] at this
      have d2 : wr.cell? ⟨g2, j, none⟩ = some (.int .u64 (numAt (sd k) a j)) := by
        obtain ⟨nq, rfl⟩ := hV.out
        have := m2.out.cells (g := g2) rfl j _ (hnum.out j hlt)
        rwa [addr_add0] at this
      generalize numAt (sd k) a j = x at *
      go_wp2_with fail
      go_quiet (fail)
      go_wp2
      refine ⟨⟨j + 1, by omega, rfl, by go_num, ?_⟩, by simp [intOf]; omega⟩
      obtain ⟨n1, h1⟩ := hV.out
      exact ⟨n1 + nq, by rw [h1]; simp [World.drewN, Nat.add_assoc]⟩
    · have hjm : j = m := by omega
      subst hjm
      have hb3 : Hid (Below w2.heap.size w2 wr) := by
        obtain ⟨nq, h⟩ := hV.out
        show Below _ _ _
        rw [h]
        exact below_drewN (Below.refl _ _) nq
      obtain ⟨r1, r2, r3⟩ := hrows.out wr hb3.out
      have hkp := keeps_any wr L.B L.lv L.mv _ j Ls Ms xs c r1 r2 r3 hbl.out hc0 (by omega) hap.out (by omega)
      clear r1 r2 r3 hlt hV
      go_wp2_with fail
      refine hkp.mono ?_
      rintro e w4 ⟨rfl, lv', mv', lc, N4, hN, hK⟩
      have hfn : Hid (Stepped t W w4 L) := hfin.out wr w4 _ lv' mv' lc N4 hb3.out hN hK
      clear hkp hN hK
      go_wp2
      go_ret
      exact ⟨rfl, hfn.out⟩
end Go.Proofs.YtdplffhieekfaaaDoor
