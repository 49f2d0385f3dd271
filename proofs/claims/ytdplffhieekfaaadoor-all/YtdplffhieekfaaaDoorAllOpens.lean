/-
  stampslaw.opens.
  Conditions: the law's world is in memory.
-/
import Derived.Test.YtdplffhieekfaaaDoorAlls
import Derived.Deep.DeepCutAuto
import Derived.Deep.RegionLaw
import Derived.Deep.AppendLies
namespace Go.Proofs.YtdplffhieekfaaaDoor
open Go.RowKit Go.Maps Go.Lib

/-- Of what a new office begins: of nothing, or of an office's journal. -/
structure Begun (t : Nat) (O : OB) (d : Nat → Od) (z : Value) (ls0 : List L3) (sz : Nat) : Prop where
  le : sz ≤ 13 * ls0.length
  good : Good (recs ls0)
  len : ls0.length ≤ t
  from_ : (z = .pointer none ∧ ls0 = []) ∨ ∃ k, k < O.n ∧ z = .pointer (some ⟨(O.one k).box, 0, none⟩) ∧ ls0 = (d k).ls

def spanI (b : Int) : Int := if b < 0 then -(b + 1) else b

theorem ROffAt.base {w : World} {B B' r span ns : Nat} {vL vS : Value} {ls : List L3} (h : ROffAt w B' r span vL vS ls ns) (hb : B ≤ B') : ROffAt w B r span vL vS ls ns :=
  ⟨h.c0, h.c1, h.c2, h.fz, owns_base h.leases hb, owns_base h.sizes hb, h.rl, h.rz, h.lz⟩

/-- A new office beside the document's. -/
structure Made (W wx : World) (bb mm gg cp R span : Nat) (vL vS : Value) (ls : List L3) (K : Nat) : Prop where
  office : OfficeAt wx bb mm gg cp span (recs ls)
  ref : ROffAt wx (R + 1) R span vL vS ls K
  b : W.heap.size ≤ bb ∧ bb < R
  m : W.heap.size ≤ mm ∧ mm < R
  g : W.heap.size ≤ gg ∧ gg < R
  bel : Below W.heap.size W wx
  len : ls.length = K

theorem Made.below {W wx w' : World} {bb mm gg cp R span : Nat} {vL vS : Value} {ls : List L3} {K : Nat} (h : Made W wx bb mm gg cp R span vL vS ls K) (hb : Below wx.heap.size wx w') : Made W w' bb mm gg cp R span vL vS ls K := by
  have hl := h.office.lt
  exact ⟨h.office.on (hb.block _ hl.1) (hb.block _ hl.2.1) (hb.block _ hl.2.2), h.ref.on (hb.block _ (block_lt_of_cell h.ref.c0)) (fun x hx => hb.block x (owns_in h.ref.leases x hx).2) (fun x hx => hb.block x (owns_in h.ref.sizes x hx).2), h.b, h.m, h.g, h.bel.trans (hb.mono h.bel.size), h.len⟩

def Made.one_ (V : World) (bb mm gg cp R : Nat) (vL vS : Value) : One := ⟨V.heap.size, bb, mm, gg, cp, R, vL, vS⟩

/-- It is one more of the law's. -/
theorem Made.more {W V : World} {bb mm gg cp R span : Nat} {vL vS : Value} {ls : List L3} {K B : Nat} (h : Made W V bb mm gg cp R span vL vS ls K) (hB : B < W.heap.size) (T : TypeId) {S : ByteArray} (hS : S = btext (jtext (recs ls))) :
    (∀ p x, (Made.one_ V bb mm gg cp R vL vS).at p = some x → W.heap.size ≤ x) ∧ (∀ p q x, (Made.one_ V bb mm gg cp R vL vS).at p = some x → (Made.one_ V bb mm gg cp R vL vS).at q = some x → p = q) ∧
      OneAt (V.alloc (.cells #[.pointer (some ⟨bb, 0, none⟩), .pointer (some ⟨R, 0, none⟩), .string S] T)) B (Made.one_ V bb mm gg cp R vL vS) ⟨span, ls⟩ := by
  have hRl : R < V.heap.size := block_lt_of_cell h.ref.c0
  have hL := owns_in h.ref.leases
  have hZ := owns_in h.ref.sizes
  have hbm := h.office.bm
  have hbg := h.office.bg
  have hgm := h.office.gm
  obtain ⟨b1, b2⟩ := h.b
  obtain ⟨m1, m2⟩ := h.m
  obtain ⟨g1, g2⟩ := h.g
  have at_ : ∀ p x, (Made.one_ V bb mm gg cp R vL vS).at p = some x → (p = .box ∧ x = V.heap.size) ∨ (p = .off ∧ x = bb) ∨ (p = .map ∧ x = mm) ∨ (p = .bytes ∧ x = gg) ∨ (p = .ref ∧ x = R) ∨ (p = .leases ∧ vL.ownBlock = some x ∧ R + 1 ≤ x ∧ x < V.heap.size) ∨ (p = .sizes ∧ vS.ownBlock = some x ∧ R + 1 ≤ x ∧ x < V.heap.size) := fun p x hp => by
    cases p with
    | box => exact Or.inl ⟨rfl, (Option.some.inj hp).symm⟩
    | off => exact Or.inr (Or.inl ⟨rfl, (Option.some.inj hp).symm⟩)
    | map => exact Or.inr (Or.inr (Or.inl ⟨rfl, (Option.some.inj hp).symm⟩))
    | bytes => exact Or.inr (Or.inr (Or.inr (Or.inl ⟨rfl, (Option.some.inj hp).symm⟩)))
    | ref => exact Or.inr (Or.inr (Or.inr (Or.inr (Or.inl ⟨rfl, (Option.some.inj hp).symm⟩))))
    | leases => exact Or.inr (Or.inr (Or.inr (Or.inr (Or.inr (Or.inl ⟨rfl, hp, hL x hp⟩)))))
    | sizes => exact Or.inr (Or.inr (Or.inr (Or.inr (Or.inr (Or.inr ⟨rfl, hp, hZ x hp⟩)))))
  have hc := cell_alloc_new V #[.pointer (some ⟨bb, 0, none⟩), .pointer (some ⟨R, 0, none⟩), .string S] T
  have hm := h.below ((Below.refl _ V).alloc (Nat.le_refl _) (.cells #[.pointer (some ⟨bb, 0, none⟩), .pointer (some ⟨R, 0, none⟩), .string S] T))
  have hbel := h.bel.size
  refine ⟨fun p x hp => ?_, fun p q x hp hq => ?_, ⟨(hc 0).1, (hc 1).1, by rw [← hS]; exact (hc 2).1, fun y => (hc y).2, hm.office, ?_⟩⟩
  · rcases at_ p x hp with ⟨_, e⟩ | ⟨_, e⟩ | ⟨_, e⟩ | ⟨_, e⟩ | ⟨_, e⟩ | ⟨_, _, e, _⟩ | ⟨_, _, e, _⟩ <;> omega
  · rcases at_ p x hp with ⟨rfl, e⟩ | ⟨rfl, e⟩ | ⟨rfl, e⟩ | ⟨rfl, e⟩ | ⟨rfl, e⟩ | ⟨rfl, v1, e, e'⟩ | ⟨rfl, v1, e, e'⟩ <;> rcases at_ q x hq with ⟨rfl, f⟩ | ⟨rfl, f⟩ | ⟨rfl, f⟩ | ⟨rfl, f⟩ | ⟨rfl, f⟩ | ⟨rfl, v2, f, f'⟩ | ⟨rfl, v2, f, f'⟩ <;> first | rfl | (exfalso; omega) | (exfalso; exact h.ref.lz x v1 v2) | (exfalso; exact h.ref.lz x v2 v1)
  · have := hm.ref.base (B := B + 1) (by omega)
    have e : (⟨span, ls⟩ : Od).ls.length = K := h.len
    rw [e]
    exact this

theorem office_info : (Tryd.prog.info? 94).map (fun i => (i.zero, i.size, i.bytes)) = some (some (.pointer none), 1, 8) := by kernel_rfl

set_option maxRecDepth 100000 in
set_option maxHeartbeats 8000000 in
theorem opens_any {t : Nat} {W : World} {L : LB} {sd : Nat → Dk} {Ls Ms : List Value} {c : Int} {O : OB} {d : Nat → Od} (hI : AllIn t W L sd Ls Ms c O d) (ht : t ≤ 2200000000000) (on a b n : Int) (s : ByteArray) (l0 l1 l2 : Int) (o0 : -9223372036854775808 ≤ on) (o1 : on ≤ 9223372036854775807) (a0 : -9223372036854775808 ≤ a) (a1 : a ≤ 9223372036854775807) (b0 : -9223372036854775808 ≤ b) (b1 : b ≤ 9223372036854775807) :
    Calls Tryd.prog 26 #[.pointer (some ⟨L.B, 0, none⟩), .agg #[.int .i64 10, .int .i64 on, .int .i64 a, .int .i64 b, .int .u64 n, .string s, .int .i64 l0, .int .i64 l1, .int .i64 l2]] W fun e W' => e = .returned (.bool true) ∧ AllStepped t W W' L.B := by
  have hBlt : L.B < W.heap.size := (hI.law.dw.base .own _ rfl).2
  obtain ⟨va, vcap, hvO⟩ := owns_slice hI.off.row
  have x1 := hI.off.x1
  rw [hvO] at x1
  have n12 : (O.n : Int) ≤ 12 := by have := hI.off.n12; omega
  have hcn := fun x => (cell_alloc_new W #[.int .i64 10, .int .i64 on, .int .i64 a, .int .i64 b, .int .u64 n, .string s, .int .i64 l0, .int .i64 l1, .int .i64 l2] 46 x).1
  have hbA : Hid (Below W.heap.size W (W.alloc (.cells #[.int .i64 10, .int .i64 on, .int .i64 a, .int .i64 b, .int .u64 n, .string s, .int .i64 l0, .int .i64 l1, .int .i64 l2] 46))) := (Below.refl _ W).alloc (Nat.le_refl _) _
  replace hcn : Hid _ := hcn
  replace hvO : Hid _ := hvO
  have hIh : Hid _ := hI
  clear hI
  go_enter Tryd.func26, Tryd.ntmps26
  go_upto_region 4 with fail
  go_cut [24] (fun cc wx => cc = .bool (decide (0 < O.n ∧ 0 ≤ b)) ∧ wx = W.alloc (.cells #[.int .i64 10, .int .i64 on, .int .i64 a, .int .i64 b, .int .u64 n, .string s, .int .i64 l0, .int .i64 l1, .int .i64 l2] 46))
  case first =>
    by_cases hn : 0 < O.n
    · have hnI : (0 : Int) < (O.n : Int) := by omega
      by_cases hb0 : 0 ≤ b
      · go_wp2_with fail
        go_meet
        exact ⟨by simp [hn, hb0], rfl⟩
      · go_wp2_with fail
        go_meet
        exact ⟨by simp; omega, rfl⟩
    · have hnI : ¬ (0 : Int) < (O.n : Int) := by omega
      go_wp2_with fail
      go_meet
      exact ⟨by simp [hn], rfl⟩
  case rest =>
  obtain ⟨rfl, rfl⟩ := hcut
  go_upto_if 24 with fail
  go_cut [5, 6, 7] (fun x y z wx => ∃ (ls0 : List L3) (sz : Nat) (T : ByteArray), x = .string T ∧ y = .int .i64 sz ∧ Hid (T = btext ((jtext (recs ls0)).take sz)) ∧ Hid (Begun t O d z ls0 sz) ∧ Hid (Below W.heap.size W wx) ∧ Hid (wx.cell? ⟨W.heap.size, 3, none⟩ = some (.int .i64 b)))
  case first =>
    have hnone : Hid (Begun t O d (.pointer none) [] 0) := ⟨Nat.zero_le _, good_nil, Nat.zero_le _, Or.inl ⟨rfl, rfl⟩⟩
    by_cases hf : 0 < O.n ∧ 0 ≤ b
    · rw [decide_eq_true hf]
      obtain ⟨hn, hb0⟩ := hf
      · obtain ⟨g, cap, k, hk, p1, pk, hpick⟩ := hIh.out.pickedO hn on o0 o1
        have hglt : g < W.heap.size := block_lt_of_cell pk
        have hk0 : (0 : Int) ≤ (k : Int) := by omega
        have hk1 : (k : Int) < (O.n : Int) := by omega
        have hnI : (0 : Int) < (O.n : Int) := by omega
        have hst0 := hIh.out.st hk
        have hlen := hIh.out.len k hk
        obtain ⟨S1, hS1⟩ : ∃ S1, S1 = btext (jtext (recs (d k).ls)) := ⟨_, rfl⟩
        have hm : S1.size = 13 * (d k).ls.length := by rw [hS1, btext_size, jtext_length, recs_length]
        obtain ⟨m, hmm⟩ : ∃ m, m = 13 * (d k).ls.length := ⟨_, rfl⟩
        rw [← hmm] at hm
        obtain ⟨q0, q1⟩ := pickI_range a ((m : Int) + 1) (by omega)
        obtain ⟨sz, hsz⟩ : ∃ sz : Nat, pickI a ((m : Int) + 1) = sz := ⟨(pickI a ((m : Int) + 1)).toNat, by omega⟩
        have hpick2 := fun w => lpick_any a ((m : Int) + 1) w a0 a1 (by omega)
        rw [hsz] at hpick2 q1
        have hszI : (sz : Int) ≤ (m : Int) := by omega
        have hmI : (m : Int) ≤ 28600000000000 := by omega
        have hsz0 : (0 : Int) ≤ (sz : Int) := by omega
        obtain ⟨T1, hT1⟩ : ∃ T1, T1 = S1.extract 0 sz := ⟨_, rfl⟩
        have hbeg : Hid (Begun t O d (.pointer (some ⟨(O.one k).box, 0, none⟩)) (d k).ls sz) := ⟨by omega, hst0.off.good, hlen, Or.inr ⟨k, hk, rfl, rfl⟩⟩
        have hTT : Hid (T1 = btext ((jtext (recs (d k).ls)).take sz)) := by show _ = _; rw [hT1, hS1, btext_take]
        have hT1' : S1.extract 0 sz = T1 := hT1.symm
        have hbt : (O.one k).box < W.heap.size := hst0.lt .box _ rfl
        have t2 : W.cell? ⟨(O.one k).box, 2, none⟩ = some (.string S1) := by rw [hS1]; exact hst0.t2
        replace hS1 : Hid _ := hS1
        replace hmm : Hid _ := hmm
        clear hst0 hsz q0 q1 hT1 hlen hnone x1
        generalize (O.one k).box = bx at *
        go_wp2_with fail
        go_quiet ((go_at_call 46; exact Calls.quiet_of_same (hpick _)))
        obtain ⟨V, hV⟩ : ∃ V, V = (W.alloc (.cells #[.int .i64 10, .int .i64 on, .int .i64 a, .int .i64 b, .int .u64 n, .string s, .int .i64 l0, .int .i64 l1, .int .i64 l2] 46)).drewN nq := ⟨_, rfl⟩
        rw [← hV]
        have hbV : Hid (Below W.heap.size W V) := by show Below _ _ _; rw [hV]; exact below_drewN hbA.out nq
        have v2 : V.cell? ⟨W.heap.size, 2, none⟩ = some (.int .i64 a) := by rw [hV]; exact hcn.out 2
        have v3 : V.cell? ⟨W.heap.size, 3, none⟩ = some (.int .i64 b) := by rw [hV]; exact hcn.out 3
        have u2 : V.cell? ⟨bx, 2, none⟩ = some (.string S1) := kept_cell hbV.out hbt t2
        replace hV : Hid _ := hV
        clear p1 pk hpick t2 hk0 hk1
        go_wp2_with fail
        go_quiet ((go_at_call 46; exact Calls.quiet_of_same (hpick2 _)))
        obtain ⟨V2, hV2⟩ : ∃ V2, V2 = V.drewN nq := ⟨_, rfl⟩
        rw [← hV2]
        have hbV2 : Hid (Below W.heap.size W V2) := by show Below _ _ _; rw [hV2]; exact below_drewN hbV.out nq
        have w3 : Hid (V2.cell? ⟨W.heap.size, 3, none⟩ = some (.int .i64 b)) := by show _ = _; rw [hV2]; exact v3
        have w2 : V2.cell? ⟨bx, 2, none⟩ = some (.string S1) := by rw [hV2]; exact u2
        replace hV2 : Hid _ := hV2
        clear v2 v3 u2 hpick2
        go_wp2_with fail
        go_meet
        exact ⟨_, sz, T1, rfl, rfl, hTT, hbeg, hbV2, w3⟩
    · rw [decide_eq_false hf]
      go_wp2_with fail
      go_meet
      exact ⟨[], 0, _, rfl, rfl, rfl, hnone, hbA, hcn.out 3⟩
  case rest =>
  obtain ⟨ls0, sz, T, rfl, rfl, hT, hbeg, hbW, hc3⟩ := hcut
  have c3 := hc3.out
  clear hcn hbA hc3
  go_upto_if 57 with fail
  go_cut [8] (fun y wx => y = .int .i64 (spanI b) ∧ wx = wc)
  case first =>
    by_cases hb : b < 0
    · go_wp2_with fail
      go_meet
      exact ⟨congrArg (Value.int IntKind.i64) (by unfold spanI; split <;> omega), rfl⟩
    · go_wp2_with fail
      go_meet
      exact ⟨congrArg (Value.int IntKind.i64) (by unfold spanI; split <;> omega), rfl⟩
  case rest =>
  obtain ⟨rfl, hw⟩ := hcut
  subst hw
  clear c3
  generalize spanI b = sp at *
  by_cases hsp : sp < 1 ∨ 1000000 < sp
  · have hno := fun w => newOffice_span T sp w hsp
    have hfin : Hid (∀ w', Below wc.heap.size wc w' → AllStepped t W w' L.B) := fun w' hw => hIh.out.idle (hbW.out.trans (hw.mono hbW.out.size))
    clear hIh hbeg hT x1
    by_cases h1 : sp < 1
    · clear hsp
      go_wp2_with fail
      refine (hno _).mono ?_
      rintro e w2 ⟨rfl, hb2⟩
      have hfn : Hid _ := hfin.out w2 hb2
      clear hno hb2
      go_wp2
      go_ret
      exact ⟨rfl, hfn.out⟩
    · have h2 : 1000000 < sp := by omega
      clear hsp
      go_wp2_with fail
      refine (hno _).mono ?_
      rintro e w2 ⟨rfl, hb2⟩
      have hfn : Hid _ := hfin.out w2 hb2
      clear hno hb2
      go_wp2
      go_ret
      exact ⟨rfl, hfn.out⟩
  · obtain ⟨span, rfl⟩ : ∃ span : Nat, sp = span := ⟨sp.toNat, by omega⟩
    have s1 : (1 : Int) ≤ (span : Int) := by omega
    have s2 : (span : Int) ≤ 1000000 := by omega
    clear hsp
    have hbg := hbeg.out
    have hjl : (jtext (recs ls0)).length = 13 * ls0.length := by rw [jtext_length, recs_length]
    have hno := fun w => newOffice_told (recs ls0) hbg.good sz span w (by have := hbg.le; omega) (by omega) (by omega) (by have := hbg.le; have := hbg.len; omega)
    rw [← hT.out] at hno
    obtain ⟨K, hK⟩ : ∃ K, K = sz / 13 := ⟨_, rfl⟩
    have hKl : K ≤ ls0.length := by have := hbg.le; omega
    have htk : (recs ls0).take K = recs (ls0.take K) := by simp [recs]
    rw [← hK, htk] at hno
    have hTs : Hid (T.size = sz) := by show _ = _; rw [hT.out, btext_size, List.length_take, hjl]; have := hbg.le; omega
    have hTx : Hid (T.extract 0 (13 * K) = btext (jtext (recs (ls0.take K)))) := by
      show _ = _
      rw [hT.out, btext_take, List.take_take, Nat.min_eq_left (by omega), jtext_take, htk]
    replace hjl : Hid _ := hjl
    replace htk : Hid _ := htk
    replace hK : Hid _ := hK
    have hl0 : Hid (ls0.length ≤ t) := hbg.len
    obtain ⟨fm, hfm⟩ : ∃ fm : Bool, (fm = false ∧ u7 = .pointer none ∧ ls0 = []) ∨ (fm = true ∧ ∃ k, k < O.n ∧ u7 = .pointer (some ⟨(O.one k).box, 0, none⟩) ∧ ls0 = (d k).ls) := by
      rcases hbg.from_ with ⟨e1, e2⟩ | e1
      · exact ⟨false, Or.inl ⟨rfl, e1, e2⟩⟩
      · exact ⟨true, Or.inr ⟨rfl, e1⟩⟩
    have hszl : Hid (sz ≤ 13 * ls0.length) := hbg.le
    replace hfm : Hid _ := hfm
    clear hbg hbeg
    go_wp2_with fail
    refine (hno _).mono ?_
    rintro e w2 ⟨bb, mm, gg, cp, rfl, g1, g2, g3, hO, hb2⟩
    have hbO : Hid (Below W.heap.size W w2) := hbW.out.trans (hb2.mono hbW.out.size)
    have hge : Hid (W.heap.size ≤ bb ∧ W.heap.size ≤ mm ∧ W.heap.size ≤ gg) := by have := hbW.out.size; exact ⟨by omega, by omega, by omega⟩
    replace hO : Hid _ := hO
    clear hno hb2 g1 g2 g3 hT
    go_upto_region 18 with fail
    go_cut [89] (fun cc wx => cc = .bool fm ∧ wx = w2.alloc (.cells #[.int .i64 span, .slice none 0 0, .slice none 0 0] 104))
    case first =>
      rcases hfm.out with ⟨e1, e2, _⟩ | ⟨e1, k, _, e2, _⟩
      · subst e1
        subst e2
        go_wp2_with fail
        go_meet
        exact ⟨rfl, rfl⟩
      · subst e1
        subst e2
        go_wp2_with fail
        go_meet
        exact ⟨rfl, rfl⟩
    case rest =>
    obtain ⟨rfl, rfl⟩ := hcut
    go_upto_if 89 with fail
    go_cut [11, 12] (fun r wh wx => ∃ R vL vS, r = .pointer (some ⟨R, 0, none⟩) ∧ wh = .int .i64 ((13 * K : Nat) : Int) ∧ Hid (Made W wx bb mm gg cp R span vL vS (ls0.take K) K))
    case first =>
      have hOl := hO.out.lt
      rcases hfm.out with ⟨e1, e2, e3⟩ | ⟨e1, k, hk, e2, e3⟩
      · subst e1
        clear e2
        have hK0 : K = 0 := by rw [e3] at hKl; simpa using hKl
        have hmade : Hid (Made W (w2.alloc (.cells #[.int .i64 span, .slice none 0 0, .slice none 0 0] 104)) bb mm gg cp w2.heap.size span (.slice none 0 0) (.slice none 0 0) (ls0.take K) K) := by
          have hst := OfAt.start w2 span ls0 104
          have hbl : Below w2.heap.size w2 (w2.alloc (.cells #[.int .i64 span, .slice none 0 0, .slice none 0 0] 104)) := hst.bel
          have hge' := hge.out
          refine ⟨hO.out.on (hbl.block _ hOl.1) (hbl.block _ hOl.2.1) (hbl.block _ hOl.2.2), ?_, ⟨hge'.1, hOl.1⟩, ⟨hge'.2.1, hOl.2.1⟩, ⟨hge'.2.2, hOl.2.2⟩, hbO.out.trans (hbl.mono hbO.out.size), by rw [List.length_take]; omega⟩
          rw [hK0]
          exact hst.new
        replace hK0 : Hid _ := hK0
        clear e3
        go_wp2_with fail
        go_meet
        exact ⟨_, _, _, rfl, by rw [hK0.out]; rfl, hmade⟩
      · subst e1
        subst e2
        obtain ⟨V3, hV3⟩ : ∃ V3, V3 = w2.alloc (.cells #[.int .i64 span, .slice none 0 0, .slice none 0 0] 104) := ⟨_, rfl⟩
        rw [← hV3]
        have hb3 : Below w2.heap.size w2 V3 := by rw [hV3]; exact (Below.refl _ w2).alloc (Nat.le_refl _) _
        have hbW3 : Hid (Below W.heap.size W V3) := hbO.out.trans (hb3.mono hbO.out.size)
        have hst := (hIh.out.below hbW3.out).st hk
        rw [← e3] at hst
        have t1 := hst.t1
        have hl0' := hl0.out
        have hof := of_any hst.ref sz span (hszl.out) (by omega)
        have hO3 : Hid (OfficeAt V3 bb mm gg cp span (recs (ls0.take K))) := hO.out.on (hb3.block _ hOl.1) (hb3.block _ hOl.2.1) (hb3.block _ hOl.2.2)
        have hlt3 : Hid (bb < V3.heap.size ∧ mm < V3.heap.size ∧ gg < V3.heap.size) := hO3.out.lt
        rw [← hK.out] at hof
        replace hV3 : Hid _ := hV3
        have hKI : (K : Int) ≤ 2200000000000 := by omega
        clear hst hb3 hl0' hOl
        generalize (O.one k).box = bx at *
        generalize (O.one k).ref = rf at *
        go_wp2_with fail
        refine hof.mono ?_
        rintro e w4 ⟨rfl, vL', vS', hOf⟩
        have hmade : Hid (Made W w4 bb mm gg cp V3.heap.size span vL' vS' (ls0.take K) K) := by
          have hge' := hge.out
          have hl3 := hlt3.out
          exact ⟨hO3.out.on (hOf.bel.block _ hl3.1) (hOf.bel.block _ hl3.2.1) (hOf.bel.block _ hl3.2.2), hOf.new, ⟨hge'.1, hl3.1⟩, ⟨hge'.2.1, hl3.2.1⟩, ⟨hge'.2.2, hl3.2.2⟩, hbW3.out.trans (hOf.bel.mono hbW3.out.size), by rw [List.length_take]; omega⟩
        obtain ⟨sa, scap, hvS⟩ := owns_slice hOf.new.sizes
        have r2 : w4.cell? ⟨V3.heap.size, 2, none⟩ = some (.slice sa K scap) := by have := hOf.new.c2; rw [hvS] at this; exact this
        clear hof t1
        by_cases hKp : 0 < K
        · obtain ⟨gS, cp2, e4⟩ := owns_some hOf.new.sizes hKp
          have e5 := hOf.new.sizes.cells (g := gS) (by rw [e4]; rfl) _ _ (sizeCells_get K (K - 1) (by omega))
          rw [addr_add0] at e5
          rw [e4] at hvS
          simp only [Value.slice.injEq, true_and] at hvS
          obtain ⟨rfl, rfl⟩ := hvS
          obtain ⟨K1, hK1⟩ : ∃ K1, K = K1 + 1 := ⟨K - 1, by omega⟩
          rw [show K - 1 = K1 by omega] at e5
          have hwh : Hid (((13 * (K1 + 1) : Nat) : Int) = ((13 * K : Nat) : Int)) := by show _ = _; rw [hK1]
          have hKI0 : (0 : Int) < (K : Int) := by omega
          have hKI1 : (K : Int) - 1 = (K1 : Int) := by omega
          have hKI2 : (K1 : Int) < (K : Int) := by omega
          have hKI3 : (0 : Int) ≤ (K1 : Int) := by omega
          generalize ((13 * (K1 + 1) : Nat) : Int) = wv at *
          replace hK1 : Hid _ := hK1
          clear hOf e4
          go_wp2_with fail
          go_quiet (fail)
          go_wp2_with fail
          go_meet
          exact ⟨_, _, _, rfl, by rw [hwh.out], hmade.out.below (below_drewN (Below.refl _ _) _)⟩
        · have hK0 : K = 0 := by omega
          rw [hK0] at r2
          clear hOf
          go_wp2_with fail
          go_meet
          exact ⟨_, _, _, rfl, by rw [hK0]; rfl, hmade⟩
    case rest =>
    obtain ⟨R, vL, vS, rfl, rfl, hM⟩ := hcut
    clear hfm hO hge hbO hbW
    have hB := hM.out.bel
    have hj := journal_any hM.out.office
    have x2 : wc.cell? ⟨L.B, 1, none⟩ = some (.slice va O.n vcap) := kept_cell hB hBlt x1
    have z2 : wc.frozen? ⟨L.B, 1, none⟩ = false := by rw [hB.frozen (p := ⟨L.B, 1, none⟩) hBlt]; exact hIh.out.off.z1
    have hown : Hid (wc.ownsRow (L.B + 1) 94 1 (.slice va O.n vcap) O.n (boxCells O)) := by
      have := owns_stay hIh.out.off.row (fun x hx => hB.block x (owns_in hIh.out.off.row x hx).2)
      rw [hvO.out] at this
      exact this
    have hlB : (Value.slice va O.n vcap).ownBlock ≠ some L.B := fun e => by have := (owns_in hown.out _ e).1; omega
    have hBc : L.B < wc.heap.size := Nat.lt_of_lt_of_le hBlt hB.size
    obtain ⟨J, hJ⟩ : ∃ J, J = btext (jtext (recs (ls0.take K))) := ⟨_, rfl⟩
    have hx := hTx.out
    have hs := hTs.out
    rw [← hJ] at hx hj
    obtain ⟨wh, hwh⟩ : ∃ wh : Nat, wh = 13 * K := ⟨_, rfl⟩
    rw [← hwh] at hx
    rw [← hwh]
    have hw0 : (0 : Int) ≤ (wh : Int) := by omega
    have hw1 : (wh : Int) ≤ (sz : Int) := by have := hK.out; omega
    have hw2 : (sz : Int) ≤ 28600000000000 := by have := hszl.out; have := hl0.out; omega
    have hJ' : Hid _ := hJ
    replace hwh : Hid _ := hwh
    clear hJ x1 hB
    go_wp2_with fail
    refine hj.mono ?_
    rintro e w6 ⟨rfl, rfl⟩
    clear hj
    by_cases hlt : O.n < 12
    · have hltI : (O.n : Int) < 12 := by omega
      obtain ⟨i0, hi, hz0, hz1, hz2⟩ := info_parts office_info
      obtain ⟨m1, m2, m3⟩ := hM.out.more (B := L.B) hBlt 98 hJ'.out
      obtain ⟨V, hV⟩ : ∃ V, V = w6.alloc (.cells #[.pointer (some ⟨bb, 0, none⟩), .pointer (some ⟨R, 0, none⟩), .string J] 98) := ⟨_, rfl⟩
      rw [← hV] at m3
      have hVs : Hid (V.heap.size = w6.heap.size + 1) := by show _ = _; rw [hV]; simp
      have hfn : Hid (∀ gq cq w1, w1.ownsRow (L.B + 1) 94 1 (.slice (some ⟨gq, 0, none⟩) (O.n + 1) cq) (O.n + 1) (boxCells O ++ [.pointer (some ⟨w6.heap.size, 0, none⟩)]) → ((V.alloc (.cells #[.pointer (some ⟨w6.heap.size, 0, none⟩)] 94)).drew).grownBy w1 (Value.slice va O.n vcap).ownBlock → ((Value.slice va O.n vcap).ownBlock = some gq ∨ gq = V.heap.size + 1) → AllStepped t W (w1.setCell ⟨L.B, 1, none⟩ (.slice (some ⟨gq, 0, none⟩) (O.n + 1) cq)) L.B) := fun gq cq w1 ho hg ha => by
        rw [← hvO.out] at hg ha
        have hbV : Below W.heap.size W V := by rw [hV]; exact hM.out.bel.alloc hM.out.bel.size _
        obtain ⟨y1, y2⟩ := hIh.out.off.more hBlt hbV hlt m1 m2 m3 (v := .slice (some ⟨gq, 0, none⟩) (O.n + 1) cq) ho hg (by
          rcases ha with e | e
          · exact Or.inl e.symm
          · right; rw [← e]; rfl)
        refine hIh.out.ofOffice y1 y2 (fun i hi => ?_)
        have hi' : i < O.n + 1 := hi
        by_cases e : i = O.n
        · subst e; rw [put_same]; show (ls0.take K).length ≤ t + 1; have := hl0.out; rw [List.length_take]; omega
        · rw [put_other _ _ _ e]; have := hIh.out.len i (by omega); omega
      have hnews : Hid (∀ j u, [Value.pointer (some ⟨w6.heap.size, 0, none⟩)][j]? = some u → ((V.alloc (.cells #[.pointer (some ⟨w6.heap.size, 0, none⟩)] 94)).drew).cell? ((⟨w6.heap.size + 1, 0, none⟩ : Addr).add j) = some u) := fun j u hj => by
        rw [← hVs.out]
        exact World.news_of_block (cs := #[.pointer (some ⟨w6.heap.size, 0, none⟩)]) (t := 94) (fr := (0, 0)) (heap_alloc_new V _) j u hj
      have hownV : Hid ((V.alloc (.cells #[.pointer (some ⟨w6.heap.size, 0, none⟩)] 94)).drew.ownsRow (L.B + 1) 94 1 (.slice va O.n vcap) O.n (boxCells O)) := by
        have : V.ownsRow (L.B + 1) 94 1 (.slice va O.n vcap) O.n (boxCells O) := by rw [hV]; exact hown.out.alloc _
        exact (this.alloc _).drew
      have hkV : Hid (∀ w1, ((V.alloc (.cells #[.pointer (some ⟨w6.heap.size, 0, none⟩)] 94)).drew).grownBy w1 (Value.slice va O.n vcap).ownBlock → w1.heap[L.B]? = w6.heap[L.B]?) := fun w1 hg => by
        have e1 := hg.block L.B (show L.B < (V.alloc _).heap.size by simp; have := hVs.out; omega) (fun e => hlB e.symm)
        have e2 : (V.alloc (.cells #[.pointer (some ⟨w6.heap.size, 0, none⟩)] 94)).heap[L.B]? = V.heap[L.B]? := heap_alloc_old V _ (by have := hVs.out; omega)
        have e3 : V.heap[L.B]? = w6.heap[L.B]? := by rw [hV]; exact heap_alloc_old w6 _ hBc
        exact e1.trans (e2.trans e3)
      rw [hV] at hnews hownV hkV hfn
      have hnb : L.B ≠ w6.heap.size := Nat.ne_of_lt hBc
      have hVs' : Hid (V.heap.size = w6.heap.size + 1) := hVs
      replace hV : Hid _ := hV
      clear m1 m2 m3 hVs
      go_wp2_with fail
      go_region_law
        (refine step_append_lies _ (by rfl) _ _ _ (by rfl) (L.B + 1) 94 i0 _ 1 8 Tryd.underlying38 hi hz0 hz1 hz2 rfl (by omega) (.slice va O.n vcap) O.n (boxCells O) (by rfl) hownV.out ⟨w6.heap.size + 1, 0, none⟩ 1 1 [.pointer (some ⟨w6.heap.size, 0, none⟩)] (by rfl) (by rfl) hnews.out (by simp [Value.oneCell']) (by omega) (by unfold maxLen; omega) (by omega) (by simp; omega) (w6.heap.size + 2) (by simp) ?_
         intro gq cq w1 hown1 hgrow hat hlt1
         have f1 : w1.frozen? ⟨L.B, 1, none⟩ = false := (World.frozen?_of_block (w := w6) (a := ⟨L.B, 1, none⟩) (hkV.out w1 hgrow)).trans z2
         have x3 : w1.cell? ⟨L.B, 1, none⟩ = some (.slice va O.n vcap) := (World.cell?_of_block (w := w6) (hkV.out w1 hgrow)).trans x2
         have hO3 : Hid (AllStepped t W (w1.setCell ⟨L.B, 1, none⟩ (.slice (some ⟨gq, 0, none⟩) (O.n + 1) cq)) L.B) := hfn.out gq cq w1 hown1 hgrow (hat.elim Or.inl (fun e => Or.inr (by rw [e, ← hV.out, hVs'.out])))
         clear hown1 hgrow hat hlt1)
      all_goals
        go_wp2
        go_ret
        exact ⟨rfl, hO3.out⟩
    · have hltI : ¬ (O.n : Int) < 12 := by omega
      have hfn : Hid (AllStepped t W w6 L.B) := hIh.out.idle hM.out.bel
      clear hM hIh
      go_wp2
      go_ret
      exact ⟨rfl, hfn.out⟩
end Go.Proofs.YtdplffhieekfaaaDoor
