/-
  stampslaw.lends: Lease.
  Conditions: the law's world is in memory.
-/
import Derived.Test.YtdplffhieekfaaaDoorAlls
import Derived.Deep.DeepCutAuto
import Derived.Deep.RegionHeld3
import Derived.Deep.RegionLaw
import Derived.Deep.AppendLies
namespace Go.Proofs.YtdplffhieekfaaaDoor
open Go.RowKit Go.Maps Go.Lib

/-- Behind a call for a lease: its answer lies in block X. -/
structure Got (V w : World) (B : Nat) (o o1 : One) (told : List UInt8) (span : Nat) (rs : List (Nat × Nat)) (ls : List L3) (ns X bx : Nat) (a b : Int) (x y z : Value) : Prop where
  stp : Stp V w o o1
  st : St w B o1 told span rs ls ns
  three : Three w o1 X x y z
  asks : Asks w o1 bx a b

theorem Stp.undrew {V w : World} {o o1 : One} (h : Stp V.drew w o o1) : Stp V w o o1 := ⟨⟨h.keep.os, h.keep.tape, h.keep.output, h.keep.size, h.keep.block⟩, h.new, h.box⟩

theorem got_after {V w5 : World} {B : Nat} {o o1 : One} {told : List UInt8} {span : Nat} {rs : List (Nat × Nat)} {ls : List L3} {ns bx : Nat} {a b : Int} (hs : Stp V w5 o o1) (ht : St w5 B o1 told span rs ls ns) (hq : Asks w5 o1 bx a b) (x y z : Value) (T : TypeId) :
    Got V (w5.alloc (.cells #[x, y, z] T)) B o o1 told span rs ls ns w5.heap.size bx a b x y z := by
  obtain ⟨e1, e2, e3⟩ := box_after hs ht.lt x y z T
  exact ⟨e1, ht.below ((Below.refl _ _).alloc (Nat.le_refl _) _), e3, hq.step e2⟩

theorem got_before {V w5 : World} {B : Nat} {o o1 : One} {told : List UInt8} {span : Nat} {rs : List (Nat × Nat)} {ls : List L3} {ns bx : Nat} {a b : Int} {T : TypeId} {x0 y0 z0 : Value} (hV : ∀ p x, o.at p = some x → x < V.heap.size) (hbx : bx < V.heap.size) (hs : Stp (V.alloc (.cells #[x0, y0, z0] T)) w5 o o1) (ht : St w5 B o1 told span rs ls ns) (hq : Asks w5 o1 bx a b) (x y z : Value) :
    Got V (((w5.setCell ⟨V.heap.size, 0, none⟩ x).setCell ⟨V.heap.size, 1, none⟩ y).setCell ⟨V.heap.size, 2, none⟩ z) B o o1 told span rs ls ns V.heap.size bx a b x y z := by
  obtain ⟨e1, e2, e3, e4⟩ := box_before hV hs x y z
  have hne : bx ≠ V.heap.size := by omega
  have eb : (((w5.setCell ⟨V.heap.size, 0, none⟩ x).setCell ⟨V.heap.size, 1, none⟩ y).setCell ⟨V.heap.size, 2, none⟩ z).heap[bx]? = w5.heap[bx]? := by
    rw [Below.heap_setCell _ _ _ _ hne, Below.heap_setCell _ _ _ _ hne, Below.heap_setCell _ _ _ _ hne]
  exact ⟨e1, ht.on e2 (by rw [e3]; exact Nat.le_refl _), e4, ⟨⟨by rw [e3]; exact hq.at_.lt, hq.at_.out⟩, (World.cell?_of_block (w := w5) eb).trans hq.c2, (World.cell?_of_block (w := w5) eb).trans hq.c3⟩⟩

theorem Three.before {V w5 : World} {o : One} {X : Nat} {x y z : Value} (h : Three w5 o X x y z) (hX : X < V.heap.size) (u0 u1 u2 : Value) : Three (((w5.setCell ⟨V.heap.size, 0, none⟩ u0).setCell ⟨V.heap.size, 1, none⟩ u1).setCell ⟨V.heap.size, 2, none⟩ u2) o X x y z := by
  have hne : X ≠ V.heap.size := by omega
  have eb : (((w5.setCell ⟨V.heap.size, 0, none⟩ u0).setCell ⟨V.heap.size, 1, none⟩ u1).setCell ⟨V.heap.size, 2, none⟩ u2).heap[X]? = w5.heap[X]? := by
    rw [Below.heap_setCell _ _ _ _ hne, Below.heap_setCell _ _ _ _ hne, Below.heap_setCell _ _ _ _ hne]
  have hsz : (((w5.setCell ⟨V.heap.size, 0, none⟩ u0).setCell ⟨V.heap.size, 1, none⟩ u1).setCell ⟨V.heap.size, 2, none⟩ u2).heap.size = w5.heap.size := by simp [World.setCell]
  exact ⟨⟨by rw [hsz]; exact h.at_.lt, h.at_.out⟩, (World.cell?_of_block (w := w5) eb).trans h.c0, (World.cell?_of_block (w := w5) eb).trans h.c1, (World.cell?_of_block (w := w5) eb).trans h.c2⟩

theorem jtext_snoc_take (ls : List L3) (l : L3) : (btext (jtext (recs (ls ++ [l])))).extract 0 (13 * ls.length) = btext (jtext (recs ls)) := by
  rw [btext_take, recs_snoc, jtext_snoc]
  congr 2
  rw [List.take_append_of_le_length (by rw [jtext_length, recs_length]; omega), List.take_of_length_le (by rw [jtext_length, recs_length]; omega)]

set_option maxRecDepth 100000 in
set_option maxHeartbeats 8000000 in
theorem lends_lease {t : Nat} {W : World} {L : LB} {sd : Nat → Dk} {Ls Ms : List Value} {c : Int} {O : OB} {d : Nat → Od} (hI : AllIn t W L sd Ls Ms c O d) (ht : t ≤ 2200000000000) (hn : 0 < O.n) (on a b n : Int) (s : ByteArray) (l0 l1 l2 : Int) (o0 : -9223372036854775808 ≤ on) (o1 : on ≤ 9223372036854775807) (b0 : -9223372036854775808 ≤ b) (b1 : b ≤ 9223372036854775807) :
    Calls Tryd.prog 27 #[.pointer (some ⟨L.B, 0, none⟩), .agg #[.int .i64 11, .int .i64 on, .int .i64 a, .int .i64 b, .int .u64 n, .string s, .int .i64 l0, .int .i64 l1, .int .i64 l2]] W fun e W' => e = .returned (.bool true) ∧ AllStepped t W W' L.B := by
  obtain ⟨g, cap, k, hk, p1, pk, hpick⟩ := hI.pickedO hn on o0 o1
  have hBlt : L.B < W.heap.size := (hI.law.dw.base .own _ rfl).2
  have hglt : g < W.heap.size := block_lt_of_cell pk
  have hL0 : ((O.n : Int) == 0) = false := by rw [beq_eq_false_iff_ne]; omega
  have n12 : (O.n : Int) ≤ 12 := by have := hI.off.n12; omega
  have hk0 : (0 : Int) ≤ (k : Int) := by omega
  have hk1 : (k : Int) < (O.n : Int) := by omega
  have hlen : (d k).ls.length ≤ 2200000000000 := by have := hI.len k hk; omega
  have hst0 := hI.st hk
  obtain ⟨r0, r1, r2, er, ls', hA, hcase⟩ := answers_of (span := (d k).span) (ls := (d k).ls) hst0.off.good (by omega) hst0.off.s1 hst0.off.s2 a b b0 b1
  have hfin : Hid (∀ V W' o', Below W.heap.size W V → Stp V W' (O.one k) o' → St W' L.B o' (jtext (recs ls')) (d k).span (recs ls') ls' ls'.length → ls'.length ≤ (d k).ls.length + 1 → AllStepped t W W' L.B) := fun V W' o' hb h1 h2 h3 => hI.askedO hb hk h1 h2 h3
  have hst1 : Hid (∀ V, Below W.heap.size W V → St V L.B (O.one k) (jtext (recs (d k).ls)) (d k).span (recs (d k).ls) (d k).ls (d k).ls.length) := fun V hb => (hI.below hb).st hk
  replace hA : Hid _ := hA
  replace hcase : Hid _ := hcase
  clear hst0 hI
  generalize O.one k = o at *
  generalize (d k).span = span at *
  generalize (d k).ls = ls at *
  go_enter Tryd.func27, Tryd.ntmps27
  go_wp2_with fail
  go_quiet ((go_at_call 46; exact Calls.quiet_of_same (hpick _)))
  obtain ⟨V, hV⟩ : ∃ V, V = (W.alloc (.cells #[.int .i64 11, .int .i64 on, .int .i64 a, .int .i64 b, .int .u64 n, .string s, .int .i64 l0, .int .i64 l1, .int .i64 l2] 46)).drewN nq := ⟨_, rfl⟩
  rw [← hV]
  have hb : Hid (Below W.heap.size W V) := by show Below _ _ _; rw [hV]; exact below_drewN ((Below.refl _ W).alloc (Nat.le_refl _) _) nq
  have hcn := fun x => (cell_alloc_new W #[.int .i64 11, .int .i64 on, .int .i64 a, .int .i64 b, .int .u64 n, .string s, .int .i64 l0, .int .i64 l1, .int .i64 l2] 46 x).1
  have v0 : V.cell? ⟨W.heap.size, 0, none⟩ = some (.int .i64 11) := by rw [hV]; exact hcn 0
  have v2 : V.cell? ⟨W.heap.size, 2, none⟩ = some (.int .i64 a) := by rw [hV]; exact hcn 2
  have v3 : V.cell? ⟨W.heap.size, 3, none⟩ = some (.int .i64 b) := by rw [hV]; exact hcn 3
  have hWV : W.heap.size < V.heap.size := block_lt_of_cell v0
  have hst : Hid _ := hst1.out V hb.out
  have hol : Hid (∀ p x, o.at p = some x → x < W.heap.size) := (hst1.out W (Below.refl _ W)).lt
  have hask : Hid (Asks V o W.heap.size a b) := ⟨⟨hWV, fun p hp => by have := hol.out p _ hp; omega⟩, v2, v3⟩
  have t0 := hst.out.t0
  have hbl : o.box < V.heap.size := hst.out.lt .box _ rfl
  replace hV : Hid _ := hV
  clear p1 pk hglt hcn hst1 hpick
  go_wp2_with fail
  go_cut [7, 8] (fun x y wx => ∃ X g' cap', x = .pointer (some ⟨X, 0, none⟩) ∧ y = .int .i64 er ∧ Hid (Got V wx L.B o { o with bytes := g', cap := cap' } (jtext (recs ls)) span (recs ls') ls ls.length X W.heap.size a b (.int .i64 r0) (.int .i64 r1) (.int .i64 r2)))
  case first =>
    have hcall : ∀ w, Below V.heap.size V w → Calls Tryd.prog 57 #[.pointer (some ⟨o.off, 0, none⟩), .int .i64 a, .int .i64 b] w fun e w' => e = .returned (.tuple #[.agg #[.int .i64 r0, .int .i64 r1, .int .i64 r2], .int .i64 er]) ∧
        ∃ g' cap', Hid (Stp w w' o { o with bytes := g', cap := cap' }) ∧ Hid (St w' L.B { o with bytes := g', cap := cap' } (jtext (recs ls)) span (recs ls') ls ls.length) ∧ Hid (Asks w' { o with bytes := g', cap := cap' } W.heap.size a b) ∧ w'.cell? ⟨o.box, 0, none⟩ = some (.pointer (some ⟨o.off, 0, none⟩)) ∧ w'.cell? ⟨W.heap.size, 2, none⟩ = some (.int .i64 a) ∧ w'.cell? ⟨W.heap.size, 3, none⟩ = some (.int .i64 b) := fun w hw =>
      (hA.out.prog w L.B o _ _ (hst.out.below hw)).mono fun e w' ⟨he, g', cap', h1, h2⟩ => by
        have h3 := (hask.out.step (Stp.ofBelow o hw)).step h1
        exact ⟨he, g', cap', h1, h2, h3, h2.t0, h3.c2, h3.c3⟩
    have hcallA : ∀ w, Below V.heap.size V w → V.heap.size < w.heap.size → (∀ y, w.cell? ⟨V.heap.size, y, none⟩ = (#[.int .i64 0, .int .i64 0, .int .i64 0] : Array Value)[y]? ∧ w.frozen? ⟨V.heap.size, y, none⟩ = false) → Calls Tryd.prog 57 #[.pointer (some ⟨o.off, 0, none⟩), .int .i64 a, .int .i64 b] w fun e w' => e = .returned (.tuple #[.agg #[.int .i64 r0, .int .i64 r1, .int .i64 r2], .int .i64 er]) ∧
        ∃ g' cap', Hid (Stp w w' o { o with bytes := g', cap := cap' }) ∧ Hid (St w' L.B { o with bytes := g', cap := cap' } (jtext (recs ls)) span (recs ls') ls ls.length) ∧ Hid (Asks w' { o with bytes := g', cap := cap' } W.heap.size a b) ∧ w'.cell? ⟨o.box, 0, none⟩ = some (.pointer (some ⟨o.off, 0, none⟩)) ∧ w'.cell? ⟨W.heap.size, 2, none⟩ = some (.int .i64 a) ∧ w'.cell? ⟨W.heap.size, 3, none⟩ = some (.int .i64 b) ∧
          w'.cell? ⟨V.heap.size, 0, none⟩ = some (.int .i64 0) ∧ w'.cell? ⟨V.heap.size, 1, none⟩ = some (.int .i64 0) ∧ w'.cell? ⟨V.heap.size, 2, none⟩ = some (.int .i64 0) ∧ ∀ y, w'.frozen? ⟨V.heap.size, y, none⟩ = false := fun w hw hl hz =>
      (hcall w hw).mono fun e w' ⟨he, g', cap', h1, h2, h3, h4, h5, h6⟩ => by
        have hbs : Beside w o V.heap.size := ⟨hl, fun p hp => by have := hst.out.lt p _ hp; omega⟩
        have hbk := (hbs.step h1.out).2
        exact ⟨he, g', cap', h1, h2, h3, h4, h5, h6, (World.cell?_of_block (w := w) hbk).trans (hz 0).1, (World.cell?_of_block (w := w) hbk).trans (hz 1).1, (World.cell?_of_block (w := w) hbk).trans (hz 2).1, fun y => (World.frozen?_of_block (w := w) (a := ⟨V.heap.size, y, none⟩) hbk).trans (hz y).2⟩
    have ne1 : o.box ≠ V.heap.size := Nat.ne_of_lt hbl
    have ne2 : W.heap.size ≠ V.heap.size := Nat.ne_of_lt hWV
    have ne3 := Ne.symm ne1
    have ne4 := Ne.symm ne2
    have hz0 := fun y => cell_alloc_new V #[.int .i64 0, .int .i64 0, .int .i64 0] 44 y
    replace hz0 : Hid _ := hz0
    go_region_held3 (fun w' => w'.cell? ⟨o.box, 0, none⟩ = some (.pointer (some ⟨o.off, 0, none⟩)) ∧ w'.cell? ⟨W.heap.size, 2, none⟩ = some (.int .i64 a) ∧ w'.cell? ⟨W.heap.size, 3, none⟩ = some (.int .i64 b)) (go_keep)
      (first
        | (go_at_call 57; refine (hcall _ ?_).mono ?_; exact (Below.refl _ V).drew; rintro e w5 ⟨rfl, g', cap', hS5, hT5, hq5, s0, s2, s3⟩)
        | (go_at_call 57; refine (hcallA _ ?_ ?_ ?_).mono ?_; exact ((Below.refl _ V).alloc (Nat.le_refl _) _).drew; exact Nat.lt_of_lt_of_eq (Nat.lt_succ_self _) (World.size_alloc V _).symm; exact hz0.out; rintro e w5 ⟨rfl, g', cap', hS5, hT5, hq5, s0, s2, s3, z0, z1, z2, zz⟩))
    all_goals
      go_wp2_with fail
      go_meet
      first
        | exact ⟨_, _, _, rfl, rfl, got_after (V := V) hS5.out.undrew hT5.out hq5.out _ _ _ _⟩
        | exact ⟨_, _, _, rfl, rfl, got_before (V := V) hst.out.lt hWV hS5.out.undrew hT5.out hq5.out _ _ _⟩
  case rest =>
  obtain ⟨X, g', cap', rfl, rfl, hG⟩ := hcut
  clear v0 v2 v3 t0 hbl hask hst
  obtain ⟨q1, hq1⟩ : ∃ q1 : One, q1 = { o with bytes := g', cap := cap' } := ⟨_, rfl⟩
  rw [← hq1] at hG
  have eb : q1.box = o.box := by rw [hq1]
  have ef : q1.off = o.off := by rw [hq1]
  rw [← eb]
  have hWc : W.heap.size < wc.heap.size := hG.out.asks.at_.lt
  have hXc : X < wc.heap.size := hG.out.three.at_.lt
  have t1 := hG.out.st.t1
  have v2 := hG.out.asks.c2
  have v3 := hG.out.asks.c3
  have hbl : q1.box < wc.heap.size := hG.out.st.lt .box _ rfl
  replace eb : Hid _ := eb
  replace ef : Hid _ := ef
  replace hq1 : Hid _ := hq1
  go_wp2_with fail
  go_cut [9, 10] (fun x y wx => ∃ Y vL', x = .pointer (some ⟨Y, 0, none⟩) ∧ y = .int .i64 er ∧ Hid (Got wc wx L.B q1 { q1 with vL := vL' } (jtext (recs ls)) span (recs ls') ls' ls.length Y W.heap.size a b (.int .i64 r0) (.int .i64 r1) (.int .i64 r2) ∧ Three wx { q1 with vL := vL' } X (.int .i64 r0) (.int .i64 r1) (.int .i64 r2)))
  case first =>
    have hcall : ∀ w, Below wc.heap.size wc w → Calls Tryd.prog 58 #[.pointer (some ⟨q1.ref, 0, none⟩), .int .i64 a, .int .i64 b] w fun e w' => e = .returned (.tuple #[.agg #[.int .i64 r0, .int .i64 r1, .int .i64 r2], .int .i64 er]) ∧
        ∃ vL', Hid (Stp w w' q1 { q1 with vL := vL' }) ∧ Hid (St w' L.B { q1 with vL := vL' } (jtext (recs ls)) span (recs ls') ls' ls.length) ∧ Hid (Asks w' { q1 with vL := vL' } W.heap.size a b) ∧ Hid (Three w' { q1 with vL := vL' } X (.int .i64 r0) (.int .i64 r1) (.int .i64 r2)) ∧ w'.cell? ⟨q1.box, 1, none⟩ = some (.pointer (some ⟨q1.ref, 0, none⟩)) ∧ w'.cell? ⟨W.heap.size, 2, none⟩ = some (.int .i64 a) ∧ w'.cell? ⟨W.heap.size, 3, none⟩ = some (.int .i64 b) := fun w hw =>
      (hA.out.doc w L.B q1 _ _ (hG.out.st.below hw)).mono fun e w' ⟨he, vL', h1, h2⟩ => by
        have h3 := (hG.out.asks.step (Stp.ofBelow q1 hw)).step h1
        have h4 := (hG.out.three.step (Stp.ofBelow q1 hw)).step h1
        exact ⟨he, vL', h1, h2, h3, h4, h2.t1, h3.c2, h3.c3⟩
    have hcallA : ∀ w, Below wc.heap.size wc w → wc.heap.size < w.heap.size → (∀ y, w.cell? ⟨wc.heap.size, y, none⟩ = (#[.int .i64 0, .int .i64 0, .int .i64 0] : Array Value)[y]? ∧ w.frozen? ⟨wc.heap.size, y, none⟩ = false) → Calls Tryd.prog 58 #[.pointer (some ⟨q1.ref, 0, none⟩), .int .i64 a, .int .i64 b] w fun e w' => e = .returned (.tuple #[.agg #[.int .i64 r0, .int .i64 r1, .int .i64 r2], .int .i64 er]) ∧
        ∃ vL', Hid (Stp w w' q1 { q1 with vL := vL' }) ∧ Hid (St w' L.B { q1 with vL := vL' } (jtext (recs ls)) span (recs ls') ls' ls.length) ∧ Hid (Asks w' { q1 with vL := vL' } W.heap.size a b) ∧ Hid (Three w' { q1 with vL := vL' } X (.int .i64 r0) (.int .i64 r1) (.int .i64 r2)) ∧ w'.cell? ⟨q1.box, 1, none⟩ = some (.pointer (some ⟨q1.ref, 0, none⟩)) ∧ w'.cell? ⟨W.heap.size, 2, none⟩ = some (.int .i64 a) ∧ w'.cell? ⟨W.heap.size, 3, none⟩ = some (.int .i64 b) ∧
          w'.cell? ⟨wc.heap.size, 0, none⟩ = some (.int .i64 0) ∧ w'.cell? ⟨wc.heap.size, 1, none⟩ = some (.int .i64 0) ∧ w'.cell? ⟨wc.heap.size, 2, none⟩ = some (.int .i64 0) ∧ ∀ y, w'.frozen? ⟨wc.heap.size, y, none⟩ = false := fun w hw hl hz =>
      (hcall w hw).mono fun e w' ⟨he, vL', h1, h2, h3, h3', h4, h5, h6⟩ => by
        have hbs : Beside w q1 wc.heap.size := ⟨hl, fun p hp => by have := hG.out.st.lt p _ hp; omega⟩
        have hbk := (hbs.step h1.out).2
        exact ⟨he, vL', h1, h2, h3, h3', h4, h5, h6, (World.cell?_of_block (w := w) hbk).trans (hz 0).1, (World.cell?_of_block (w := w) hbk).trans (hz 1).1, (World.cell?_of_block (w := w) hbk).trans (hz 2).1, fun y => (World.frozen?_of_block (w := w) (a := ⟨wc.heap.size, y, none⟩) hbk).trans (hz y).2⟩
    have ne1 : q1.box ≠ wc.heap.size := Nat.ne_of_lt hbl
    have ne2 : W.heap.size ≠ wc.heap.size := Nat.ne_of_lt hWc
    have ne3 := Ne.symm ne1
    have ne4 := Ne.symm ne2
    have hz0 := fun y => cell_alloc_new wc #[.int .i64 0, .int .i64 0, .int .i64 0] 44 y
    replace hz0 : Hid _ := hz0
    go_region_held3 (fun w' => w'.cell? ⟨q1.box, 1, none⟩ = some (.pointer (some ⟨q1.ref, 0, none⟩)) ∧ w'.cell? ⟨W.heap.size, 2, none⟩ = some (.int .i64 a) ∧ w'.cell? ⟨W.heap.size, 3, none⟩ = some (.int .i64 b)) (go_keep)
      (first
        | (go_at_call 58; refine (hcall _ ?_).mono ?_; exact (Below.refl _ wc).drew; rintro e w5 ⟨rfl, vL', hS5, hT5, hq5, hX5, s0, s2, s3⟩)
        | (go_at_call 58; refine (hcallA _ ?_ ?_ ?_).mono ?_; exact ((Below.refl _ wc).alloc (Nat.le_refl _) _).drew; exact Nat.lt_of_lt_of_eq (Nat.lt_succ_self _) (World.size_alloc wc _).symm; exact hz0.out; rintro e w5 ⟨rfl, vL', hS5, hT5, hq5, hX5, s0, s2, s3, z0, z1, z2, zz⟩))
    all_goals
      go_wp2_with fail
      go_meet
      first
        | exact ⟨_, _, rfl, rfl, got_after (V := wc) hS5.out.undrew hT5.out hq5.out _ _ _ _, hX5.out.step (box_after hS5.out hT5.out.lt _ _ _ _).2.1⟩
        | exact ⟨_, _, rfl, rfl, got_before (V := wc) hG.out.st.lt hWc hS5.out.undrew hT5.out hq5.out _ _ _, hX5.out.before hXc _ _ _⟩
  case rest =>
  obtain ⟨Y, vL', rfl, rfl, hH⟩ := hcut
  clear v2 v3 t1 hbl hXc hWc
  obtain ⟨q2, hq2⟩ : ∃ q2 : One, q2 = { q1 with vL := vL' } := ⟨_, rfl⟩
  rw [← hq2] at hH
  have eb2 : q2.box = q1.box := by rw [hq2]
  have hS2 : Hid (Stp V wc o q2) := hG.out.stp.trans hH.out.1.stp
  have hst : Hid _ := hH.out.1.st
  rw [← eb2]
  replace eb2 : Hid _ := eb2
  replace hq2 : Hid _ := hq2
  have x0 := hH.out.2.c0
  have x1 := hH.out.2.c1
  have x2 := hH.out.2.c2
  have y0 := hH.out.1.three.c0
  have y1 := hH.out.1.three.c1
  have y2 := hH.out.1.three.c2
  have t0 := hst.out.t0
  have t1 := hst.out.t1
  have t2 := hst.out.t2
  have hj := journal_any hst.out.off
  clear hA hG
  rcases hcase.out with ⟨hne, hls⟩ | ⟨h0, l, hls⟩
  · subst hls
    have hneb : (er != 0) = true := by simpa using hne
    have hfn : Hid (AllStepped t W wc L.B) := hfin.out V wc q2 hb.out hS2.out hst.out (by omega)
    clear hcase hne hst
    go_wp2_with fail
    refine hj.mono ?_
    rintro e w6 ⟨rfl, rfl⟩
    clear hj
    go_wp2
    go_ret
    exact ⟨rfl, hfn.out⟩
  · subst h0
    have hsz1 : Hid ((btext (jtext (recs ls))).size = 13 * ls.length) := by show _ = _; rw [btext_size, jtext_length, recs_length]
    have hsz2 : Hid ((btext (jtext (recs ls'))).size = 13 * (ls.length + 1)) := by show _ = _; rw [hls, btext_size, jtext_length, recs_length, List.length_append, List.length_singleton]
    have hex : Hid ((btext (jtext (recs ls'))).extract 0 (13 * ls.length) = btext (jtext (recs ls))) := by show _ = _; rw [hls]; exact jtext_snoc_take ls l
    have hm : 13 * (ls.length : Int) ≤ 28600000000000 := by omega
    obtain ⟨m, hmm⟩ : ∃ m, m = 13 * ls.length := ⟨_, rfl⟩
    obtain ⟨m2, hm2⟩ : ∃ m2, m2 = 13 * (ls.length + 1) := ⟨_, rfl⟩
    have hlm : (m : Int) < (m2 : Int) := by omega
    have hmI : (m : Int) ≤ 28600000000000 := by omega
    have hmI2 : (m2 : Int) ≤ 28600000000013 := by omega
    rw [← hmm] at hsz1 hex
    rw [← hm2] at hsz2
    obtain ⟨S1, hS1⟩ : ∃ S1, S1 = btext (jtext (recs ls)) := ⟨_, rfl⟩
    obtain ⟨S2, hS2'⟩ : ∃ S2, S2 = btext (jtext (recs ls')) := ⟨_, rfl⟩
    rw [← hS1] at hsz1 hex t2
    rw [← hS2'] at hsz2 hex hj
    have z1 := hsz1.out
    have z2 := hsz2.out
    have z3 := hex.out
    replace hmm : Hid _ := hmm
    replace hm2 : Hid _ := hm2
    replace hS1 : Hid _ := hS1
    replace hS2' : Hid _ := hS2'
    replace hls : Hid _ := hls
    clear hcase hsz1 hsz2 hex
    go_wp2_with fail
    refine hj.mono ?_
    rintro e w6 ⟨rfl, rfl⟩
    clear hj x0 x1 x2 y0 y1 y2
    go_wp2_with fail
    go_quiet (fail)
    obtain ⟨V2, hV2⟩ : ∃ V2, V2 = w6.drewN nq := ⟨_, rfl⟩
    rw [← hV2]
    have hbd : Below w6.heap.size w6 V2 := by rw [hV2]; exact below_drewN (Below.refl _ _) nq
    have hst2 : Hid _ := hst.out.below hbd
    have hS3 : Hid (Stp V V2 o q2) := hS2.out.trans (Stp.ofBelow q2 hbd)
    have d2 := hst2.out.t2
    have d1 := hst2.out.t1
    have dz := hst2.out.tz 2
    rw [← hS1.out] at d2
    replace hV2 : Hid _ := hV2
    clear t0 t1 t2 hst hS2 hbd
    go_wp2_with fail
    obtain ⟨V3, hV3⟩ : ∃ V3, V3 = V2.setCell ⟨q2.box, 2, none⟩ (.string S2) := ⟨_, rfl⟩
    rw [← hV3]
    have hw3 := hst2.out.wrote (jtext (recs ls'))
    rw [← hS2'.out, ← hV3] at hw3
    have hst3 : Hid _ := hw3.2
    have hS4 : Hid (Stp V V3 o q2) := hS3.out.trans hw3.1
    obtain ⟨sa, scap, hvS⟩ := owns_slice hst3.out.ref.sizes
    have e1 : V3.cell? ⟨q2.box, 1, none⟩ = some (.pointer (some ⟨q2.ref, 0, none⟩)) := hst3.out.t1
    have e2 : V3.cell? ⟨q2.ref, 2, none⟩ = some (.slice sa ls.length scap) := by have := hst3.out.ref.c2; rw [hvS] at this; exact this
    have ez : V3.frozen? ⟨q2.ref, 2, none⟩ = false := hst3.out.ref.fz 2
    have hown : Hid (V3.ownsRow (L.B + 1) 3 1 (.slice sa ls.length scap) ls.length (sizeCells ls.length)) := by have := hst3.out.ref.sizes; rw [hvS] at this; exact this
    have hlr : (Value.slice sa ls.length scap).ownBlock ≠ some q2.ref := by have := hst3.out.ref.rz; rw [hvS] at this; exact this
    have hbV : q2.box < V3.heap.size := hst3.out.lt .box _ rfl
    have hlb : (Value.slice sa ls.length scap).ownBlock ≠ some q2.box := fun e => by
      rw [← hvS] at e
      have := hst3.out.apart .sizes .box q2.box e rfl
      cases this
    have hrV : q2.ref < V3.heap.size := hst3.out.lt .ref _ rfl
    have hBV : L.B < V3.heap.size := hst3.out.hB
    have hnews : Hid (∀ j u, [Value.int .i64 m2][j]? = some u → ((V3.alloc (.cells #[.int .i64 m2] 3)).drew).cell? ((⟨V3.heap.size, 0, none⟩ : Addr).add j) = some u) := fun j u hj =>
      World.news_of_block (cs := #[.int .i64 m2]) (t := 3) (fr := (0, 0)) (heap_alloc_new V3 _) j u hj
    have hfn : Hid (∀ gg cap w1, w1.ownsRow (L.B + 1) 3 1 (.slice (some ⟨gg, 0, none⟩) (ls.length + 1) cap) (ls.length + 1) (sizeCells ls.length ++ [.int .i64 m2]) → ((V3.alloc (.cells #[.int .i64 m2] 3)).drew).grownBy w1 (Value.slice sa ls.length scap).ownBlock → ((Value.slice sa ls.length scap).ownBlock = some gg ∨ gg = V3.heap.size + 1) → AllStepped t W (w1.setCell ⟨q2.ref, 2, none⟩ (.slice (some ⟨gg, 0, none⟩) (ls.length + 1) cap)) L.B) := fun gg cap w1 ho hg ha => by
      rw [← hvS] at hg ha
      rw [hm2.out] at ho
      obtain ⟨z1, z2⟩ := hst3.out.sized ho hg ha
      have hll : ls'.length = ls.length + 1 := by rw [hls.out, List.length_append, List.length_singleton]
      refine hfin.out V _ _ hb.out (hS4.out.trans z1) ?_ (by omega)
      rw [hll]
      exact z2
    replace hV3 : Hid _ := hV3
    replace hvS : Hid _ := hvS
    obtain ⟨i1, hi', hz0', hz1', hz2'⟩ := info_parts int_info
    clear hw3 d1 d2 dz hst2 hS3
    go_region_law
      (refine step_append_lies _ (by rfl) _ _ _ (by rfl) (L.B + 1) 3 i1 _ 1 8 Tryd.underlying102 hi' hz0' hz1' hz2' rfl (by omega) (.slice sa ls.length scap) ls.length (sizeCells ls.length) (by rfl) ((hown.out.alloc _).drew) ⟨V3.heap.size, 0, none⟩ 1 1 [.int .i64 m2] (by rfl) (by rfl) hnews.out (by simp [Value.oneCell']) (by omega) (by unfold maxLen; omega) (by omega) (by simp; omega) (V3.heap.size + 1) (by simp) ?_
       intro gg cap w1 hown1 hgrow hat hlt1
       have f1 : w1.frozen? ⟨q2.ref, 2, none⟩ = false := (hgrow.frozen_far ⟨q2.ref, 2, none⟩ (by show q2.ref < (V3.alloc _).heap.size; simp; omega) (Ne.symm hlr)).trans ((World.frozen?_of_block (w := V3) (a := ⟨q2.ref, 2, none⟩) (heap_alloc_old V3 _ hrV)).trans ez)
       have x1 : w1.cell? ⟨q2.ref, 2, none⟩ = some (.slice sa ls.length scap) := (hgrow.cell_far ⟨q2.ref, 2, none⟩ (by show q2.ref < (V3.alloc _).heap.size; simp; omega) (Ne.symm hlr)).trans ((World.cell?_of_block (w := V3) (a := ⟨q2.ref, 2, none⟩) (heap_alloc_old V3 _ hrV)).trans e2)
       have x3 : w1.cell? ⟨q2.box, 1, none⟩ = some (.pointer (some ⟨q2.ref, 0, none⟩)) := (hgrow.cell_far ⟨q2.box, 1, none⟩ (by show q2.box < (V3.alloc _).heap.size; simp; omega) (Ne.symm hlb)).trans ((World.cell?_of_block (w := V3) (a := ⟨q2.box, 1, none⟩) (heap_alloc_old V3 _ hbV)).trans e1)
       have hO3 : Hid (AllStepped t W (w1.setCell ⟨q2.ref, 2, none⟩ (.slice (some ⟨gg, 0, none⟩) (ls.length + 1) cap)) L.B) := hfn.out gg cap w1 hown1 hgrow hat
       clear hown1 hgrow hat hlt1)
    all_goals
      go_wp2
      go_ret
      exact ⟨rfl, hO3.out⟩
end Go.Proofs.YtdplffhieekfaaaDoor
