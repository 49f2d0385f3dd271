/-
  stampskeep.Never answers true at every input of bulk at most 1048576, and its arguments read behind the call as they read before.
  Conditions: the statement's own bound.
-/
import Derived.Test.YtdplffhieekfaaaRows
import Derived.Test.YtdplffhieekfaaaTick1
import Derived.Test.YtdplffhieekfaaaTick2
import Derived.Test.YtdplffhieekfaaaTick3
import Derived.Test.YtdplffhieekfaaaNever
import Derived.WalkKit
import Derived.ProofKit
import Derived.OpenShut
import Derived.ChangeOld
import Derived.Below
import Derived.JoinedCond
import Derived.Deep.SlicePairs
namespace Go.Proofs.Ytdplffhieekfaaa
open Go.ChangeShapes Go.WideShapes Go.ChangeAt Go.RowKit

theorem never_own : ownKnob Try.prog.godebug = none := by kernel_rfl
theorem never_laidOut : laidOutB Try.prog = true := by kernel_rfl
theorem tk_cells : Try.prog.cellsOf 59 = 3 := by kernel_rfl
theorem tk_c0 : Try.prog.cellsOf 3 = 1 := by kernel_rfl

theorem tick_any (B : Nat) (W0 W : World) (X t : Nat) (c A Bv : Int) (h : FleetInv B W0 W X t) (ht : t ≤ 1048576) (a1 : -9223372036854775808 ≤ A) (a2 : A ≤ 9223372036854775807) (b1 : -9223372036854775808 ≤ Bv) (b2 : Bv ≤ 9223372036854775807) :
    Calls Try.prog 19 #[.pointer (some ⟨X, 0, none⟩), .agg #[.int .i64 c, .int .i64 A, .int .i64 Bv]] W fun e w' => e = .returned (.bool true) ∧ FleetInv B W0 w' X (t + 1) := by
  by_cases n1 : c = 1
  · subst n1; exact tick1 h ht A Bv a1 a2 b1 b2
  by_cases n2 : c = 2
  · subst n2; exact tick2 h ht A Bv a1 a2 b1 b2
  by_cases n3 : c = 3
  · subst n3; exact tick3 h ht A Bv a1 a2 b1 b2
  by_cases n4 : c = 4
  · subst n4; exact tick4 h ht A Bv a1 a2 b1 b2
  exact tick0 h c A Bv n1 n2 n3 n4 a1 a2

/-- The ticks that came in. -/
def TicksAt (w : World) (a : Option Addr) (n : Nat) : Prop :=
  ∀ k, k < n → ∃ b off c A Bv, a = some ⟨b, off, none⟩ ∧ w.cell? ⟨b, off + k * 3, none⟩ = some (.int .i64 c) ∧ w.cell? ⟨b, off + k * 3 + 1, none⟩ = some (.int .i64 A) ∧ w.cell? ⟨b, off + k * 3 + 2, none⟩ = some (.int .i64 Bv) ∧ -9223372036854775808 ≤ A ∧ A ≤ 9223372036854775807 ∧ -9223372036854775808 ≤ Bv ∧ Bv ≤ 9223372036854775807

theorem never_wf {a : Int} (h : (Lit.int .i64 a).wf = true) : -9223372036854775808 ≤ a ∧ a ≤ 9223372036854775807 := by
  have := bounds_i64 h
  omega

theorem tk_add (a : Addr) (i : Nat) : (a.add i).spot = none → (a.add i) = ⟨a.block, a.off + i, none⟩ := by
  intro h
  unfold Addr.add at h ⊢
  split
  · rename_i h9; rw [if_pos h9] at h; obtain ⟨b, o, s⟩ := a; simp_all
  · rename_i h9; simp_all

set_option maxRecDepth 100000 in
theorem tk_of {H : Type} {enc : TypeId × Value → H} {W : World} {sp : Nat → Bool} {held : Bool} {n : Nat} {a : Addr} {cs : List Value} {D : DataW H} {Pl : List MemPlace}
    (h1 : W.cells? 0 a 3 = some cs) (h2 : DataW.trod enc Try.prog W 0 sp held n 59 cs = some (D, Pl)) :
    a.spot = none ∧ ∃ c A Bv, W.cell? ⟨a.block, a.off, none⟩ = some (.int .i64 c) ∧ W.cell? ⟨a.block, a.off + 1, none⟩ = some (.int .i64 A) ∧ W.cell? ⟨a.block, a.off + 2, none⟩ = some (.int .i64 Bv) ∧ -9223372036854775808 ≤ A ∧ A ≤ 9223372036854775807 ∧ -9223372036854775808 ≤ Bv ∧ Bv ≤ 9223372036854775807 := by
  obtain ⟨_, hlen, hcell⟩ := World.cells?_some h1
  obtain ⟨xs, k, hk, hxy, _, hxl, hf⟩ := DataW.trod_struct Try.underlying59 h2
  match xs, hxl, cs, hlen with
  | [y0, y1, y2], _, [v0, v1, v2], _ =>
    have g0 := hf 0 _ rfl
    have g1 := hf 1 _ rfl
    have g2 := hf 2 _ rfl
    simp [tk_c0] at g0 g1 g2
    obtain ⟨z0, e0, _, w0⟩ := DataW.trod_int Try.underlying3 g0
    obtain ⟨z1, e1, _, w1⟩ := DataW.trod_int Try.underlying3 g1
    obtain ⟨z2, e2, _, w2⟩ := DataW.trod_int Try.underlying3 g2
    simp only [List.cons.injEq, and_true] at e0 e1 e2
    subst e0 e1 e2
    have c := fun i (hi : i < 3) => hcell i hi
    have hspot : a.spot = none := by simpa [Addr.add] using World.cell?_spot (c 0 (by omega))
    obtain ⟨b, o, spt⟩ := a
    simp only at hspot
    subst hspot
    exact ⟨rfl, z0, z1, z2, by simpa [Addr.add] using c 0 (by omega), by simpa [Addr.add] using c 1 (by omega), by simpa [Addr.add] using c 2 (by omega), (never_wf w1).1, (never_wf w1).2, (never_wf w2).1, (never_wf w2).2⟩

theorem bulk_one {H : Type} (d : DataW H) : 1 ≤ Rows.uptoBulk d := by
  cases d with
  | lit l => cases l <;> simp [Rows.uptoBulk]
  | nil => simp [Rows.uptoBulk]
  | ptr d => simp [Rows.uptoBulk]
  | slice elems spare => simp [Rows.uptoBulk]
  | agg parts => simp [Rows.uptoBulk]
  | iface t d => simp [Rows.uptoBulk]
  | map entries => simp [Rows.uptoBulk]
  | held h => simp [Rows.uptoBulk]

theorem bulk_length {H : Type} (l : List (DataW H)) : l.length ≤ Rows.uptoBulkAll l := by
  induction l with
  | nil => simp [Rows.uptoBulkAll]
  | cons x r ih => have := bulk_one x; simp only [Rows.uptoBulkAll, List.length_cons]; omega

theorem bulk_first {H : Type} {d : DataW H} {r : List (DataW H)} (hk : Rows.uptoSmall H (d :: r) = true) : Rows.uptoBulk d ≤ 1048576 := by
  have h : Rows.uptoBulkAll (d :: r) ≤ 1048576 := of_decide_eq_true hk
  simp only [Rows.uptoBulkAll] at h
  omega

set_option maxRecDepth 100000 in
theorem ticks_of {H : Type} {enc : TypeId × Value → H} {W : World} {a0 : Option Addr} {len0 cap0 : Nat} {d : DataW H} {p : List MemPlace}
    (h : DataW.Trod enc Try.prog W 0 (fun _ => true) true 48 (.slice a0 len0 cap0) d p) (hz : Rows.uptoBulk d ≤ 1048576) : len0 ≤ 1048576 ∧ TicksAt W a0 len0 := by
  obtain ⟨fuel, h⟩ := h
  rcases Go.Deep.open_slice Try.underlying48 h with ⟨h0, _⟩ | ⟨a, len, cap, m, n, D, Pl, hc, _, hl, hmax, hm, hx, hel⟩
  · have h0' : [Value.slice a0 len0 cap0] = [.slice none 0 0] := h0
    simp only [List.cons.injEq, and_true, Value.slice.injEq] at h0'
    obtain ⟨rfl, rfl, rfl⟩ := h0'
    exact ⟨by omega, fun k hk => absurd hk (Nat.not_lt_zero _)⟩
  · have hc' : [Value.slice a0 len0 cap0] = [.slice (some a) len cap] := hc
    simp only [List.cons.injEq, and_true, Value.slice.injEq] at hc'
    obtain ⟨rfl, rfl, rfl⟩ := hc'
    simp only [if_true] at hm
    subst hm
    simp only [Prod.mk.injEq] at hx
    have hab : ∀ i, (a.add (i * 3)).block = a.block := fun i => by unfold Addr.add; split <;> rfl
    have hao : ∀ i, (a.add (i * 3)).off = a.off + i * 3 := fun i => by
      unfold Addr.add
      split
      · rename_i h9; rw [h9]; rfl
      · rfl
    refine ⟨?_, fun k hk => ?_⟩
    · rw [hx.1] at hz
      simp only [Rows.uptoBulk] at hz
      have := bulk_length ((List.range len0).map D)
      simp only [List.length_map, List.length_range] at this
      omega
    · obtain ⟨cs0, f1, f2⟩ := hel 0 (by omega)
      rw [tk_cells] at f1
      have hsp := (tk_of f1 f2).1
      obtain ⟨cs', g1, g2⟩ := hel k (by omega)
      rw [tk_cells] at g1
      obtain ⟨_, c, A, Bv, q0, q1, q2, q3⟩ := tk_of g1 g2
      rw [hab, hao] at q0 q1 q2
      have hs0 : a.spot = none := by simpa [Addr.add] using hsp
      exact ⟨a.block, a.off, c, A, Bv, by rw [← hs0], q0, q1, q2, q3⟩

theorem never_row (a0 : Option Addr) (len0 cap0 : Nat) (a1 a2 : Int) (w : World) (hn : len0 ≤ 1048576) (w0 : TicksAt w a0 len0) (w1 : (Lit.int .i64 a1).wf = true) (w2 : (Lit.int .i64 a2).wf = true) :
    Calls Try.prog 6 #[.slice a0 len0 cap0, .int .i64 a1, .int .i64 a2] w fun e w' => e = .returned (.bool true) ∧ Below w.heap.size w w' :=
  never_walk tick_any a0 len0 cap0 a1 a2 w hn (never_wf w1).1 (never_wf w1).2 (never_wf w2).1 (never_wf w2).2 w0

set_option maxRecDepth 100000 in
theorem never_contract (H : Type) (enc : TypeId × Value → H) (W : World) (base : Nat) (args : Array Value) (ds gs : List (DataW H)) (before : List MemPlace)
    (hval0 : ∀ (j : Nat) t v, Try.f6.params[j]? = some t → args[j]? = some v → Value.okWide Try.prog W .any base t v)
    (hW : DataW.Whole enc Try.prog Try.f6.params.toList Rows.neverSpec.vars false W args.toList ds gs before) (hk : Rows.uptoSmall H (ds ++ gs) = true) :
    Calls Try.prog 6 args W fun e W' => ∃ v, e = .returned v ∧ Rows.neverSpec.post enc Try.prog Try.f6 false true false false W args v W' := by
  have hval : ∀ (j : Nat) t v, Try.f6.params[j]? = some t → args[j]? = some v → Value.okWide Try.prog W .any base t v := hval0
  have hW' := hW
  obtain ⟨p, q, hA0, hV, rfl, hfz, hnd⟩ := hW
  have hA : DataW.TrodAll enc Try.prog W 0 (fun _ => true) true Try.f6.params.toList args.toList ds p := hA0
  rw [Try.params6] at hA hval
  obtain ⟨v0, vs0, d0, ds0, p0, q0, hargs, rfl, rfl, h0, r0⟩ := trodAll_cons hA
  obtain ⟨v1, vs1, d1, ds1, p1, q1, rfl, rfl, rfl, h1, r1⟩ := trodAll_cons r0
  obtain ⟨v2, vs2, d2, ds2, p2, q2, rfl, rfl, rfl, h2, r2⟩ := trodAll_cons r1
  obtain ⟨rfl, rfl, rfl⟩ := trodAll_nil r2
  obtain rfl : args = #[v0, v1, v2] := by cases args; simp_all
  obtain ⟨rfl, rfl⟩ := trodVars_none hV
  obtain ⟨a0, len0, cap0, rfl⟩ := okWide_slice Try.underlying48 (hval 0 48 v0 rfl rfl)
  have k0 := h0
  have lt0 : ∀ x ∈ p0, x.block < W.heap.size := by obtain ⟨m, hm⟩ := k0; exact DataW.trod_lt m _ _ _ hm
  obtain ⟨hn, w0⟩ := ticks_of h0 (bulk_first (r := d1 :: d2 :: []) (by simpa using hk))
  obtain ⟨a1, rfl, rfl, rfl, w1⟩ := open_int Try.underlying3 (hval 1 3 v1 rfl rfl) h1
  obtain ⟨a2, rfl, rfl, rfl, w2⟩ := open_int Try.underlying3 (hval 2 3 v2 rfl rfl) h2
  clear hA0 hval0
  refine (never_row a0 len0 cap0 a1 a2 W hn w0 w1 w2).mono fun e W' ⟨he, bel⟩ => ?_
  subst he
  exact ⟨_, rfl, _, _, _, [], _, [], hW', trodAll_mk1 (shut_bool Try.underlying4 _), (trodAll_cons_mk (Below.trod never_laidOut (by kernel_rfl) (of_decide_eq_true (by kernel_rfl)) k0 bel lt0) (trodAll_cons_mk (shut_int Try.underlying3 w1) (trodAll_cons_mk (shut_int Try.underlying3 w2) trodAll_mk0))), rfl, bel.frame _, fun h => by cases h⟩

set_option maxRecDepth 100000 in
theorem never_lifted (os : Os) (started : os.Started) (H : Type) (enc : TypeId × Value → H) (F : Stop.Interp) :
    ReturnsInHanded {} Try.checked os 6 .any ((Rows.OpenSpec.upto Rows.neverSpec).pre6 enc Try.prog Try.f6 Rows.neverUptoRow.domain false) (((Rows.OpenSpec.upto Rows.neverSpec).at F).post enc Try.prog Try.f6 false true false false) := by
  refine returnsInHanded_of_cond (C := Try.checked) (s := Rows.OpenSpec.upto Rows.neverSpec) (k := Rows.uptoSmall) rfl never_own started (by kernel_rfl) Try.func6
    (OpenSpec.witness (enc := enc) (C := Try.checked) (s := Rows.OpenSpec.upto Rows.neverSpec) (k := Rows.uptoSmall) rfl false ⟨#[], #[.slice none 0 0, .int .i64 0, .int .i64 0], []⟩ 8 (by kernel_rfl) (by kernel_rfl) (by kernel_rfl)
      (x := ([.nil, .lit (.int .i64 0), .lit (.int .i64 0)], [], [])) (by kernel_rfl) rfl (by kernel_rfl)) ?_
  intro W base args ds gs before hval hW _ hk _
  exact never_contract H enc W base args ds gs before hval hW hk

/-- The statement. -/
theorem never_holds : Rows.NeverUptoSaid :=
  OpenClaim.holds_of_cond 6 Try.f6 rfl rfl rfl rfl rfl rfl rfl ⟨rfl, rfl, rfl, rfl, rfl⟩ rfl rfl rfl rfl rfl (by kernel_rfl) Try.func6 (by kernel_rfl)
    (of_decide_eq_true (by kernel_rfl)) (by unfold Func.isWrapper; first | (rw [if_pos (by decide +kernel)]; kernel_rfl) | (rw [if_neg (by decide +kernel)]; exact ⟨rfl, rfl⟩))
    (fun os started H enc _ F => never_lifted os started H enc F)

#print axioms never_holds
end Go.Proofs.Ytdplffhieekfaaa
