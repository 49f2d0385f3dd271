/-
  A desk in memory, and what its small methods answer: nextSeq, nextTime, refusal; the atomic count.
  Conditions: the desk's cells are known.
-/
import Derived.Test.YtdplffhieekfaaaDoorNums
import Derived.Test.YtdplffhieekfaaaDoorComm
import Derived.Lib.QuietBelow
namespace Go.Proofs.YtdplffhieekfaaaDoor
open Go.RowKit Go.Conc

/-- What a desk is, as data: its lease, what may be borrowed, the time of its last number, how many of that time were given, how many in all. -/
structure Dk where
  node : Int
  frm : Int
  to : Int
  brw : Int
  time : Int
  nxt : Int
  given : Int

/-- What stays of the world but for the blocks that S names, and new ones. -/
structure Keep (S : Nat → Prop) (w w' : World) : Prop where
  os : w'.os = w.os
  tape : w'.tape = w.tape
  output : w'.output = w.output
  size : w.heap.size ≤ w'.heap.size
  block : ∀ k, k < w.heap.size → ¬ S k → w'.heap[k]? = w.heap[k]?

theorem Keep.refl (S : Nat → Prop) (w : World) : Keep S w w := ⟨rfl, rfl, rfl, Nat.le_refl _, fun _ _ _ => rfl⟩
theorem Keep.trans {S : Nat → Prop} {a b c : World} (h : Keep S a b) (k : Keep S b c) : Keep S a c :=
  ⟨k.os.trans h.os, k.tape.trans h.tape, k.output.trans h.output, Nat.le_trans h.size k.size, fun i hi hs => (k.block i (Nat.lt_of_lt_of_le hi h.size) hs).trans (h.block i hi hs)⟩
/-- The second may write what is new to the first. -/
theorem Keep.trans' {S T : Nat → Prop} {a b c : World} (h : Keep S a b) (k : Keep T b c) (hT : ∀ i, i < a.heap.size → T i → S i) : Keep S a c :=
  ⟨k.os.trans h.os, k.tape.trans h.tape, k.output.trans h.output, Nat.le_trans h.size k.size, fun i hi hs => (k.block i (Nat.lt_of_lt_of_le hi h.size) (fun ht => hs (hT i hi ht))).trans (h.block i hi hs)⟩
theorem Keep.of_below {S : Nat → Prop} {w w' : World} (h : Below w.heap.size w w') : Keep S w w' := ⟨h.os, h.tape, h.output, h.size, fun k hk _ => h.block k hk⟩
theorem Keep.below {S : Nat → Prop} {w w' : World} {B : Nat} (h : Keep S w w') (hB : B ≤ w.heap.size) (hS : ∀ k, k < B → ¬ S k) : Below B w w' := ⟨h.os, h.tape, h.output, h.size, fun k hk => h.block k (Nat.lt_of_lt_of_le hk hB) (hS k hk)⟩
theorem Keep.mono {S T : Nat → Prop} {w w' : World} (h : Keep S w w') (hT : ∀ k, k < w.heap.size → S k → T k) : Keep T w w' := ⟨h.os, h.tape, h.output, h.size, fun k hk ht => h.block k hk (fun hs => ht (hT k hk hs))⟩
theorem Keep.cell {S : Nat → Prop} {w w' : World} (h : Keep S w w') {p : Addr} (hp : p.block < w.heap.size) (hs : ¬ S p.block) : w'.cell? p = w.cell? p := World.cell?_of_block (w := w) (h.block p.block hp hs)
theorem Keep.frozen {S : Nat → Prop} {w w' : World} (h : Keep S w w') {p : Addr} (hp : p.block < w.heap.size) (hs : ¬ S p.block) : w'.frozen? p = w.frozen? p := World.frozen?_of_block (w := w) (h.block p.block hp hs)
theorem Keep.drew {S : Nat → Prop} {a w : World} (h : Keep S a w) : Keep S a w.drew := ⟨h.os, h.tape, h.output, h.size, h.block⟩
theorem Keep.drewN {S : Nat → Prop} {a w : World} (h : Keep S a w) (n : Nat) : Keep S a (w.drewN n) := ⟨h.os, h.tape, h.output, h.size, h.block⟩
theorem Keep.setCell {S : Nat → Prop} {a w : World} (h : Keep S a w) {p : Addr} (hp : p.block < a.heap.size → S p.block) (u : Value) : Keep S a (w.setCell p u) :=
  h.trans' (T := fun k => k = p.block) ⟨rfl, rfl, rfl, by simp [World.setCell], fun k _ hk => Below.heap_setCell _ _ _ _ hk⟩ (fun i hi e => e ▸ hp (e ▸ hi))
theorem Keep.alloc {S : Nat → Prop} {a w : World} (h : Keep S a w) (o : Obj) : Keep S a (w.alloc o) :=
  h.trans (Keep.of_below ((Below.refl _ w).alloc (Nat.le_refl _) o))
theorem Keep.setChan {S : Nat → Prop} {a w : World} (h : Keep S a w) {c : Nat} (hc : c < a.heap.size → S c) (cap : Nat) (buf : Array Value) (cl : Bool) (s r : Nat) (tm : Bool) : Keep S a (w.setChan c cap buf cl s r tm) :=
  h.trans' (T := fun k => k = c) ⟨rfl, rfl, rfl, by simp [World.setChan], fun k _ hk => by simp only [World.setChan]; rw [Array.getElem?_setIfInBounds_ne (by omega)]⟩ (fun i hi e => e ▸ hc (e ▸ hi))

/-- The desk's own cells. -/
structure Cells (w : World) (b : Nat) (c : Option Nat) (made : Int) (s : Dk) : Prop where
  c0 : w.cell? ⟨b, 0, none⟩ = some (.int .i64 s.node)
  c1 : w.cell? ⟨b, 1, none⟩ = some (.int .i64 s.frm)
  c2 : w.cell? ⟨b, 2, none⟩ = some (.int .i64 s.to)
  c3 : w.cell? ⟨b, 3, none⟩ = some (.int .i64 s.brw)
  c4 : w.cell? ⟨b, 4, none⟩ = some (.int .i64 s.time)
  c5 : w.cell? ⟨b, 5, none⟩ = some (.int .i64 made)
  c6 : w.cell? ⟨b, 6, none⟩ = some (.chan c)
  c7 : w.cell? ⟨b, 7, none⟩ = some (.int .i64 s.given)
  fz : ∀ o, w.frozen? ⟨b, o, none⟩ = false

/-- What lies ready: the numbers of the desk's time from the next one on, up to 'made'. -/
def Ready (w : World) (c : Option Nat) (made : Int) (s : Dk) : Prop :=
  match c with
  | none => made = 0 ∧ s.nxt = 0
  | some k => ∃ (buf : Array Value) (sn rc : Nat), w.heap[k]? = some (.chan 32 buf false sn rc false) ∧ made = s.nxt + buf.size ∧ buf.size ≤ 32 ∧
      ∀ j, j < buf.size → buf[j]? = some (.int .u64 (numOf s.time s.node (s.nxt + j)))

/-- A desk's data are such as they can be. -/
structure Dk.Ok (s : Dk) : Prop where
  n0 : 0 ≤ s.node
  n1 : s.node < 1024
  f0 : 0 ≤ s.frm
  ft : s.frm < s.to
  t1 : s.to ≤ 2199023255552
  b0 : 0 ≤ s.brw
  b1 : s.brw ≤ 1000
  m0 : 0 ≤ s.time
  m1 : s.time < 2199023255552
  x0 : 0 ≤ s.nxt
  x1 : s.nxt ≤ 4096

/-- A desk in memory. -/
structure DeskAt (w : World) (b : Nat) (c : Option Nat) (s : Dk) : Prop where
  ok : s.Ok
  lay : ∃ made, made ≤ 4096 ∧ Cells w b c made s ∧ Ready w c made s

theorem len_nil (w : World) (ty : TypeId) : (Builtin.len_ #[64] ty #[.chan none]).run Tryd.prog w = .ok (goInt 0) w := by
  simp [Builtin.len_, run_underlying Tryd.underlying64]

theorem len_some {w : World} {k : Nat} {cap s r : Nat} {buf : Array Value} {closed : Bool} (h : w.heap[k]? = some (.chan cap buf closed s r false)) (ty : TypeId) :
    (Builtin.len_ #[64] ty #[.chan (some k)]).run Tryd.prog w = .ok (goInt buf.size) w := by
  simp [Builtin.len_, run_underlying Tryd.underlying64, run_getObj_chan _ _ h]

set_option maxHeartbeats 400000 in
theorem nextSeq_other (b : Nat) (t time : Int) (w : World) (h4 : w.cell? ⟨b, 4, none⟩ = some (.int .i64 time)) (hne : (t == time) = false) :
    Calls Tryd.prog 59 #[.pointer (some ⟨b, 0, none⟩), .int .i64 t] w fun e w' => e = .returned (.int .i64 0) ∧ ∃ n, w' = w.drewN n := by
  have hne' : (t != time) = true := by simp [bne, hne]
  go_enter Tryd.func59, Tryd.ntmps59
  go_wp2
  go_ret
  exact ⟨rfl, 0, rfl⟩

set_option maxHeartbeats 400000 in
theorem nextSeq_same (b : Nat) (t made len : Int) (c : Option Nat) (w : World) (h4 : w.cell? ⟨b, 4, none⟩ = some (.int .i64 t)) (h5 : w.cell? ⟨b, 5, none⟩ = some (.int .i64 made)) (h6 : w.cell? ⟨b, 6, none⟩ = some (.chan c))
    (hl : ∀ n ty, (Builtin.len_ #[64] ty #[.chan c]).run Tryd.prog (w.drewN n) = .ok (.int .i64 len) (w.drewN n)) (m0 : 0 ≤ made) (m1 : made ≤ 4096) (l0 : 0 ≤ len) (l1 : len ≤ 32) :
    Calls Tryd.prog 59 #[.pointer (some ⟨b, 0, none⟩), .int .i64 t] w fun e w' => e = .returned (.int .i64 (made - len)) ∧ ∃ n, w' = w.drewN n := by
  go_enter Tryd.func59, Tryd.ntmps59
  go_wp2
  go_quiet (fail)
  go_wp2
  go_ret
  exact ⟨rfl, _, rfl⟩

/-- The place of the next number, if it has the time t. -/
def seqOf (s : Dk) (t : Int) : Int := if t = s.time then s.nxt else 0

theorem DeskAt.seq {w : World} {b : Nat} {c : Option Nat} {s : Dk} (h : DeskAt w b c s) (t : Int) :
    Calls Tryd.prog 59 #[.pointer (some ⟨b, 0, none⟩), .int .i64 t] w fun e w' => e = .returned (.int .i64 (seqOf s t)) ∧ ∃ n, w' = w.drewN n := by
  obtain ⟨ok, made, hm, hc, hr⟩ := h
  unfold seqOf
  by_cases ht : t = s.time
  · subst ht
    rw [if_pos rfl]
    cases c with
    | none =>
      obtain ⟨h1, h2⟩ := hr
      have := nextSeq_same b s.time made 0 none w hc.c4 hc.c5 hc.c6 (fun n ty => len_nil _ ty) (by omega) (by omega) (by omega) (by omega)
      have e1 : made - 0 = s.nxt := by omega
      rw [e1] at this
      exact this
    | some k =>
      obtain ⟨buf, sn, rc, h1, h2, h3, _⟩ := hr
      have h0 := ok.x0
      have := nextSeq_same b s.time made buf.size (some k) w hc.c4 hc.c5 hc.c6 (fun n ty => len_some (w := w.drewN n) h1 ty) (by omega) (by omega) (by omega) (by omega)
      have e1 : made - buf.size = s.nxt := by omega
      rw [e1] at this
      exact this
  · rw [if_neg ht]
    exact nextSeq_other b t s.time w hc.c4 (by simpa using ht)

/-- The time of the next number. -/
def timeOf (s : Dk) (now : Int) : Int :=
  if seqOf s (max now (max s.frm s.time)) = 4096 then max now (max s.frm s.time) + 1 else max now (max s.frm s.time)

theorem DeskAt.drewN {w : World} {b : Nat} {c : Option Nat} {s : Dk} (h : DeskAt w b c s) (n : Nat) : DeskAt (w.drewN n) b c s := by
  obtain ⟨ok, made, hm, hc, hr⟩ := h
  exact ⟨ok, made, hm, ⟨hc.c0, hc.c1, hc.c2, hc.c3, hc.c4, hc.c5, hc.c6, hc.c7, hc.fz⟩, hr⟩

theorem ret_int {k : IntKind} {a b : Int} (h : a = b) : Ending.returned (.int k a) = .returned (.int k b) := by rw [h]

set_option maxHeartbeats 400000 in
theorem ntime_any (b : Nat) (now frm time top q : Int) (w : World) (c1 : w.cell? ⟨b, 1, none⟩ = some (.int .i64 frm)) (c4 : w.cell? ⟨b, 4, none⟩ = some (.int .i64 time))
    (hs : ∀ n, Calls Tryd.prog 59 #[.pointer (some ⟨b, 0, none⟩), .int .i64 top] (w.drewN n) fun e w' => e = .returned (.int .i64 q) ∧ ∃ m, w' = (w.drewN n).drewN m)
    (hq : q = 4096 → top < 2199023255552 ∧ 0 ≤ top) (htop : top = max now (max frm time)) :
    Calls Tryd.prog 29 #[.pointer (some ⟨b, 0, none⟩), .int .i64 now] w fun e w' => e = .returned (.int .i64 (if q = 4096 then top + 1 else top)) ∧ ∃ n, w' = w.drewN n := by
  have key : ∀ x : Int, x = top → (∀ P : Prop, (now < frm → frm < time → x = time → P) → (now < frm → ¬ frm < time → x = frm → P) → (¬ now < frm → now < time → x = time → P) → (¬ now < frm → ¬ now < time → x = now → P) → P) := by
    intro x hx P p1 p2 p3 p4
    by_cases h1 : now < frm
    · by_cases h2 : frm < time
      · exact p1 h1 h2 (by omega)
      · exact p2 h1 h2 (by omega)
    · by_cases h2 : now < time
      · exact p3 h1 h2 (by omega)
      · exact p4 h1 h2 (by omega)
  clear htop
  by_cases hq4 : q = 4096
  · obtain ⟨g1, g2⟩ := hq hq4
    rw [if_pos hq4]
    have hqb : (q == 4096) = true := by simpa using hq4
    clear hq hq4
    refine key top rfl _ ?_ ?_ ?_ ?_ <;>
    · intro h1 h2 h3
      subst h3
      clear key
      go_enter Tryd.func29, Tryd.ntmps29
      go_wp2
      go_quiet (fail)
      go_wp2_with (go_at_call 59; refine (hs _).mono ?_; rintro e w' ⟨rfl, m, rfl⟩)
      go_ret
      exact ⟨rfl, _, rfl⟩
  · rw [if_neg hq4]
    have hqb : (q == 4096) = false := by simpa using hq4
    clear hq hq4
    refine key top rfl _ ?_ ?_ ?_ ?_ <;>
    · intro h1 h2 h3
      subst h3
      clear key
      go_enter Tryd.func29, Tryd.ntmps29
      go_wp2
      go_quiet (fail)
      go_wp2_with (go_at_call 59; refine (hs _).mono ?_; rintro e w' ⟨rfl, m, rfl⟩)
      go_ret
      exact ⟨rfl, _, rfl⟩

theorem DeskAt.ntime {w : World} {b : Nat} {c : Option Nat} {s : Dk} (h : DeskAt w b c s) (now : Int) :
    Calls Tryd.prog 29 #[.pointer (some ⟨b, 0, none⟩), .int .i64 now] w fun e w' => e = .returned (.int .i64 (timeOf s now)) ∧ ∃ n, w' = w.drewN n := by
  have hs := fun n => (h.drewN n).seq (max now (max s.frm s.time))
  obtain ⟨ok, made, hm, hc, hr⟩ := h
  refine ntime_any b now s.frm s.time _ (seqOf s (max now (max s.frm s.time))) w hc.c1 hc.c4 hs (fun hq => ?_) rfl
  have h1 := ok.m0
  have h2 := ok.m1
  unfold seqOf at hq
  split at hq <;> omega

set_option maxHeartbeats 400000 in
theorem refusal_any (b : Nat) (t now to brw : Int) (w : World) (c2 : w.cell? ⟨b, 2, none⟩ = some (.int .i64 to)) (c3 : w.cell? ⟨b, 3, none⟩ = some (.int .i64 brw)) (b0 : 0 ≤ brw) (b1 : brw ≤ 1000) (t1 : to ≤ 2199023255552) (hn : now ≤ t) (hn0 : -9223372036854775808 ≤ now) :
    Calls Tryd.prog 30 #[.pointer (some ⟨b, 0, none⟩), .int .i64 t, .int .i64 now] w fun e w' => e = .returned (.int .i64 (if to ≤ t then 7 else if now + brw < t then 8 else 0)) ∧ w' = w := by
  by_cases h1 : to ≤ t
  · rw [if_pos h1]
    go_enter Tryd.func30, Tryd.ntmps30
    go_wp2
    go_ret
    exact ⟨rfl, rfl⟩
  · rw [if_neg h1]
    by_cases h2 : now + brw < t
    · rw [if_pos h2]
      go_enter Tryd.func30, Tryd.ntmps30
      go_wp2
      go_ret
      exact ⟨rfl, rfl⟩
    · rw [if_neg h2]
      go_enter Tryd.func30, Tryd.ntmps30
      go_wp2
      go_ret
      exact ⟨rfl, rfl⟩

end Go.Proofs.YtdplffhieekfaaaDoor
