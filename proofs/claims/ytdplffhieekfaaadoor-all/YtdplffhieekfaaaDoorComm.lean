/-
  For code that communicates over channels in one goroutine: a walk over frames of an ordinary call, and what one send, one receive and one select with a default do there.
  Conditions: the frame is one of an ordinary call; the channel's block is known.
-/
import Derived.Conc.LoneSelect
import Derived.Conc.Own
import Derived.Deep.Quiet
import Derived.StillTail
import Derived.Tactics
namespace Go.Proofs.YtdplffhieekfaaaDoor
open Go Go.Conc

/-- As 'Code.wp', of frames of an ordinary call alone. -/
def wpN (P : Program) (c : Code) (Q : Exit → Act → World → Prop) (a : Act) (w : World) : Prop :=
  ∀ (b : Frame) (k : List Item) (cs : List Frame), b.kind = .normal →
    ∃ e a' w', Q e a' w' ∧ Arrives P (lone (b.at a (.code c :: k)) cs w) b k cs e a' w'

/-- The operations of a region that are left. -/
def opsN (P : Program) (ops : Array Oper) (Q : Exit → Act → World → Prop) (l : List Nat) (a : Act) (w : World) : Prop :=
  ∀ (b : Frame) (k : List Item) (cs : List Frame), b.kind = .normal →
    ∃ e a' w', Q e a' w' ∧ Arrives P (lone (b.at a (.inRegion ops l :: k)) cs w) b k cs e a' w'

section
variable {P : Program} {Q : Exit → Act → World → Prop} {a : Act} {w : World} {ops : Array Oper}

theorem wpN_of_wp {c : Code} (h : c.wp P Q a w) : wpN P c Q a w := fun b k cs _ => h b k cs

theorem wpN_seq {x y : Code} (h : wpN P x (Exit.then (wpN P y Q) Q) a w) : wpN P (.seq x y) Q a w := by
  intro b k cs hb
  obtain ⟨e, a₁, w₁, hq, harr⟩ := h b (.code y :: k) cs hb
  cases e with
  | normal =>
    obtain ⟨e₂, a₂, w₂, hq₂, harr₂⟩ := hq b k cs hb
    exact ⟨e₂, a₂, w₂, hq₂, .of_steps (.head step_seq harr) harr₂⟩
  | exit id => exact ⟨_, a₁, w₁, hq, .of_steps (.one step_seq) (.pass (x := .code y) rfl (fun _ _ => .inl (by simp)) harr)⟩
  | goto l => exact ⟨_, a₁, w₁, hq, .of_steps (.one step_seq) (.pass (x := .code y) rfl (fun _ _ => .inl (by simp)) harr)⟩
  | ret => exact ⟨_, a₁, w₁, hq, .of_steps (.one step_seq) (.pass (x := .code y) rfl (fun _ _ => .inl (by simp)) harr)⟩
  | panic ch => exact ⟨_, a₁, w₁, hq, .of_steps (.one step_seq) (.pass (x := .code y) rfl (fun _ _ => .inl (by simp)) harr)⟩
  | outgrown => exact ⟨_, a₁, w₁, hq, .of_steps (.one step_seq) (.pass (x := .code y) rfl (fun _ _ => .inl (by simp)) harr)⟩

/-- The first part holds no communication. -/
theorem wpN_seq_wp {x y : Code} (h : x.wp P (Exit.then (wpN P y Q) Q) a w) : wpN P (.seq x y) Q a w := wpN_seq (wpN_of_wp h)

theorem wpN_seq_k {x y : Code} (h : ∀ K : Act → World → Prop, (∀ a w, wpN P y Q a w → K a w) → x.wp P (Exit.then K Q) a w) : wpN P (.seq x y) Q a w :=
  wpN_seq_wp (h _ fun _ _ h => h)

theorem wpN_cond {c : Operand} {x y : Code} {t : Bool} (hc : a.eval c = .bool t) (h : wpN P (if t then x else y) Q a w) :
    wpN P (.cond c x y) Q a w :=
  fun b k cs hb => let ⟨e, a', w', q, r⟩ := h b k cs hb; ⟨e, a', w', q, .of_steps (.one (step_cond hc)) r⟩

theorem wpN_block {id : Nat} {c : Code} (h : wpN P c (Exit.inBlock id Q) a w) : wpN P (.block id c) Q a w := by
  intro b k cs hb
  obtain ⟨e, a₁, w₁, hq, harr⟩ := h b (.inBlock id :: k) cs hb
  cases e with
  | normal => exact ⟨.normal, a₁, w₁, hq, .head step_block (Steps.trans harr (.one step_inBlock))⟩
  | exit id' =>
    by_cases hid : id' = id
    · simp only [Exit.inBlock, hid, if_true] at hq
      exact ⟨.normal, a₁, w₁, hq, .head step_block (harr k (by simp [exitTo, hid]))⟩
    · simp only [Exit.inBlock, hid, if_false] at hq
      refine ⟨.exit id', a₁, w₁, hq, fun k' hk => .head step_block (harr k' ?_)⟩
      have : (id == id') = false := by simp; exact fun h => hid h.symm
      simp [exitTo, this, hk]
  | goto l => exact ⟨_, a₁, w₁, hq, fun k' hk => .head step_block (harr k' (by simp [gotoIn, hk]))⟩
  | ret => exact ⟨_, a₁, w₁, hq, .of_steps (.one step_block) harr⟩
  | panic ch => exact ⟨_, a₁, w₁, hq, .of_steps (.one step_block) harr⟩
  | outgrown => exact ⟨_, a₁, w₁, hq, .of_steps (b := b) (k := k) (cs := cs) (e := .outgrown) (.one step_block) harr⟩

theorem wpN_loop {c : Code} (I : Act → World → Prop) (μ : Act → World → Nat) (h₀ : I a w)
    (round : ∀ a w, I a w → wpN P c (Exit.then (fun a' w' => I a' w' ∧ μ a' w' < μ a w) Q) a w) : wpN P (.loop c) Q a w := by
  intro b k cs hb
  have key : ∀ n a w, μ a w = n → I a w →
      ∃ e a' w', Q e a' w' ∧ Arrives P (lone (b.at a (.code c :: .inLoop c :: k)) cs w) b k cs e a' w' := by
    intro n
    induction n using Nat.strongRecOn with
    | _ n ih =>
      intro a w hn hI
      obtain ⟨e, a₁, w₁, hq, harr⟩ := round a w hI b (.inLoop c :: k) cs hb
      cases e with
      | normal =>
        obtain ⟨hI₁, hlt⟩ := hq
        obtain ⟨e₂, a₂, w₂, hq₂, harr₂⟩ := ih (μ a₁ w₁) (hn ▸ hlt) a₁ w₁ rfl hI₁
        exact ⟨e₂, a₂, w₂, hq₂, .of_steps (Steps.trans harr (.one step_inLoop)) harr₂⟩
      | exit id => exact ⟨_, a₁, w₁, hq, .pass (x := .inLoop c) rfl (fun _ _ => .inl (by simp)) harr⟩
      | goto l => exact ⟨_, a₁, w₁, hq, .pass (x := .inLoop c) rfl (fun _ _ => .inl (by simp)) harr⟩
      | ret => exact ⟨_, a₁, w₁, hq, .pass (x := .inLoop c) rfl (fun _ _ => .inl (by simp)) harr⟩
      | panic ch => exact ⟨_, a₁, w₁, hq, .pass (x := .inLoop c) rfl (fun _ _ => .inl (by simp)) harr⟩
      | outgrown => exact ⟨_, a₁, w₁, hq, .pass (x := .inLoop c) rfl (fun _ _ => .inl (by simp)) harr⟩
  obtain ⟨e, a', w', hq, harr⟩ := key _ a w rfl h₀
  exact ⟨e, a', w', hq, .of_steps (.one step_loop) harr⟩

/-- From the walk to the call. -/
theorem calls_of_wpN {f : FuncId} {fn : Func} {c : Code} {args : Array Value} {R : Ending → World → Prop}
    (hf : P.funcs[f]? = some fn) (hb : fn.body = some c)
    (h : wpN P c (bodyPost P fn R) { tmps := args ++ Array.replicate (fn.ntmps - args.size) undef, defers := [] } w) :
    Calls P f args w R := by
  intro cs
  let b : Frame := { (default : Frame) with fn := f, kind := .normal }
  have henter : Frame.enter P f args .normal =
      b.at { tmps := args ++ Array.replicate (fn.ntmps - args.size) undef, defers := [] } [.code c] := by
    simp [Frame.enter, Frame.at, hf, hb, b]
  obtain ⟨e, a', w', hq, harr⟩ := h b [] cs rfl
  rw [← henter] at harr
  cases e with
  | normal =>
    obtain ⟨hd, v, hr, hR⟩ := hq
    exact ⟨.returned v, w', _, hR, Steps.trans harr (.one step_end), rfl, rfl, hd, rfl, fn, hf, hr⟩
  | ret =>
    obtain ⟨hd, v, hr, hR⟩ := hq
    obtain ⟨todo, hs⟩ := harr
    exact ⟨.returned v, w', _, hR, hs, rfl, rfl, hd, rfl, fn, hf, hr⟩
  | panic chain =>
    obtain ⟨hd, hR⟩ := hq
    obtain ⟨todo, hs⟩ := harr
    exact ⟨.panicked chain, w', _, hR, hs, rfl, rfl, hd, fn, hf⟩
  | exit id => exact hq.elim
  | goto l => exact hq.elim
  | outgrown => exact ⟨.outgrown, w', b, hq, harr.resolve_left (by simp [b]), rfl, trivial⟩

/-! ### the operations of a region -/
theorem wpN_region {id : Nat} (h : opsN P ops Q (List.range ops.size) a w) : wpN P (.region id ops false) Q a w :=
  fun b k cs hb => let ⟨e, a', w', q, r⟩ := h b k cs hb; ⟨e, a', w', q, .of_steps (.one step_region) r⟩

theorem wpN_region_draw {id : Nat} (h : ∀ t, opsN P ops Q (Region.schedule (P.follows .mixedOrders) ops t) a { w with drawn := w.drawn + 1 }) :
    wpN P (.region id ops true) Q a w :=
  fun b k cs hb => let ⟨e, a', w', q, r⟩ := h _ b k cs hb; ⟨e, a', w', q, .of_steps (.one step_region_draw) r⟩

theorem opsN_nil (h : Q .normal a w) : opsN P ops Q [] a w := fun _ _ _ _ => ⟨.normal, a, w, h, .one step_region_end⟩

/-- An operation that does not communicate. -/
theorem opsN_op {i : Nat} {rest : List Nat} {o : Oper} (ho : ops[i]? = some o) (hw : Region.wanted o (yielded ops a.tmps) = true)
    (h : o.wp P a w (opsN P ops Q rest) Q) : opsN P ops Q (i :: rest) a w := by
  intro b k cs hb
  have hg := stepG_op (P := P) (b := b) (k := k) (cs := cs) (w := w) (rest := rest) ho hw
  have hfin : ∀ v, (b.at a (.inRegion ops (i :: rest) :: k)).finish v = b.at (a.put o.dst v) (.inRegion ops rest :: k) := by
    intro v; rw [Frame.finish_at, ho]; rfl
  simp only [Oper.wp] at h
  cases hr : (execOp a.eval o).run P w with
  | halt x w' =>
    rw [hr] at h
    cases x with
    | panic v =>
      simp only [Oper.upon] at h
      refine ⟨_, a, w', h, .inRegion ops (i :: rest) :: k, .one (step_lone_go ?_)⟩
      rw [hg, ← Frame.raise_at]; simp [stepG.apply, hr]
    | _ => simp [Oper.upon] at h
  | ok nx w' =>
    rw [hr] at h
    cases nx with
    | value v =>
      obtain ⟨e, a', w'', hq, harr⟩ := h b k cs hb
      refine ⟨e, a', w'', hq, .of_steps (.one (step_lone_go ?_)) harr⟩
      rw [hg, ← hfin]; simp [stepG.apply, hr]
    | skip =>
      obtain ⟨e, a', w'', hq, harr⟩ := h b k cs hb
      refine ⟨e, a', w'', hq, .of_steps (.one (step_lone_go ?_)) harr⟩
      rw [hg, ← hfin]; simp [stepG.apply, hr]
    | defer d =>
      obtain ⟨e, a', w'', hq, harr⟩ := h b k cs hb
      refine ⟨e, a', w'', hq, .of_steps (.one (step_lone_go ?_)) harr⟩
      have this : ({ b.at a (.inRegion ops (i :: rest) :: k) with defers := d :: a.defers } : Frame).finish undef =
          b.at ({ a with defers := d :: a.defers }.put o.dst undef) (.inRegion ops rest :: k) := by
        have h1 := Frame.finish_at b { a with defers := d :: a.defers } ops i rest k undef
        rw [ho] at h1; exact h1
      rw [hg]; simp only [stepG.apply, Sem.runT_eq, hr, GStep.bare_after]
      exact congrArg (fun fr => GStep.go { frame := fr, callers := cs, status := .running, dying := none } w') this
    | enter f args =>
      obtain ⟨e, w'', fr, hR, hsteps, _, hleave⟩ := h (b.at a (.inRegion ops (i :: rest) :: k) :: cs)
      have henter : step P (lone (b.at a (.inRegion ops (i :: rest) :: k)) cs w) =
          .next (lone (Frame.enter P f args .normal) (b.at a (.inRegion ops (i :: rest) :: k) :: cs) w') :=
        step_lone_go (by rw [hg]; simp [stepG.apply, hr, Frame.at])
      cases e with
      | returned v =>
        obtain ⟨e, a', w₃, hq, harr⟩ := hR b k cs hb
        refine ⟨e, a', w₃, hq, .of_steps (.head henter (hsteps.trans (.one ?_))) harr⟩
        rw [← hfin]; exact step_leave_returned hleave
      | panicked chain =>
        refine ⟨.panic chain, a, w'', hR, .inRegion ops (i :: rest) :: k, .head henter (hsteps.trans (.one ?_))⟩
        rw [← Frame.raise_at]; exact step_leave_panicked hleave
      | outgrown =>
        obtain ⟨a₀, w₀, hq⟩ := hR
        exact ⟨.outgrown, a₀, w₀, hq, .inr (Outgrown.of_steps (.one henter) hsteps)⟩
    | row row args =>
      obtain ⟨v, w'', hR, hsteps⟩ := h (b.at a (.inRegion ops (i :: rest) :: k)) cs
      have henter : step P (lone (b.at a (.inRegion ops (i :: rest) :: k)) cs w) =
          .next (lone (Frame.ofRow P row args .normal) (b.at a (.inRegion ops (i :: rest) :: k) :: cs) w') :=
        step_lone_go (by rw [hg]; simp [stepG.apply, hr, Frame.at])
      obtain ⟨e, a', w₃, hq, harr⟩ := hR b k cs hb
      refine ⟨e, a', w₃, hq, .of_steps (.head henter ?_) harr⟩
      rw [← hfin]; exact hsteps
    | _ => simp [Oper.upon] at h

theorem opsN_skip {i : Nat} {rest : List Nat} {o : Oper} (ho : ops[i]? = some o) (hw : Region.wanted o (yielded ops a.tmps) = false)
    (h : opsN P ops Q rest (a.put o.dst undef) w) : opsN P ops Q (i :: rest) a w := by
  intro b k cs hb
  obtain ⟨e, a', w', hq, harr⟩ := h b k cs hb
  have hs := step_op_skip (P := P) (b := b) (a := a) (k := k) (cs := cs) (w := w) (ops := ops) (i := i) (rest := rest) (by simp [ho, hw])
  simp only [ho, Option.bind_some] at hs
  exact ⟨e, a', w', hq, .of_steps (.one hs) harr⟩

/-- An operation that communicates: one step of the machine. -/
theorem opsN_comm {i : Nat} {rest : List Nat} {o : Oper} {v : Value} {w' : World} (ho : ops[i]? = some o)
    (hstep : ∀ (b : Frame) (k : List Item) (cs : List Frame), b.kind = .normal →
      step P (solo (G (b.at a (.inRegion ops (i :: rest) :: k)) cs) w) = .next (solo (G ((b.at a (.inRegion ops (i :: rest) :: k)).finish v) cs) w'))
    (h : opsN P ops Q rest (a.put o.dst v) w') : opsN P ops Q (i :: rest) a w := by
  intro b k cs hb
  obtain ⟨e, a', w'', hq, harr⟩ := h b k cs hb
  refine ⟨e, a', w'', hq, .of_steps (.one ?_) harr⟩
  have h1 := hstep b k cs hb
  rw [Frame.finish_at, ho] at h1
  exact h1

section
variable {i : Nat} {rest : List Nat} {o : Oper} {c cap s r : Nat} {buf : Array Value} {z v : Value} {tm closed : Bool}

/-- A send into a buffer with room. -/
theorem opsN_send (ho : ops[i]? = some o) (hg : o.guard = none) (hr : (execOp a.eval o).run P w = .ok (.comm #[scase c v z] true .send) w)
    (hc : w.heap[c]? = some (.chan cap buf false s r tm)) (hroom : buf.size < cap)
    (h : opsN P ops Q rest (a.put o.dst undef) (w.setChan c cap (buf.push v) false (s + 1) r tm)) : opsN P ops Q (i :: rest) a w :=
  opsN_comm ho (fun _ _ _ hb => step_lone_send_room (stepG_comm ho (by simp [Region.wanted, hg]) (by simp [hb]) hr) hc hroom) h

/-- A receive from a buffer that holds something. -/
theorem opsN_recv (ho : ops[i]? = some o) (hg : o.guard = none) (hr : (execOp a.eval o).run P w = .ok (.comm #[rcase c z] true (.recv false)) w)
    (hc : w.heap[c]? = some (.chan cap buf closed s r tm)) (hsome : 0 < buf.size)
    (h : opsN P ops Q rest (a.put o.dst (buf.getD 0 undef)) (w.setChan c cap (buf.extract 1 buf.size) closed s (r + 1) tm)) : opsN P ops Q (i :: rest) a w :=
  opsN_comm (v := got false (buf.getD 0 undef) true) ho (fun _ _ _ hb => step_lone_recv_buf false (stepG_comm ho (by simp [Region.wanted, hg]) (by simp [hb]) hr) hc hsome) h

/-- A select of one receive with a default: the buffer holds something. -/
theorem opsN_sel_buf (ho : ops[i]? = some o) (hg : o.guard = none) (hr : (execOp a.eval o).run P w = .ok (.comm #[rcase c z] false .select) w)
    (hc : w.heap[c]? = some (.chan cap buf closed s r tm)) (hsome : 0 < buf.size)
    (h : opsN P ops Q rest (a.put o.dst (.tuple #[goInt 0, .bool true, buf.getD 0 undef])) (w.setChan c cap (buf.extract 1 buf.size) closed s (r + 1) tm)) : opsN P ops Q (i :: rest) a w :=
  opsN_comm ho (fun _ _ _ hb => step_lone_select_recv_buf (stepG_comm ho (by simp [Region.wanted, hg]) (by simp [hb]) hr) hc hsome) h

/-- .. the channel is open and empty: the default. -/
theorem opsN_sel_empty (ho : ops[i]? = some o) (hg : o.guard = none) (hr : (execOp a.eval o).run P w = .ok (.comm #[rcase c z] false .select) w)
    (hc : w.heap[c]? = some (.chan cap #[] false s r tm))
    (h : opsN P ops Q rest (a.put o.dst (.tuple #[goInt (-1), .bool false, z])) w) : opsN P ops Q (i :: rest) a w :=
  opsN_comm ho (fun _ _ _ hb => step_lone_select_default (stepG_comm ho (by simp [Region.wanted, hg]) (by simp [hb]) hr) hc) h

/-- .. the nil channel: the default. -/
theorem opsN_sel_nil (ho : ops[i]? = some o) (hg : o.guard = none) (hr : (execOp a.eval o).run P w = .ok (.comm #[rcaseNil z] false .select) w)
    (h : opsN P ops Q rest (a.put o.dst (.tuple #[goInt (-1), .bool false, z])) w) : opsN P ops Q (i :: rest) a w :=
  opsN_comm ho (fun _ _ _ hb => step_lone_select_recv_nil (stepG_comm ho (by simp [Region.wanted, hg]) (by simp [hb]) hr)) h
end
end

/-! ### a region in the text's order: what stands ahead of a communication, and what stands behind it -/
section
variable {P : Program} {Q : Exit → Act → World → Prop} {ops : Array Oper}

theorem opsN_of_wpOps : ∀ (l rest : List Nat) (a : Act) (w : World), (∀ a w, ¬ Q .outgrown a w) →
    wpOps P ops (Exit.then (opsN P ops Q rest) Q) l a w → opsN P ops Q (l ++ rest) a w
  | [], _, _, _, _, h => h
  | i :: l, rest, a, w, hno, h => by
    have ih := fun a w h => opsN_of_wpOps l rest a w hno h
    have hup : ∀ (o : Oper), o.wp P a w (wpOps P ops (Exit.then (opsN P ops Q rest) Q) l) (Exit.then (opsN P ops Q rest) Q) → o.wp P a w (opsN P ops Q (l ++ rest)) Q := by
      intro o ho
      have h1 := Oper.wp_mono ih ho
      unfold Oper.wp at h1 ⊢
      generalize (execOp a.eval o).run P w = r at h1 ⊢
      cases r with
      | ok n w' =>
        cases n <;> simp only [Oper.upon] at h1 ⊢ <;>
          first
            | exact h1
            | exact Calls.mono h1 (fun e w'' he => by
                cases e with
                | returned v => exact he
                | panicked c => exact he
                | outgrown => exact he)
      | halt x w' => cases x <;> simp only [Oper.upon] at h1 ⊢ <;> exact h1
    simp only [wpOps] at h
    cases ho : ops[i]? with
    | none =>
      simp only [ho] at h
      intro b k cs hb
      obtain ⟨e, a', w', hq, harr⟩ := ih _ _ h b k cs hb
      have hs := step_op_skip (P := P) (b := b) (a := a) (k := k) (cs := cs) (w := w) (ops := ops) (i := i) (rest := l ++ rest) (by simp [ho])
      simp only [ho, Option.bind_none, Act.put] at hs
      exact ⟨e, a', w', hq, .of_steps (.one hs) harr⟩
    | some o =>
      simp only [ho] at h
      cases hw : Region.wanted o (yielded ops a.tmps) with
      | true =>
        simp only [hw, if_true] at h
        rcases h with h | ⟨_, a₀, w₀, hq⟩
        · exact opsN_op ho hw (hup o h)
        · exact absurd hq (hno _ _)
      | false =>
        simp only [hw, Bool.false_eq_true, if_false] at h
        exact opsN_skip ho hw (ih _ _ h)

theorem wpOps_eq_wpList' (l : List Oper) : ∀ k, (∀ j, j < l.length → l[j]? = ops[k + j]?) → wpOps P ops Q (List.range' k l.length) = wpList P ops Q l := by
  induction l with
  | nil => intro k _; funext a w; simp [wpOps, wpList]
  | cons o l ih =>
    intro k h
    have h0 : ops[k]? = some o := by simpa using (h 0 (by simp)).symm
    have ih' := ih (k + 1) (fun j hj => by have := h (j + 1) (by simp; omega); simpa [Nat.add_assoc, Nat.add_comm 1 j] using this)
    funext a w
    simp only [List.length_cons, List.range'_succ, wpOps, h0, wpList, ih']

/-- A region in the text's order, cut behind its first n operations. -/
theorem wpN_region_cut {id : Nat} {a : Act} {w : World} {l : List Oper} (n : Nat) (hn : n ≤ l.length) (hno : ∀ a w, ¬ Q .outgrown a w)
    (hh : ∀ K : Act → World → Prop, (∀ a w, opsN P l.toArray Q (List.range' n (l.length - n)) a w → K a w) → wpList P l.toArray (Exit.then K Q) (l.take n) a w) : wpN P (.region id l.toArray false) Q a w := by
  have h := hh _ (fun _ _ h => h)
  refine wpN_region ?_
  have e : List.range l.toArray.size = List.range' 0 n ++ List.range' n (l.length - n) := by
    rw [List.range_eq_range']
    have h2 := @List.range'_append_1 0 n (l.length - n)
    rw [Nat.zero_add] at h2
    rw [h2, Nat.add_sub_cancel' hn]
    simp
  rw [e]
  refine opsN_of_wpOps _ _ _ _ hno ?_
  have hl : (l.take n).length = n := by simp; omega
  have h3 := wpOps_eq_wpList' (P := P) (ops := l.toArray) (Q := Exit.then (opsN P l.toArray Q (List.range' n (l.length - n))) Q) (l.take n) 0 (fun j hj => by
    rw [hl] at hj
    simp [hj])
  rw [hl] at h3
  rw [h3]; exact h

/-- What stands behind it. -/
theorem opsN_rest {a : Act} {w : World} {l : List Oper} (n m : Nat) (hm : n + m = l.length) (h : wpList P l.toArray Q (l.drop n) a w) : opsN P l.toArray Q (List.range' n m) a w := by
  have hl : (l.drop n).length = m := by simp; omega
  have h3 := wpOps_eq_wpList' (P := P) (ops := l.toArray) (Q := Q) (l.drop n) n (fun j _ => by simp)
  rw [hl] at h3
  have h4 : wpOps P l.toArray Q (List.range' n m) a w := by rw [h3]; exact h
  exact fun b k cs _ => wp_ops _ a w h4 b k cs
end

/-! ### a region that draws its order, quiet but for its last operation -/
section
variable {P : Program} {Q : Exit → Act → World → Prop} {C : World → Prop}

theorem wpQuiet_append {ops : Array Oper} {R : Act → Prop} (l₂ : List Oper) : ∀ (l : List Oper) (a : Act), wpQuiet P ops C (wpQuiet P ops C R l₂) l a → wpQuiet P ops C R (l ++ l₂) a
  | [], _, h => h
  | o :: l, a, h => by
    have ih := wpQuiet_append (ops := ops) (R := R) l₂ l
    simp only [List.cons_append, wpQuiet] at h ⊢
    split
    · rename_i hw; rw [if_pos hw] at h; exact Oper.quiet_mono ih h
    · rename_i hw; rw [if_neg hw] at h; exact ih _ h

/-- The last operation, struck. -/
def struck (o : Oper) : Oper := { o with op := .assign (.const undef) }

/-- Every edge leads back. -/
def backB (ops : Array Oper) : Bool :=
  (List.range ops.size).all fun j => ((ops[j]?).map (·.after.all fun e => !Region.binds .any e || decide (e.on < j))).getD true

theorem ready_nil {ops : Array Oper} (hb : backB ops = true) {listed : Array Bool} (hs : listed.size = ops.size) (h : Region.ready .any ops listed = []) :
    ∀ j, j < ops.size → listed.getD j false = true := by
  intro j
  induction j using Nat.strongRecOn with
  | _ j ih =>
    intro hj
    cases hl : listed.getD j false with
    | true => rfl
    | false =>
      exfalso
      have hm : j ∈ Region.ready .any ops listed := by
        rw [mem_ready]
        refine ⟨getD_in (by omega) hl, ops[j], by simp [hj], fun e he hbd => ?_⟩
        have h1 := List.all_eq_true.1 hb j (by simp [hj])
        simp only [Array.getElem?_eq_getElem hj, Option.map_some, Option.getD_some] at h1
        have h2 := Array.all_eq_true'.1 h1 e he
        simp only [hbd, Bool.not_true, Bool.false_or, decide_eq_true_eq] at h2
        exact ih e.on h2 (by omega)
      rw [h] at hm
      cases hm

theorem go_of_ready_nil {ops : Array Oper} {listed : Array Bool} (h : Region.ready .any ops listed = []) (fuel t : Nat) : Region.linearise.go .any ops fuel t listed [] = [] := by
  cases fuel with
  | zero => simp [Region.linearise.go]
  | succ fuel =>
    simp only [Region.linearise.go]
    change (match (Region.ready .any ops listed)[t % (Region.ready .any ops listed).length]? with
      | some i => Region.linearise.go .any ops fuel (t / (Region.ready .any ops listed).length) (listed.setIfInBounds i true) [i]
      | none => [].reverse) = []
    simp [h]

structure LastAt (ops ops' : Array Oper) (n : Nat) (o : Oper) : Prop where
  size : ops.size = n + 1
  size' : ops'.size = n + 1
  same : ∀ i, i ≠ n → ops'[i]? = ops[i]?
  last : ops[n]? = some o
  last' : ops'[n]? = some (struck o)

theorem LastAt.after {ops ops' : Array Oper} {n : Nat} {o : Oper} (h : LastAt ops ops' n o) (i : Nat) : (ops'[i]?).map (·.after) = (ops[i]?).map (·.after) := by
  by_cases hi : i = n
  · subst hi; rw [h.last, h.last']; rfl
  · rw [h.same i hi]

theorem LastAt.dst {ops ops' : Array Oper} {n : Nat} {o : Oper} (h : LastAt ops ops' n o) (i : Nat) : (ops'[i]?).bind (·.dst) = (ops[i]?).bind (·.dst) := by
  by_cases hi : i = n
  · subst hi; rw [h.last, h.last']; rfl
  · rw [h.same i hi]

theorem LastAt.ready {ops ops' : Array Oper} {n : Nat} {o : Oper} (h : LastAt ops ops' n o) (listed : Array Bool) : Region.ready .any ops' listed = Region.ready .any ops listed := by
  unfold Region.ready
  rw [h.size, h.size']
  refine List.filter_congr fun i _ => ?_
  have ha := h.after i
  have e : ∀ (x : Option Oper), (x.map fun o => o.after.all fun e => !Region.binds .any e || listed.getD e.on false).getD false =
      ((x.map (·.after)).map fun (l : Array Edge) => l.all fun e => !Region.binds .any e || listed.getD e.on false).getD false := by
    intro x; cases x <;> rfl
  rw [e, e, ha]

theorem LastAt.yielded {ops ops' : Array Oper} {n : Nat} {o : Oper} (h : LastAt ops ops' n o) (tmps : Array Value) : yielded ops' tmps = yielded ops tmps := by
  funext j
  unfold Go.yielded
  rw [h.dst j]

theorem ready_lt {ops : Array Oper} {listed : Array Bool} {i : Nat} (h : i ∈ Region.ready .any ops listed) : i < ops.size := by
  unfold Region.ready at h
  have := (List.mem_filter.1 h).1
  simpa using this

/-- When the last one may come up, all others have come up. -/
theorem last_all {ops : Array Oper} {n : Nat} (hs : Region.sinkB .any ops n = true) (hn : n < ops.size) {listed : Array Bool} (inv : HeadInv .any ops n listed)
    (hr : n ∈ Region.ready .any ops listed) : ∀ d i, i + d = n → i < n → listed.getD i false = true := by
  intro d
  induction d using Nat.strongRecOn with
  | _ d ih =>
    intro i hid hin
    have h1 := List.all_eq_true.1 hs i (by simp [hin])
    obtain ⟨j, hj, hw⟩ := List.any_eq_true.1 h1
    simp only [Bool.and_eq_true, decide_eq_true_eq] at hw
    obtain ⟨oj, hoj, e, he, hb, heq⟩ := Region.waitsFor_spec hw.2
    have hjn : j < n + 1 := by simpa using hj
    by_cases hjn' : j = n
    · subst hjn'
      obtain ⟨_, o', ho', hall⟩ := mem_ready.1 hr
      have : oj = o' := Option.some.inj (hoj.symm.trans ho')
      subst this
      have := hall e he hb
      rwa [heq] at this
    · have hj2 := ih (n - j) (by omega) j (by omega) (by omega)
      have := inv.closed j oj hoj hj2 e he hb
      rwa [heq] at this

theorem opsN_quiet_last {ops ops' : Array Oper} {n : Nat} {o : Oper} {R : Act → Prop} (hL : LastAt ops ops' n o) (hg : o.guard = none) (hd : o.dst = none)
    (hs : Region.sinkB .any ops n = true) (hb : backB ops = true)
    (hend : ∀ a w, C w → R a → opsN P ops Q [n] a w) :
    ∀ (fuel t : Nat) (listed : Array Bool) (a : Act) (w : World), C w → HeadInv .any ops n listed → wpAnyQ P .any ops' C R fuel listed a →
      opsN P ops Q (Region.linearise.go .any ops fuel t listed []) a w := by
  have hnS : n < ops.size := by rw [hL.size]; omega
  have hne : ∀ listed, HeadInv .any ops n listed → Region.ready .any ops listed ≠ [] := by
    intro listed inv h0
    have h1 := ready_nil hb inv.size h0 n hnS
    have h2 := getD_both (inv.tail n (Nat.le_refl _) hnS)
    rw [h1] at h2; cases h2
  intro fuel
  induction fuel with
  | zero =>
    intro t listed a w _ inv h
    have h1 := h.1
    rw [hL.ready] at h1
    exact absurd h1 (hne _ inv)
  | succ fuel ih =>
    intro t listed a w hC inv h
    obtain ⟨_, h2⟩ := h
    simp only [Region.linearise.go]
    change opsN P ops Q (match (Region.ready .any ops listed)[t % (Region.ready .any ops listed).length]? with
      | some i => Region.linearise.go .any ops fuel (t / (Region.ready .any ops listed).length) (listed.setIfInBounds i true) [i]
      | none => [].reverse) a w
    cases hi : (Region.ready .any ops listed)[t % (Region.ready .any ops listed).length]? with
    | none =>
      exfalso
      refine hne _ inv ?_
      cases hr : Region.ready .any ops listed with
      | nil => rfl
      | cons x xs =>
        rw [hr] at hi
        have hlt : t % (x :: xs).length < (x :: xs).length := Nat.mod_lt _ (by simp)
        simp at hi
        simp at hlt
        omega
    | some i =>
      simp only []
      rw [linearise_go_acc, List.reverse_singleton, List.singleton_append]
      have hmem := List.mem_of_getElem? hi
      have hq := h2 i (by rw [hL.ready]; exact hmem)
      by_cases hin : i = n
      · subst hin
        have hall := last_all hs hnS inv hmem
        have hrn : Region.ready .any ops (listed.setIfInBounds i true) = [] := by
          rw [List.eq_nil_iff_forall_not_mem]
          intro j hj
          have hjs := ready_lt hj
          have hj0 := (mem_ready.1 hj).1
          rw [hL.size] at hjs
          by_cases hji : j = i
          · subst hji
            have hsz : j < listed.size := by rw [inv.size]; exact hnS
            simp [hsz] at hj0
          · rw [getD_set_ne true (Ne.symm hji)] at hj0
            have hj1 := hall (i - j) j (by omega) (by omega)
            have := getD_both hj0
            rw [hj1] at this; cases this
        rw [go_of_ready_nil hrn]
        refine hend a w hC ?_
        have hK : wpAnyQ P .any ops' C R fuel (listed.setIfInBounds i true) a := by
          unfold qOp at hq
          simp only [hL.last'] at hq
          have hw : Region.wanted (struck o) (Go.yielded ops' a.tmps) = true := by simp [Region.wanted, struck, hg]
          rw [if_pos hw] at hq
          obtain ⟨v, _, hk⟩ := hq
          have hd' : (struck o).dst = none := hd
          rw [hd'] at hk
          exact hk
        have hr' : Region.ready .any ops' (listed.setIfInBounds i true) = [] := by rw [hL.ready]; exact hrn
        cases fuel with
        | zero => exact hK.2
        | succ fuel => exact hK.1 hr'
      · have hlt : i < n := by have := ready_lt hmem; rw [hL.size] at this; omega
        have inv' := inv.set hmem hlt
        have hoi : ops'[i]? = ops[i]? := hL.same i hin
        unfold qOp at hq
        rw [hoi] at hq
        cases ho : ops[i]? with
        | none =>
          exfalso
          have := ready_lt hmem
          simp at ho
          omega
        | some oi =>
          simp only [ho, hL.yielded] at hq
          cases hw : Region.wanted oi (Go.yielded ops a.tmps) with
          | true =>
            rw [if_pos hw] at hq
            exact opsN_op ho hw (Oper.wp_of_quiet hC (fun a' w' hC' hk => ih _ _ a' w' hC' inv' hk) hq)
          | false =>
            rw [if_neg (by simp [hw])] at hq
            exact opsN_skip ho hw (ih _ _ _ w hC inv' hq)

/-- A region that draws its order: quiet in the class C up to its last operation, which waits for all others. -/
theorem wpN_region_last {id : Nat} {l : List Oper} {o : Oper} {a : Act} {w : World} (hm : P.follows .mixedOrders = true) (hg : o.guard = none) (hd : o.dst = none)
    (hB : Region.lexB .any (l ++ [struck o]).toArray = true) (hs : Region.sinkB .any (l ++ [o]).toArray l.length = true) (hb : backB (l ++ [o]).toArray = true)
    (hC : C { w with drawn := w.drawn + 1 })
    (h : wpQuiet P (l ++ [struck o]).toArray C (fun a' => ∀ w', C w' → opsN P (l ++ [o]).toArray Q [l.length] a' w') l a) : wpN P (.region id (l ++ [o]).toArray true) Q a w := by
  refine wpN_region_draw fun t => ?_
  simp only [Region.schedule, hm, Bool.true_or, if_true, Region.linearise]
  have hL : LastAt (l ++ [o]).toArray (l ++ [struck o]).toArray l.length o := by
    refine ⟨by simp, by simp, fun i hi => ?_, by simp, by simp⟩
    simp only [List.getElem?_toArray]
    by_cases hlt : i < l.length
    · rw [List.getElem?_append_left hlt, List.getElem?_append_left hlt]
    · rw [List.getElem?_eq_none (by simp; omega), List.getElem?_eq_none (by simp; omega)]
  have inv0 : HeadInv .any (l ++ [o]).toArray l.length (Array.replicate (l ++ [o]).toArray.size false) :=
    ⟨by simp, fun j oj _ hl => (by rw [getD_replicate_false] at hl; cases hl), fun t _ ht => getD_in (by simpa using ht) (getD_replicate_false _ _)⟩
  refine opsN_quiet_last (C := C) (R := fun a' => ∀ w', C w' → opsN P (l ++ [o]).toArray Q [l.length] a' w') hL hg hd hs hb (fun a w hw h => h w hw) _ t _ a _ hC inv0 ?_
  simp only [Region.lexB, Bool.and_eq_true] at hB
  have h1 : wpQuiet P (l ++ [struck o]).toArray C (fun a' => ∀ w', C w' → opsN P (l ++ [o]).toArray Q [l.length] a' w') (l ++ [struck o]) a := by
    refine wpQuiet_append _ _ _ ?_
    have hmono : ∀ (l' : List Oper) (a : Act), wpQuiet P (l ++ [struck o]).toArray C (fun a' => ∀ w', C w' → opsN P (l ++ [o]).toArray Q [l.length] a' w') l' a →
        wpQuiet P (l ++ [struck o]).toArray C (wpQuiet P (l ++ [struck o]).toArray C (fun a' => ∀ w', C w' → opsN P (l ++ [o]).toArray Q [l.length] a' w') [struck o]) l' a := by
      intro l'
      induction l' with
      | nil =>
        intro a hh
        simp only [wpQuiet] at hh ⊢
        have hw : Region.wanted (struck o) (yielded (l ++ [struck o]).toArray a.tmps) = true := by simp [Region.wanted, struck, hg]
        rw [if_pos hw]
        refine ⟨undef, fun w' _ => ?_, ?_⟩
        · simp [Oper.quietAt, struck, execOp, Act.eval, Oper.quietUpon]
        · have hd' : (struck o).dst = none := hd
          rw [hd']; exact hh
      | cons x l' ih =>
        intro a hh
        simp only [wpQuiet] at hh ⊢
        split
        · rename_i hw; rw [if_pos hw] at hh; exact Oper.quiet_mono ih hh
        · rename_i hw; rw [if_neg hw] at hh; exact ih _ hh
    exact hmono l a h
  have h2 := wpAnyQ_lex (C := C) (md := .any) hB.1 (l ++ [struck o]) 0 (Array.replicate (l ++ [struck o]).toArray.size false) a (by simp) (by simpa using hB.2) h1
  simpa using h2

/-- The same for a region whose operations are written out. -/
theorem wpN_region_last_lit {id : Nat} {L : List Oper} {a : Act} {w : World} (hm : P.follows .mixedOrders = true) (hL : L = L.dropLast ++ [L.getLastD default]) (hg : (L.getLastD default).guard = none) (hd : (L.getLastD default).dst = none)
    (hB : Region.lexB .any (L.dropLast ++ [struck (L.getLastD default)]).toArray = true) (hs : Region.sinkB .any L.toArray L.dropLast.length = true) (hb : backB L.toArray = true)
    (hC : C { w with drawn := w.drawn + 1 })
    (h : wpQuiet P (L.dropLast ++ [struck (L.getLastD default)]).toArray C (fun a' => ∀ w', C w' → opsN P L.toArray Q [L.dropLast.length] a' w') L.dropLast a) : wpN P (.region id L.toArray true) Q a w := by
  have key := wpN_region_last (P := P) (Q := Q) (C := C) (id := id) (l := L.dropLast) (o := L.getLastD default) (a := a) (w := w) hm hg hd hB
  rw [← hL] at key
  exact key hs hb hC h
end
end Go.Proofs.YtdplffhieekfaaaDoor
