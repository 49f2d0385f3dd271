/-
  stampslaw.pick, and the document's Batch where the count is refused.
  Conditions: none.
  stampslaw's look at the lists that came out: all read as their owner wrote them.
  Conditions: they do.
  append of one element onto an own row: what was there stays, in the old block too.
  stampslaw's owner writes a list over, and keeps it.
  Conditions: the law's own rows, apart from one another.
  stampslaw's owner writes a list over, and keeps it: the rows in memory between two steps.
-/
import Derived.Test.YtdplffhieekfaaaDoorRefBatch
namespace Go.Proofs.YtdplffhieekfaaaDoor
open Go.RowKit

set_option maxHeartbeats 400000 in
theorem lpick_neg (c n : Int) (w : World) (hc : -9223372036854775808 ≤ c) (hn : 0 < n) (h : c < 0) :
    Calls Tryd.prog 46 #[.int .i64 c, .int .i64 n] w fun e w' => e = .returned (.int .i64 (-(c + 1) % n)) ∧ w' = w := by
  go_enter Tryd.func46, Tryd.ntmps46
  go_wp2
  go_ret
  have e1 : -((c + 1).tmod n) = -(c + 1) % n := by rw [← Int.neg_tmod, Int.tmod_eq_emod_of_nonneg (by omega)]
  exact ⟨congrArg (fun x => Ending.returned (.int .i64 x)) e1, rfl⟩

set_option maxHeartbeats 400000 in
theorem lpick_pos (c n : Int) (w : World) (hc : c ≤ 9223372036854775807) (hn : 0 < n) (h : 0 ≤ c) :
    Calls Tryd.prog 46 #[.int .i64 c, .int .i64 n] w fun e w' => e = .returned (.int .i64 (c % n)) ∧ w' = w := by
  go_enter Tryd.func46, Tryd.ntmps46
  go_wp2
  go_ret
  exact ⟨rfl, rfl⟩

theorem lpick_any (c n : Int) (w : World) (hc : -9223372036854775808 ≤ c) (hc2 : c ≤ 9223372036854775807) (hn : 0 < n) :
    Calls Tryd.prog 46 #[.int .i64 c, .int .i64 n] w fun e w' => e = .returned (.int .i64 (pickI c n)) ∧ w' = w := by
  unfold pickI
  by_cases h : c < 0
  · rw [if_pos h]; exact lpick_neg c n w hc hn h
  · rw [if_neg h]; exact lpick_pos c n w hc2 hn (by omega)

set_option maxHeartbeats 400000 in
theorem rbatch_count (b : Nat) (now cnt : Int) (w : World) (h : cnt < 1 ∨ 10000 < cnt) :
    Calls Tryd.prog 49 #[.pointer (some ⟨b, 0, none⟩), .int .i64 now, .int .i64 cnt] w fun e w' => e = .returned (.tuple #[.slice none 0 0, .int .i64 9]) ∧ w' = w := by
  by_cases h1 : cnt < 1
  · clear h
    go_enter Tryd.func49, Tryd.ntmps49
    go_wp2
    go_ret2
    exact ⟨rfl, rfl⟩
  · have h2 : 10000 < cnt := by omega
    clear h
    go_enter Tryd.func49, Tryd.ntmps49
    go_wp2
    go_ret2
    exact ⟨rfl, rfl⟩
end Go.Proofs.YtdplffhieekfaaaDoor
namespace Go.Proofs.YtdplffhieekfaaaDoor
open Go.RowKit

/-- The lists that came out, in memory: each reads as its mark. -/
structure ListsAt (w : World) (B gl gm q capl capm : Nat) (A : Nat → Option Addr) (N C : Nat → Nat) (M : Nat → Int) : Prop where
  lists : w.cell? ⟨B, 2, none⟩ = some (.slice (some ⟨gl, 0, none⟩) q capl)
  marks : w.cell? ⟨B, 3, none⟩ = some (.slice (some ⟨gm, 0, none⟩) q capm)
  len : q ≤ 9223372036854775806
  each : ∀ j, j < q → w.cell? ⟨gl, j, none⟩ = some (.slice (A j) (N j) (C j)) ∧ w.cell? ⟨gm, j, none⟩ = some (.int .u64 (M j)) ∧ N j ≤ 100000
  read : ∀ j, j < q → ∀ k, k < N j → ∃ a, A j = some ⟨a, 0, none⟩ ∧ w.cell? ⟨a, k, none⟩ = some (.int .u64 (M j))

set_option maxRecDepth 100000 in
set_option maxHeartbeats 2000000 in
theorem still_any {B gl gm q capl capm : Nat} {A : Nat → Option Addr} {N C : Nat → Nat} {M : Nat → Int} (w : World) (h : ListsAt w B gl gm q capl capm A N C M) :
    Calls Tryd.prog 15 #[.pointer (some ⟨B, 0, none⟩)] w fun e w' => e = .returned (.bool true) ∧ ∃ n, w' = w.drewN n := by
  have hl := h.lists
  have hm := h.marks
  have hq := h.len
  have he : Hid _ := h.each
  have hr : Hid _ := h.read
  clear h
  go_enter Tryd.func15, Tryd.ntmps15
  go_wp2
  go_loopw [3] (fun i W => ∃ (j n : Nat), j ≤ q ∧ i = .int .i64 j ∧ W = w.drewN n) (fun i _ => q - (intOf i).toNat)
  case atStart => exact ⟨0, 0, by omega, rfl, rfl⟩
  case round =>
    obtain ⟨j, n, hj, rfl, rfl⟩ := hrel
    by_cases hlt : j < q
    · obtain ⟨e1, e2, e3⟩ := he.out j hlt
      have hrj : Hid _ := hr.out j hlt
      obtain ⟨nj, hnj⟩ : ∃ nj, nj = N j := ⟨_, rfl⟩
      rw [← hnj] at e1 e3 hrj
      clear hnj
      go_wp2_with fail
      go_loopw [5] (fun k W => ∃ (i m : Nat), i ≤ nj ∧ k = .int .i64 i ∧ W = w.drewN m) (fun k _ => nj - (intOf k).toNat)
      case atStart => exact ⟨0, n, by omega, rfl, rfl⟩
      case round =>
        obtain ⟨i, m, hi, rfl, rfl⟩ := hrel
        by_cases hik : i < nj
        · obtain ⟨a, ea, ca⟩ := hrj.out i hik
          have hal : ∀ (c : Nat), w.cell? ⟨gl, j, none⟩ = some (.slice (some ⟨a, 0, none⟩) nj (C j)) := fun _ => by rw [e1, ea]
          have e1' := hal 0
          have heq : (M j != M j) = false := by simp
          clear hal ea e1
          by_cases s1 : 50 < i
          · by_cases s2 : i + 50 < nj
            · by_cases s3 : ((i : Int) % 100 != 0) = true
              · go_wp2
                exact ⟨⟨i + 1, m, by omega, by go_num, rfl⟩, by simp [intOf]; omega⟩
              · have s3' : ((i : Int) % 100 != 0) = false := by simpa using s3
                clear s3
                go_wp2
                go_quiet (fail)
                go_wp2
                exact ⟨⟨i + 1, m + nq, by omega, by go_num, rfl⟩, by simp [intOf]; omega⟩
            · go_wp2
              go_quiet (fail)
              go_wp2
              exact ⟨⟨i + 1, m + nq, by omega, by go_num, rfl⟩, by simp [intOf]; omega⟩
          · go_wp2
            go_quiet (fail)
            go_wp2
            exact ⟨⟨i + 1, m + nq, by omega, by go_num, rfl⟩, by simp [intOf]; omega⟩
        · go_wp2
          exact ⟨⟨j + 1, m, by omega, by go_num, rfl⟩, by simp [intOf]; omega⟩
    · go_wp2
      go_ret
      exact ⟨rfl, _, rfl⟩
end Go.Proofs.YtdplffhieekfaaaDoor
namespace Go.Proofs.YtdplffhieekfaaaDoor
open Go.RowKit

/-- Where the row lies then. -/
theorem append_block {P : Program} (w : World) (base : Nat) (t ty e : TypeId) (i : TypeInfo) (z : Value) (size bytes : Nat) (ht : P.underlying t = some (.slice e)) (hi : P.info? e = some i) (hz : i.zero = some z)
    (hsize : i.size = size) (hby : i.bytes = bytes)
    (v : Value) (n : Nat) (xs : List Value) (hown : w.ownsRow base e size v n xs)
    (a : Addr) (m c : Nat) (news : List Value) (hl : news.length = m * size) (hnews : ∀ j u, news[j]? = some u → w.cell? (a.add j) = some u) (h1 : ∀ u ∈ news, u.oneCell' = true)
    (hm : 0 < m) (h63 : n + m ≤ maxLen) (hbytes : ((n + m) + (n + m) / 4 + 192) * bytes ≤ 281474976710656) {v' : Value} {w' : World} (hr : (Builtin.append_ #[t, t] ty #[v, .slice (some a) m c]).run P w = .ok v' w') :
    v'.ownBlock = v.ownBlock ∨ v'.ownBlock = some w.heap.size := by
  subst hsize
  subst hby
  have hsmall : n + m ≤ 9223372036854775807 := by simp only [maxLen] at h63; omega
  rcases hown.2 with ⟨rfl, rfl⟩ | ⟨g, cap, cur, rfl, hbg, hg, hnc, hcm, hcs, htake⟩
  · have hr2 := run_append_nil (P := P) w t ty e i z ht hi hz a m c news hl hnews (by omega) (by omega) (by have hb := hbytes; simp only [Nat.zero_add] at hb; exact Nat.le_trans (Nat.mul_le_mul_right _ (by omega)) hb)
    rw [hr] at hr2
    injection hr2 with hv _
    subst hv
    exact Or.inr rfl
  · by_cases hroom : n + m ≤ cap
    · have hfit : n * i.size + news.length ≤ cur.size := by rw [hl, hcs, ← Nat.add_mul]; exact Nat.mul_le_mul_right _ hroom
      have hr2 := run_append_room (P := P) w t ty e i ht hi g n cap cur hg a m c news hl hnews h1 hroom hfit
      rw [hr] at hr2
      injection hr2 with hv _
      subst hv
      exact Or.inl rfl
    · have hr2 := run_append_grow (P := P) w t ty e i z ht hi hz ⟨g, 0, none⟩ n cap xs hown.1 (hown.cells (g := g) rfl) a m c news hl hnews (by omega) (by omega) (growslice_fits_wide (by omega) hbytes)
      rw [hr] at hr2
      injection hr2 with hv _
      subst hv
      exact Or.inr rfl

theorem append_keeps {P : Program} (w : World) (base : Nat) (t ty e : TypeId) (i : TypeInfo) (z : Value) (size bytes : Nat) (ht : P.underlying t = some (.slice e)) (hi : P.info? e = some i) (hz : i.zero = some z)
    (hsize : i.size = size) (hby : i.bytes = bytes) (hzs : z.cells.size = size) (hsz : 0 < size)
    (v : Value) (n : Nat) (xs : List Value) (hown : w.ownsRow base e size v n xs)
    (a : Addr) (m c : Nat) (news : List Value) (hl : news.length = m * size) (hnews : ∀ j u, news[j]? = some u → w.cell? (a.add j) = some u) (h1 : ∀ u ∈ news, u.oneCell' = true)
    (hm : 0 < m) (h63 : n + m ≤ maxLen) (hbytes : ((n + m) + (n + m) / 4 + 192) * bytes ≤ 281474976710656) (hbase : base ≤ w.heap.size) :
    ∃ v' w', (Builtin.append_ #[t, t] ty #[v, .slice (some a) m c]).run P w = .ok v' w' ∧ w'.ownsRow base e size v' (n + m) (xs ++ news) ∧ w.grownBy w' v.ownBlock ∧
      (∀ g j, v.ownBlock = some g → j < n * size → w'.cell? ⟨g, j, none⟩ = w.cell? ⟨g, j, none⟩) ∧ (v'.ownBlock = v.ownBlock ∨ v'.ownBlock = some w.heap.size) := by
  obtain ⟨v', w', hr, h2, h3, _⟩ := run_append_own_wide (P := P) w base t ty e i z size bytes ht hi hz hsize hby hzs hsz v n xs hown a m c news hl hnews h1 h63 hbytes hbase
  refine ⟨v', w', hr, h2, h3, fun g' j hg' hj => ?_, append_block (P := P) w base t ty e i z size bytes ht hi hz hsize hby v n xs hown a m c news hl hnews h1 hm h63 hbytes hr⟩
  rcases hown.2 with ⟨rfl, rfl⟩ | ⟨g, cap, cur, rfl, hbg, hg, hnc, hcm, hcs, htake⟩
  · cases hg'
  · obtain rfl : g = g' := by simpa [Value.ownBlock] using hg'
    subst hsize
    subst hby
    have hadd : ∀ j, (⟨g, 0, none⟩ : Addr).add j = ⟨g, j, none⟩ := fun j => by unfold Addr.add; split <;> simp_all
    have hlen := hown.1
    have holds := hown.cells (g := g) rfl
    have old : w.cell? ⟨g, j, none⟩ = some (xs[j]'(by omega)) := by
      have := holds j _ (List.getElem?_eq_getElem (by omega))
      rwa [hadd] at this
    by_cases hroom : n + m ≤ cap
    · have hfit : n * i.size + news.length ≤ cur.size := by rw [hl, hcs, ← Nat.add_mul]; exact Nat.mul_le_mul_right _ hroom
      have hr2 := run_append_room (P := P) w t ty e i ht hi g n cap cur hg a m c news hl hnews h1 hroom hfit
      rw [hr] at hr2
      injection hr2 with hv hw
      subst hv
      have := h2.cells (g := g) rfl j (xs[j]'(by omega)) (by rw [List.getElem?_append_left (by omega)]; exact List.getElem?_eq_getElem _)
      rw [hadd] at this
      rw [this, old]
    · have hr2 := run_append_grow (P := P) w t ty e i z ht hi hz ⟨g, 0, none⟩ n cap xs hown.1 holds a m c news hl hnews (by omega) (by simp only [maxLen] at h63; omega) (growslice_fits_wide (by omega) hbytes)
      rw [hr] at hr2
      injection hr2 with hv hw
      subst hw
      have hlt : g < w.heap.size := by
        rcases Nat.lt_or_ge g w.heap.size with h | h
        · exact h
        · rw [Array.getElem?_eq_none h] at hg; cases hg
      exact World.cell?_alloc_old _ _ _ (by show g ≠ _; exact Nat.ne_of_lt hlt)

/-- The same, for the walk. -/
theorem wpList_append_keeps {P : Program} (w : World) {ops : Array Oper} {rest : List Oper} {o : Oper} {a : Act} {Q : Exit → Act → World → Prop} (hgd : o.guard = none) (s x : Operand) (t : TypeId)
    (ho : o.op = .call { callee := .builtin .append, args := #[s, x], argTypes := #[t, t] })
    (base : Nat) (e : TypeId) (i : TypeInfo) (z : Value) (size bytes : Nat) (ht : P.underlying t = some (.slice e)) (hi : P.info? e = some i) (hz : i.zero = some z)
    (hsize : i.size = size) (hby : i.bytes = bytes) (hzs : z.cells.size = size) (hsz : 0 < size)
    (v : Value) (n : Nat) (xs : List Value) (hs : a.eval s = v) (hown : w.ownsRow base e size v n xs)
    (ad : Addr) (m c : Nat) (news : List Value) (hx : a.eval x = .slice (some ad) m c) (hl : news.length = m * size) (hnews : ∀ j u, news[j]? = some u → w.cell? (ad.add j) = some u) (h1 : ∀ u ∈ news, u.oneCell' = true)
    (hm : 0 < m) (h63 : n + m ≤ maxLen) (hbytes : ((n + m) + (n + m) / 4 + 192) * bytes ≤ 281474976710656) (hbase : base ≤ w.heap.size)
    (h : ∀ v' w', w'.ownsRow base e size v' (n + m) (xs ++ news) → w.grownBy w' v.ownBlock → (∀ g j, v.ownBlock = some g → j < n * size → w'.cell? ⟨g, j, none⟩ = w.cell? ⟨g, j, none⟩) → (v'.ownBlock = v.ownBlock ∨ v'.ownBlock = some w.heap.size) → wpList P ops Q rest (a.put o.dst v') w') : wpList P ops Q (o :: rest) a w := by
  obtain ⟨v', w', hr, h2, h3, h4, h5⟩ := append_keeps (P := P) w base t o.type e i z size bytes ht hi hz hsize hby hzs hsz v n xs hown ad m c news hl hnews h1 hm h63 hbytes hbase
  refine wpList_plain hgd fun _ hK => ?_
  unfold Oper.wp execOp
  simp only [ho, resolve, invoke, builtin, Sem.run_bind, Sem.run_pure, Result.andThen_ok, List.map_toArray, List.map_cons, List.map_nil, hs, hx, hr]
  exact hK _ _ (h v' w' h2 h3 h4 h5)

/-- One cell of an own row is written. -/
theorem owns_set {w : World} {base g n cap : Nat} {e : TypeId} {xs : List Value} (h : w.ownsRow base e 1 (.slice (some ⟨g, 0, none⟩) n cap) n xs) (j : Nat) (u : Value) :
    (w.setCell ⟨g, j, none⟩ u).ownsRow base e 1 (.slice (some ⟨g, 0, none⟩) n cap) n (xs.set j u) := by
  obtain ⟨hl, hh⟩ := h
  refine ⟨by rw [List.length_set]; exact hl, ?_⟩
  rcases hh with ⟨he, _⟩ | ⟨g', cap', cur, he, e2, e3, e4, e5, e6, e7⟩
  · cases he
  · simp only [Value.slice.injEq, Option.some.injEq, Addr.mk.injEq] at he
    obtain ⟨⟨rfl, _⟩, _, rfl⟩ := he
    refine Or.inr ⟨g, cap, cur.setIfInBounds j u, rfl, e2, ?_, e4, e5, by simpa using e6, ?_⟩
    · have hlt : g < w.heap.size := by
        rcases Nat.lt_or_ge g w.heap.size with h | h
        · exact h
        · rw [Array.getElem?_eq_none h] at e3; cases e3
      have e3' : w.heap[g] = .cells cur e (0, 0) := by
        have := e3
        rw [Array.getElem?_eq_getElem hlt] at this
        exact Option.some.inj this
      simp only [World.setCell]
      rw [Array.getElem?_modify]
      simp [e3]
    · rw [Array.toList_setIfInBounds, List.take_set, e7]
end Go.Proofs.YtdplffhieekfaaaDoor
namespace Go.Proofs.YtdplffhieekfaaaDoor
open Go.RowKit

theorem len_row (n cap : Nat) (a : Option Addr) (w : World) (ty : TypeId) : (Builtin.len_ #[40] ty #[.slice a n cap]).run Tryd.prog w = .ok (goInt n) w := by
  simp [Builtin.len_, run_underlying Tryd.underlying40]

theorem owns_slice {w : World} {base : Nat} {e : TypeId} {size : Nat} {v : Value} {n : Nat} {xs : List Value} (h : w.ownsRow base e size v n xs) : ∃ a cap, v = .slice a n cap := by
  rcases h.2 with ⟨rfl, rfl⟩ | ⟨g, cap, cur, rfl, _⟩
  · exact ⟨_, _, rfl⟩
  · exact ⟨_, _, rfl⟩

theorem owns_frozen {w : World} {base g n cap : Nat} {e : TypeId} {xs : List Value} (h : w.ownsRow base e 1 (.slice (some ⟨g, 0, none⟩) n cap) n xs) (j : Nat) (hj : j < n) : (∃ v, w.cell? ⟨g, j, none⟩ = some v) ∧ w.frozen? ⟨g, j, none⟩ = false := by
  rcases h.2 with ⟨he, _⟩ | ⟨g', cap', cur, he, e2, e3, e4, e5, e6, e7⟩
  · cases he
  · simp only [Value.slice.injEq, Option.some.injEq, Addr.mk.injEq] at he
    obtain ⟨⟨rfl, _⟩, _, rfl⟩ := he
    constructor
    · refine ⟨cur[j]'(by omega), ?_⟩
      simp only [World.cell?, e3]
      simp
    · simp only [World.frozen?, e3]
      simp

/-- The law's rows. -/
structure RowsAt (W : World) (B : Nat) (lv mv : Value) (q : Nat) (Ls Ms : List Value) (c : Int) : Prop where
  c2 : W.cell? ⟨B, 2, none⟩ = some lv
  c3 : W.cell? ⟨B, 3, none⟩ = some mv
  c4 : W.cell? ⟨B, 4, none⟩ = some (.int .u64 c)
  fz : ∀ o, W.frozen? ⟨B, o, none⟩ = false
  lists : W.ownsRow (B + 1) 40 1 lv q Ls
  marks : W.ownsRow (B + 1) 25 1 mv q Ms
  apart : ∀ g, lv.ownBlock = some g → mv.ownBlock ≠ some g

/-- Between two rounds of the writing over. -/
structure OverAt (w W : World) (B : Nat) (l : Value) (n k : Nat) (x : Int) : Prop where
  keep : Keep (fun i => l.ownBlock = some i) w W
  own : ∃ ys, W.ownsRow (B + 1) 25 1 l n ys ∧ ∀ j, j < k → ys[j]? = some (.int .u64 x)

theorem OverAt.step {w W : World} {B g n cap k : Nat} {x : Int} (h : OverAt w W B (.slice (some ⟨g, 0, none⟩) n cap) n k x) (hk : k < n) : OverAt w (W.setCell ⟨g, k, none⟩ (.int .u64 x)) B (.slice (some ⟨g, 0, none⟩) n cap) n (k + 1) x := by
  obtain ⟨ys, h1, h2⟩ := h.own
  refine ⟨h.keep.setCell (p := ⟨g, k, none⟩) (fun _ => rfl) _, _, owns_set h1 k (.int .u64 x), fun j hj => ?_⟩
  by_cases hjk : j = k
  · subst hjk
    rw [List.getElem?_set_self (by rw [h1.1]; omega)]
  · rw [List.getElem?_set_ne (by omega)]
    exact h2 j (by omega)

theorem bytes_info : (Tryd.prog.info? 40).map (fun i => (i.zero, i.size, i.bytes)) = some (some (.slice none 0 0), 1, 24) := by kernel_rfl

end Go.Proofs.YtdplffhieekfaaaDoor
namespace Go.Proofs.YtdplffhieekfaaaDoor
open Go.RowKit

theorem owns_stay {w w' : World} {base : Nat} {e : TypeId} {size : Nat} {v : Value} {n : Nat} {xs : List Value} (h : w.ownsRow base e size v n xs) (hb : ∀ x, v.ownBlock = some x → w'.heap[x]? = w.heap[x]?) : w'.ownsRow base e size v n xs := by
  refine ⟨h.1, ?_⟩
  rcases h.2 with hn | ⟨g, cap, cur, rfl, h1, h2, h3⟩
  · exact Or.inl hn
  · exact Or.inr ⟨g, cap, cur, rfl, h1, (hb g rfl).trans h2, h3⟩

theorem owns_in {w : World} {base : Nat} {e : TypeId} {size : Nat} {v : Value} {n : Nat} {xs : List Value} (h : w.ownsRow base e size v n xs) : ∀ x, v.ownBlock = some x → base ≤ x ∧ x < w.heap.size := by
  intro x hx
  rcases h.2 with ⟨rfl, _⟩ | ⟨g, cap, cur, rfl, h1, h2, h3⟩
  · cases hx
  · obtain rfl : g = x := by simpa [Value.ownBlock] using hx
    exact ⟨h1, (Array.getElem?_eq_some_iff.1 h2).1⟩

theorem addr_add0 (g j : Nat) : (⟨g, 0, none⟩ : Addr).add j = ⟨g, j, none⟩ := by unfold Addr.add; split <;> simp_all

/-- Which blocks a list that came out may lie in. -/
structure InList (w : World) (B : Nat) (l0 lv mv : Value) (W : World) (b : Nat) : Prop where
  old : l0.ownBlock = some b ∨ w.heap.size ≤ b
  lv : lv.ownBlock ≠ some b
  mv : mv.ownBlock ≠ some b
  lt : b < W.heap.size
  ne : b ≠ B

/-- Between two steps of the owner's keeping. -/
structure KS (w : World) (B : Nat) (lv0 mv0 l0 : Value) (x c : Int) (W : World) (lv mv lc : Value) (Lr Mr : List Value) (nc : Nat) (N4 : List Value) : Prop where
  keep : Keep (fun i => i = B ∨ lv0.ownBlock = some i ∨ mv0.ownBlock = some i ∨ l0.ownBlock = some i) w W
  cB : ∀ o, o < 2 → W.cell? ⟨B, o, none⟩ = w.cell? ⟨B, o, none⟩
  c2 : W.cell? ⟨B, 2, none⟩ = some lv
  c3 : W.cell? ⟨B, 3, none⟩ = some mv
  c4 : W.cell? ⟨B, 4, none⟩ = some (.int .u64 c)
  fz : ∀ o, W.frozen? ⟨B, o, none⟩ = false
  lists : W.ownsRow (B + 1) 40 1 lv Lr.length Lr
  marks : W.ownsRow (B + 1) 25 1 mv Mr.length Mr
  cur : W.ownsRow (B + 1) 25 1 lc nc (List.replicate nc (.int .u64 x))
  lm : ∀ g, lv.ownBlock = some g → mv.ownBlock ≠ some g
  cl : ∀ g, lc.ownBlock = some g → lv.ownBlock ≠ some g
  cm : ∀ g, lc.ownBlock = some g → mv.ownBlock ≠ some g
  ol : ∀ g, lv.ownBlock = some g → lv0.ownBlock = some g ∨ w.heap.size ≤ g
  om : ∀ g, mv.ownBlock = some g → mv0.ownBlock = some g ∨ w.heap.size ≤ g
  oc : ∀ g, lc.ownBlock = some g → l0.ownBlock = some g ∨ w.heap.size ≤ g
  reads : ∀ v ∈ N4, ∃ a n cp, v = .slice a n cp ∧ n ≤ nc ∧ ∀ k, k < n → ∃ b, a = some ⟨b, 0, none⟩ ∧ InList w B l0 lv mv W b ∧ W.cell? ⟨b, k, none⟩ = some (.int .u64 x)

/-- A row grew, and its new place is told in B's cell. -/
theorem grew_keep {W W2 : World} {B o : Nat} {v v' : Value} {Z : Obj} (hg : (W.alloc Z).grownBy W2 v.ownBlock) : Keep (fun i => i = B ∨ v.ownBlock = some i) W (W2.setCell ⟨B, o, none⟩ v') := by
  have h1 : Keep (fun i => i = B ∨ v.ownBlock = some i) W W2 := ((Keep.refl _ W).alloc Z).trans' (keep_grown hg) (fun i _ e => Or.inr e.symm)
  exact h1.setCell (p := ⟨B, o, none⟩) (fun _ => Or.inl rfl) _

theorem KS.stepL {w : World} {B : Nat} {lv0 mv0 l0 : Value} {x c : Int} {W W2 : World} {lv lv' mv lc : Value} {Lr Mr : List Value} {nc : Nat} {N4 : List Value} {Z : Obj} (h : KS w B lv0 mv0 l0 x c W lv mv lc Lr Mr nc N4)
    (ho : W2.ownsRow (B + 1) 40 1 lv' (Lr.length + 1) (Lr ++ [lc])) (hg : (W.alloc Z).grownBy W2 lv.ownBlock) (hl : lv'.ownBlock = lv.ownBlock ∨ lv'.ownBlock = some (W.alloc Z).heap.size) :
    KS w B lv0 mv0 l0 x c (W2.setCell ⟨B, 2, none⟩ lv') lv' mv lc (Lr ++ [lc]) Mr nc (N4 ++ [lc]) := by
  have hBlt : B < W.heap.size := block_lt_of_cell h.c2
  have hkk := grew_keep (B := B) (o := 2) (v' := lv') hg
  have hws := h.keep.size
  have hW2s : W.heap.size < W2.heap.size := by have := hg.size; simp at this; omega
  have il := owns_in h.lists
  have im := owns_in h.marks
  have ic := owns_in h.cur
  have hB2 : W2.heap[B]? = W.heap[B]? := by
    have e1 := hg.block B (by simp; omega) (fun e => by have := (il B e.symm).1; omega)
    rw [e1]; exact heap_alloc_old _ _ hBlt
  have cB2 : ∀ o, W2.cell? ⟨B, o, none⟩ = W.cell? ⟨B, o, none⟩ := fun o => World.cell?_of_block (w := W) hB2
  have cO : ∀ o, o ≠ 2 → (W2.setCell ⟨B, 2, none⟩ lv').cell? ⟨B, o, none⟩ = W.cell? ⟨B, o, none⟩ := fun o hne => by
    rw [World.cell?_setCell_other _ _ _ _ (by simp <;> omega)]; exact cB2 o
  have blk : ∀ z, z < W.heap.size → z ≠ B → lv.ownBlock ≠ some z → (W2.setCell ⟨B, 2, none⟩ lv').heap[z]? = W.heap[z]? := fun z h1 h2 h3 => hkk.block z h1 (fun e => e.elim h2 h3)
  have new : ∀ g, lv'.ownBlock = some g → lv.ownBlock = some g ∨ W.heap.size < g := fun g hg' => by
    rcases hl with e | e
    · exact Or.inl (e ▸ hg')
    · rw [e] at hg'; cases hg'; right; simp
  have ssz : (W2.setCell ⟨B, 2, none⟩ lv').heap.size = W2.heap.size := by simp [World.setCell]
  have il' := owns_in ho
  have rd : ∀ v ∈ N4 ++ [lc], ∃ a n cp, v = .slice a n cp ∧ n ≤ nc ∧ ∀ k, k < n → ∃ b, a = some ⟨b, 0, none⟩ ∧ InList w B l0 lv mv W b ∧ W.cell? ⟨b, k, none⟩ = some (.int .u64 x) := fun v hv => by
    rcases List.mem_append.1 hv with hv | hv
    · exact h.reads v hv
    · obtain rfl := List.mem_singleton.1 hv
      obtain ⟨a, cp, rfl⟩ := owns_slice h.cur
      refine ⟨a, nc, cp, rfl, Nat.le_refl _, fun k hk => ?_⟩
      obtain ⟨g, rfl⟩ : ∃ g, a = some ⟨g, 0, none⟩ := by
        rcases h.cur.2 with ⟨_, h0⟩ | ⟨g, _, _, he, _⟩
        · omega
        · simp only [Value.slice.injEq] at he; exact ⟨g, he.1⟩
      have hgb : (Value.slice (some ⟨g, 0, none⟩) nc cp).ownBlock = some g := rfl
      refine ⟨g, rfl, ⟨h.oc g hgb, h.cl g hgb, h.cm g hgb, (ic g hgb).2, by have := (ic g hgb).1; omega⟩, ?_⟩
      have := h.cur.cells (g := g) rfl k (.int .u64 x) (by rw [List.getElem?_replicate]; simp [hk])
      rwa [addr_add0] at this
  refine ⟨h.keep.trans' hkk (fun i hi e => ?_), fun o ho' => (cO o (by omega)).trans (h.cB o ho'), World.cell?_setCell_same _ _ _ ((cB2 2).trans h.c2), (cO 3 (by omega)).trans h.c3, (cO 4 (by omega)).trans h.c4, fun o => ?_, ?_, ?_, ?_, ?_, ?_, h.cm, ?_, h.om, h.oc, ?_⟩
  · rcases e with e | e
    · exact Or.inl e
    · rcases h.ol i e with e' | e'
      · exact Or.inr (Or.inl e')
      · omega
  · rw [World.frozen?_setCell]; exact (World.frozen?_of_block (w := W) (a := ⟨B, o, none⟩) hB2).trans (h.fz o)
  · rw [List.length_append, List.length_singleton]
    exact owns_stay ho (fun z hz => Below.heap_setCell _ _ _ _ (fun e => by have := (il' z hz).1; simp at e; omega))
  · exact owns_stay h.marks (fun z hz => blk z (im z hz).2 (by have := (im z hz).1; omega) (fun e => h.lm z e hz))
  · exact owns_stay h.cur (fun z hz => blk z (ic z hz).2 (by have := (ic z hz).1; omega) (h.cl z hz))
  · intro g hg' hm
    rcases new g hg' with e | e
    · exact h.lm g e hm
    · have := (im g hm).2; omega
  · intro g hg' hm
    rcases new g hm with e | e
    · exact h.cl g hg' e
    · have := (ic g hg').2; omega
  · intro g hg'
    rcases new g hg' with e | e
    · exact h.ol g e
    · right; omega
  · intro v hv
    obtain ⟨a, n, cp, e, hn, hr⟩ := rd v hv
    refine ⟨a, n, cp, e, hn, fun k hk => ?_⟩
    obtain ⟨b, ea, hin, hc⟩ := hr k hk
    refine ⟨b, ea, ⟨hin.old, fun e => ?_, hin.mv, by rw [ssz]; have := hin.lt; omega, hin.ne⟩, ?_⟩
    · rcases new b e with e | e
      · exact hin.lv e
      · have := hin.lt; omega
    · rw [← hc]; exact World.cell?_of_block (w := W) (blk b hin.lt hin.ne hin.lv)

theorem KS.stepM {w : World} {B : Nat} {lv0 mv0 l0 : Value} {x c : Int} {W W2 : World} {lv mv mv' lc : Value} {Lr Mr : List Value} {nc : Nat} {N4 : List Value} {Z : Obj} {u : Value} (h : KS w B lv0 mv0 l0 x c W lv mv lc Lr Mr nc N4)
    (ho : W2.ownsRow (B + 1) 25 1 mv' (Mr.length + 1) (Mr ++ [u])) (hg : (W.alloc Z).grownBy W2 mv.ownBlock) (hl : mv'.ownBlock = mv.ownBlock ∨ mv'.ownBlock = some (W.alloc Z).heap.size) :
    KS w B lv0 mv0 l0 x c (W2.setCell ⟨B, 3, none⟩ mv') lv mv' lc Lr (Mr ++ [u]) nc N4 := by
  have hBlt : B < W.heap.size := block_lt_of_cell h.c2
  have hkk := grew_keep (B := B) (o := 3) (v' := mv') hg
  have hws := h.keep.size
  have hW2s : W.heap.size < W2.heap.size := by have := hg.size; simp at this; omega
  have il := owns_in h.lists
  have im := owns_in h.marks
  have ic := owns_in h.cur
  have hB2 : W2.heap[B]? = W.heap[B]? := by
    have e1 := hg.block B (by simp; omega) (fun e => by have := (im B e.symm).1; omega)
    rw [e1]; exact heap_alloc_old _ _ hBlt
  have cB2 : ∀ o, W2.cell? ⟨B, o, none⟩ = W.cell? ⟨B, o, none⟩ := fun o => World.cell?_of_block (w := W) hB2
  have cO : ∀ o, o ≠ 3 → (W2.setCell ⟨B, 3, none⟩ mv').cell? ⟨B, o, none⟩ = W.cell? ⟨B, o, none⟩ := fun o hne => by
    rw [World.cell?_setCell_other _ _ _ _ (by simp <;> omega)]; exact cB2 o
  have blk : ∀ z, z < W.heap.size → z ≠ B → mv.ownBlock ≠ some z → (W2.setCell ⟨B, 3, none⟩ mv').heap[z]? = W.heap[z]? := fun z h1 h2 h3 => hkk.block z h1 (fun e => e.elim h2 h3)
  have new : ∀ g, mv'.ownBlock = some g → mv.ownBlock = some g ∨ W.heap.size < g := fun g hg' => by
    rcases hl with e | e
    · exact Or.inl (e ▸ hg')
    · rw [e] at hg'; cases hg'; right; simp
  have ssz : (W2.setCell ⟨B, 3, none⟩ mv').heap.size = W2.heap.size := by simp [World.setCell]
  have im' := owns_in ho
  refine ⟨h.keep.trans' hkk (fun i hi e => ?_), fun o ho' => (cO o (by omega)).trans (h.cB o ho'), (cO 2 (by omega)).trans h.c2, World.cell?_setCell_same _ _ _ ((cB2 3).trans h.c3), (cO 4 (by omega)).trans h.c4, fun o => ?_, ?_, ?_, ?_, ?_, h.cl, ?_, h.ol, ?_, h.oc, ?_⟩
  · rcases e with e | e
    · exact Or.inl e
    · rcases h.om i e with e' | e'
      · exact Or.inr (Or.inr (Or.inl e'))
      · omega
  · rw [World.frozen?_setCell]; exact (World.frozen?_of_block (w := W) (a := ⟨B, o, none⟩) hB2).trans (h.fz o)
  · exact owns_stay h.lists (fun z hz => blk z (il z hz).2 (by have := (il z hz).1; omega) (h.lm z hz))
  · rw [List.length_append, List.length_singleton]
    exact owns_stay ho (fun z hz => Below.heap_setCell _ _ _ _ (fun e => by have := (im' z hz).1; simp at e; omega))
  · exact owns_stay h.cur (fun z hz => blk z (ic z hz).2 (by have := (ic z hz).1; omega) (h.cm z hz))
  · intro g hg' hm
    rcases new g hm with e | e
    · exact h.lm g hg' e
    · have := (il g hg').2; omega
  · intro g hg' hm
    rcases new g hm with e | e
    · exact h.cm g hg' e
    · have := (ic g hg').2; omega
  · intro g hg'
    rcases new g hg' with e | e
    · exact h.om g e
    · right; omega
  · intro v hv
    obtain ⟨a, n, cp, e, hn, hr⟩ := h.reads v hv
    refine ⟨a, n, cp, e, hn, fun k hk => ?_⟩
    obtain ⟨b, ea, hin, hc⟩ := hr k hk
    refine ⟨b, ea, ⟨hin.old, hin.lv, fun e => ?_, by rw [ssz]; have := hin.lt; omega, hin.ne⟩, ?_⟩
    · rcases new b e with e | e
      · exact hin.mv e
      · have := hin.lt; omega
    · rw [← hc]; exact World.cell?_of_block (w := W) (blk b hin.lt hin.ne hin.mv)

theorem KS.stepC {w : World} {B : Nat} {lv0 mv0 l0 : Value} {x c : Int} {W W2 : World} {lv mv lc lc' : Value} {Lr Mr : List Value} {nc : Nat} {N4 : List Value} {Z : Obj} (h : KS w B lv0 mv0 l0 x c W lv mv lc Lr Mr nc N4)
    (ho : W2.ownsRow (B + 1) 25 1 lc' (nc + 1) (List.replicate nc (.int .u64 x) ++ [.int .u64 x])) (hg : (W.alloc Z).grownBy W2 lc.ownBlock) (hc : ∀ g j, lc.ownBlock = some g → j < nc * 1 → W2.cell? ⟨g, j, none⟩ = (W.alloc Z).cell? ⟨g, j, none⟩) (hl : lc'.ownBlock = lc.ownBlock ∨ lc'.ownBlock = some (W.alloc Z).heap.size) :
    KS w B lv0 mv0 l0 x c W2 lv mv lc' Lr Mr (nc + 1) N4 := by
  have hBlt : B < W.heap.size := block_lt_of_cell h.c2
  have hkk : Keep (fun i => lc.ownBlock = some i) W W2 := ((Keep.refl _ W).alloc Z).trans' (keep_grown hg) (fun i _ e => e.symm)
  have hws := h.keep.size
  have hW2s : W.heap.size < W2.heap.size := by have := hg.size; simp at this; omega
  have il := owns_in h.lists
  have im := owns_in h.marks
  have ic := owns_in h.cur
  have blk : ∀ z, z < W.heap.size → lc.ownBlock ≠ some z → W2.heap[z]? = W.heap[z]? := fun z h1 h3 => hkk.block z h1 h3
  have hB2 : W2.heap[B]? = W.heap[B]? := blk B hBlt (fun e => by have := (ic B e).1; omega)
  have cB2 : ∀ o, W2.cell? ⟨B, o, none⟩ = W.cell? ⟨B, o, none⟩ := fun o => World.cell?_of_block (w := W) hB2
  have new : ∀ g, lc'.ownBlock = some g → lc.ownBlock = some g ∨ W.heap.size < g := fun g hg' => by
    rcases hl with e | e
    · exact Or.inl (e ▸ hg')
    · rw [e] at hg'; cases hg'; right; simp
  refine ⟨h.keep.trans' hkk (fun i hi e => ?_), fun o ho' => (cB2 o).trans (h.cB o ho'), (cB2 2).trans h.c2, (cB2 3).trans h.c3, (cB2 4).trans h.c4, fun o => (World.frozen?_of_block (w := W) (a := ⟨B, o, none⟩) hB2).trans (h.fz o), ?_, ?_, ?_, h.lm, ?_, ?_, h.ol, h.om, ?_, ?_⟩
  · rcases h.oc i e with e' | e'
    · exact Or.inr (Or.inr (Or.inr e'))
    · omega
  · exact owns_stay h.lists (fun z hz => blk z (il z hz).2 (fun e => h.cl z e hz))
  · exact owns_stay h.marks (fun z hz => blk z (im z hz).2 (fun e => h.cm z e hz))
  · rw [List.replicate_succ']; exact ho
  · intro g hg' hm
    rcases new g hg' with e | e
    · exact h.cl g e hm
    · have := (il g hm).2; omega
  · intro g hg' hm
    rcases new g hg' with e | e
    · exact h.cm g e hm
    · have := (im g hm).2; omega
  · intro g hg'
    rcases new g hg' with e | e
    · exact h.oc g e
    · right; omega
  · intro v hv
    obtain ⟨a, n, cp, e, hn, hr⟩ := h.reads v hv
    refine ⟨a, n, cp, e, by omega, fun k hk => ?_⟩
    obtain ⟨b, ea, hin, hcl⟩ := hr k hk
    refine ⟨b, ea, ⟨hin.old, hin.lv, hin.mv, by have := hin.lt; omega, hin.ne⟩, ?_⟩
    by_cases hb : lc.ownBlock = some b
    · rw [hc b k hb (by omega), ← hcl]
      exact World.cell?_of_block (w := W) (heap_alloc_old _ _ hin.lt)
    · rw [← hcl]; exact World.cell?_of_block (w := W) (blk b hin.lt hb)
end Go.Proofs.YtdplffhieekfaaaDoor
