/-
  A fleet in memory: a desk was asked; a clock is written; the office lent; another office.
-/
import Derived.Test.YtdplffhieekfaaaGave
namespace Go.Proofs.Ytdplffhieekfaaa
open Go.RowKit Go.Maps Go.Lib

theorem DeskAt.chan_lt {w : World} {b j : Nat} {s : Dk} (h : DeskAt w b (some j) s) : j < w.heap.size := by
  obtain ⟨_, made, _, _, buf, sn, rc, h1, _⟩ := h
  exact (Array.getElem?_eq_some_iff.1 h1).1

/-- A desk was asked. -/
theorem FleetAt.deskStep {B : Nat} {W W' : World} {F : FB} {rs : List (Nat × Nat)} {d : Nat → Fd} {all : List Int} (h : FleetAt B W F rs d all) (k : Nat) (hk : k < 6) (hK : Keep (fun i => i = F.dk k ∨ F.ch k = some i) W W') (c' : Option Nat)
    (hc : c' = F.ch k ∨ ∃ j, W.heap.size ≤ j ∧ c' = some j) (y : Fd) (hd : DeskAt W' (F.dk k) c' y.s) (hyc : y.clk = (d k).clk) (hyl : y.last = (d k).last) :
    FleetAt B W' { F with ch := upd F.ch k c' } rs (upd d k y) all := by
  have hat : ∀ p, p ≠ .chan k → ({ F with ch := upd F.ch k c' } : FB).at p = F.at p := fun p hne => by
    cases p with
    | chan i =>
      have hi : i ≠ k := fun e => hne (by rw [e])
      show (if i < 6 then upd F.ch k c' i else none) = (if i < 6 then F.ch i else none)
      rw [upd_other _ _ _ hi]
    | _ => rfl
  have hck : ({ F with ch := upd F.ch k c' } : FB).at (.chan k) = c' := by
    show (if k < 6 then upd F.ch k c' k else none) = c'
    rw [if_pos hk, upd_same]
  have cn : ∀ z, c' = some z → ∀ p, p ≠ .chan k → F.at p ≠ some z := fun z hz p hne hp => by
    rcases hc with e | ⟨j, hj, e⟩
    · exact hne (h.apart p (.chan k) z hp (by show (if k < 6 then F.ch k else none) = _; rw [if_pos hk, ← e, hz]))
    · rw [e] at hz; cases hz; have := (h.base p _ hp).2; omega
  have hn := h.but.on (W' := W') (R' := fun p => p = .desk k ∨ p = .chan k) (fun p z hp hne => hK.block z (h.base p z hp).2 (fun hs => by
    rcases hs with e | e
    · exact hne (Or.inl (h.apart p (.desk k) z hp (by show (if k < 6 then some (F.dk k) else none) = _; rw [if_pos hk, e])))
    · exact hne (Or.inr (h.apart p (.chan k) z hp (by show (if k < 6 then F.ch k else none) = _; rw [if_pos hk]; exact e)))))
  have out : ∀ {p : Part}, p ≠ .desk k → p ≠ .chan k → ¬ (none' p ∨ (p = .desk k ∨ p = .chan k)) := fun h1 h3 h2 => h2.elim id (fun e => e.elim h1 h3)
  have ec : ∀ i, (upd d k y i).clk = (d i).clk ∧ (upd d k y i).last = (d i).last := fun i => by
    by_cases hi : i = k
    · subst hi; rw [upd_same]; exact ⟨hyc, hyl⟩
    · rw [upd_other _ _ _ hi]; exact ⟨rfl, rfl⟩
  refine ⟨⟨fun _ => hn.x0 (out (by simp) (by simp)), fun _ => hn.x1 (out (by simp) (by simp)), fun _ => hn.x2 (out (by simp) (by simp)), fun _ => hn.x3 (out (by simp) (by simp)), fun _ => hn.x4 (out (by simp) (by simp)), fun _ => hn.x5 (out (by simp) (by simp)), fun _ => hn.xz (out (by simp) (by simp)),
    fun _ => hn.rD (out (by simp) (by simp)), fun _ => hn.rN (out (by simp) (by simp)), fun _ i hi => by rw [(ec i).1]; exact hn.rC (out (by simp) (by simp)) i hi, fun _ => hn.zC (out (by simp) (by simp)), fun _ i hi => by rw [(ec i).2]; exact hn.rT (out (by simp) (by simp)) i hi, fun _ => hn.zT (out (by simp) (by simp)), fun _ => hn.rA (out (by simp) (by simp)),
    fun i hi _ _ => ?_, fun _ _ _ => hn.off (out (by simp) (by simp)) (out (by simp) (by simp)) (out (by simp) (by simp))⟩, fun p q z hp hq => ?_, fun p z hp => ?_⟩
  · show DeskAt W' (F.dk i) (upd F.ch k c' i) (upd d k y i).s
    by_cases hi' : i = k
    · subst hi'; rw [upd_same, upd_same]; exact hd
    · rw [upd_other _ _ _ hi', upd_other _ _ _ hi']
      exact hn.dsk i hi (out (by simp [hi']) (by simp)) (out (by simp) (by simp [hi']))
  · by_cases e1 : p = .chan k
    · by_cases e2 : q = .chan k
      · rw [e1, e2]
      · rw [e1, hck] at hp; rw [hat q e2] at hq
        exact absurd hq (cn z hp q e2)
    · by_cases e2 : q = .chan k
      · rw [e2, hck] at hq; rw [hat p e1] at hp
        exact absurd hp (cn z hq p e1)
      · rw [hat p e1] at hp; rw [hat q e2] at hq
        exact h.apart p q z hp hq
  · have hs := hK.size
    by_cases e1 : p = .chan k
    · rw [e1, hck] at hp
      subst hp
      refine ⟨?_, hd.chan_lt⟩
      rcases hc with e | ⟨j, hj, e⟩
      · exact (h.base (.chan k) z (by show (if k < 6 then F.ch k else none) = _; rw [if_pos hk, ← e])).1
      · cases e
        have := (h.base .own F.X rfl)
        omega
    · rw [hat p e1] at hp
      have := h.base p z hp
      exact ⟨this.1, Nat.lt_of_lt_of_le this.2 hs⟩

/-- A clock is written. -/
theorem FleetAt.wroteClock {B : Nat} {W : World} {F : FB} {rs : List (Nat × Nat)} {d : Nat → Fd} {all : List Int} (h : FleetAt B W F rs d all) (k : Nat) (x : Int) (n : Nat) (y : Fd) (hys : y.s = (d k).s) (hyc : y.clk = x) (hyl : y.last = (d k).last) :
    FleetAt B ((W.drewN n).setCell ⟨F.gC, k, none⟩ (.int .i64 x)) F rs (upd d k y) all := by
  have hn := h.but.on (W' := (W.drewN n).setCell ⟨F.gC, k, none⟩ (.int .i64 x)) (R' := fun p => p = .clocks) (fun p z hp hne => by
    have : z ≠ F.gC := fun e => hne (h.apart p .clocks z hp (by rw [e]; rfl))
    exact Below.heap_setCell _ _ _ _ this)
  have out : ∀ {p : Part}, p ≠ .clocks → ¬ (none' p ∨ p = .clocks) := fun h1 h2 => h2.elim id h1
  have es : ∀ i, (upd d k y i).s = (d i).s ∧ (upd d k y i).last = (d i).last := fun i => by
    by_cases hi : i = k
    · subst hi; rw [upd_same]; exact ⟨hys, hyl⟩
    · rw [upd_other _ _ _ hi]; exact ⟨rfl, rfl⟩
  refine ⟨⟨fun _ => hn.x0 (out (by simp)), fun _ => hn.x1 (out (by simp)), fun _ => hn.x2 (out (by simp)), fun _ => hn.x3 (out (by simp)), fun _ => hn.x4 (out (by simp)), fun _ => hn.x5 (out (by simp)), fun _ => hn.xz (out (by simp)),
    fun _ => hn.rD (out (by simp)), fun _ => hn.rN (out (by simp)), fun _ i hi => ?_, fun _ i hi => by rw [World.frozen?_setCell]; exact h.but.zC id i hi, fun _ i hi => by rw [(es i).2]; exact hn.rT (out (by simp)) i hi, fun _ => hn.zT (out (by simp)), fun _ => hn.rA (out (by simp)),
    fun i hi _ _ => by rw [(es i).1]; exact hn.dsk i hi (out (by simp)) (out (by simp)), fun _ _ _ => hn.off (out (by simp)) (out (by simp)) (out (by simp))⟩, h.apart, fun p z hp => ⟨(h.base p z hp).1, by simpa [World.setCell] using (h.base p z hp).2⟩⟩
  by_cases hi' : i = k
  · subst hi'
    rw [upd_same, hyc]
    exact World.cell?_setCell_same _ _ _ (h.but.rC id i hi)
  · rw [upd_other _ _ _ hi', World.cell?_setCell_other _ _ _ _ (by simp <;> omega)]
    exact h.but.rC id i hi

/-- The office lent a window. -/
theorem FleetAt.leased {B : Nat} {W W' : World} {F : FB} {rs : List (Nat × Nat)} {d : Nat → Fd} {all : List Int} (h : FleetAt B W F rs d all) {node fr : Nat} (hL : Leased W W' F.b F.m F.g F.span rs node fr) :
    ∃ g cap, (g = F.g ∨ W.heap.size ≤ g) ∧ FleetAt B W' { F with g := g, cap := cap } (rs ++ [(node, fr + F.span)]) d all := by
  obtain ⟨g', cap', hg, hO⟩ := hL.off
  refine ⟨g', cap', hg, ?_⟩
  have hat : ∀ p, p ≠ .row → ({ F with g := g', cap := cap' } : FB).at p = F.at p := fun p hne => by cases p <;> first | rfl | exact absurd rfl hne
  have cn : ∀ p, p ≠ .row → F.at p ≠ some g' := fun p hne hp => by
    rcases hg with e | e
    · exact hne (h.apart p .row g' hp (by rw [e]; rfl))
    · have := (h.base p _ hp).2; omega
  have hn := h.but.on (W' := W') (R' := fun p => p = .office ∨ p = .map ∨ p = .row) (fun p z hp hne => hL.keep.block z (h.base p z hp).2 (fun hs => by
    rcases hs with e | e | e
    · exact hne (Or.inl (h.apart p .office z hp (by rw [e]; rfl)))
    · exact hne (Or.inr (Or.inl (h.apart p .map z hp (by rw [e]; rfl))))
    · exact hne (Or.inr (Or.inr (h.apart p .row z hp (by rw [e]; rfl))))))
  have out : ∀ {p : Part}, p ≠ .office → p ≠ .map → p ≠ .row → ¬ (none' p ∨ (p = .office ∨ p = .map ∨ p = .row)) := fun h1 h3 h4 h2 => h2.elim id (fun e => e.elim h1 (fun e => e.elim h3 h4))
  refine ⟨⟨fun _ => hn.x0 (out (by simp) (by simp) (by simp)), fun _ => hn.x1 (out (by simp) (by simp) (by simp)), fun _ => hn.x2 (out (by simp) (by simp) (by simp)), fun _ => hn.x3 (out (by simp) (by simp) (by simp)), fun _ => hn.x4 (out (by simp) (by simp) (by simp)), fun _ => hn.x5 (out (by simp) (by simp) (by simp)), fun _ => hn.xz (out (by simp) (by simp) (by simp)),
    fun _ => hn.rD (out (by simp) (by simp) (by simp)), fun _ => hn.rN (out (by simp) (by simp) (by simp)), fun _ => hn.rC (out (by simp) (by simp) (by simp)), fun _ => hn.zC (out (by simp) (by simp) (by simp)), fun _ => hn.rT (out (by simp) (by simp) (by simp)), fun _ => hn.zT (out (by simp) (by simp) (by simp)), fun _ => hn.rA (out (by simp) (by simp) (by simp)),
    fun i hi _ _ => hn.dsk i hi (out (by simp) (by simp) (by simp)) (out (by simp) (by simp) (by simp)), fun _ _ _ => hO⟩, fun p q z hp hq => ?_, fun p z hp => ?_⟩
  · by_cases e1 : p = .row
    · by_cases e2 : q = .row
      · rw [e1, e2]
      · rw [e1] at hp; rw [hat q e2] at hq
        have hp' : some g' = some z := hp
        rw [← hp'] at hq
        exact absurd hq (cn q e2)
    · by_cases e2 : q = .row
      · rw [e2] at hq; rw [hat p e1] at hp
        have hq' : some g' = some z := hq
        rw [← hq'] at hp
        exact absurd hp (cn p e1)
      · rw [hat p e1] at hp; rw [hat q e2] at hq
        exact h.apart p q z hp hq
  · have hs := hL.keep.size
    by_cases e1 : p = .row
    · rw [e1] at hp
      have hp' : some g' = some z := hp
      cases hp'
      refine ⟨?_, hO.lt.2.2⟩
      rcases hg with e | e
      · rw [e]; exact (h.base .row F.g rfl).1
      · have := (h.base .own F.X rfl); omega
    · rw [hat p e1] at hp
      have := h.base p z hp
      exact ⟨this.1, Nat.lt_of_lt_of_le this.2 hs⟩

/-- Another office. -/
theorem FleetAt.reOffice {B : Nat} {W W' : World} {F : FB} {rs rs' : List (Nat × Nat)} {d : Nat → Fd} {all : List Int} (h : FleetAt B W F rs d all) (hb : Below W.heap.size W W') {b m g cap span : Nat} (hO : OfficeAt W' b m g cap span rs') (l1 : W.heap.size ≤ b) (l2 : W.heap.size ≤ m) (l3 : W.heap.size ≤ g) :
    FleetAt B (W'.setCell ⟨F.X, 4, none⟩ (.pointer (some ⟨b, 0, none⟩))) { F with b := b, m := m, g := g, cap := cap, span := span } rs' d all := by
  have hX := h.base .own F.X rfl
  have hat : ∀ p, p ≠ .office → p ≠ .map → p ≠ .row → ({ F with b := b, m := m, g := g, cap := cap, span := span } : FB).at p = F.at p := fun p h1 h2 h3 => by cases p <;> first | rfl | exact absurd rfl h1 | exact absurd rfl h2 | exact absurd rfl h3
  have hold : ∀ p z, F.at p = some z → z < W.heap.size := fun p z hp => (h.base p z hp).2
  have hn := h.but.on (W' := W'.setCell ⟨F.X, 4, none⟩ (.pointer (some ⟨b, 0, none⟩))) (R' := fun p => p = .own) (fun p z hp hne => by
    have h1 : z ≠ F.X := fun e => hne (h.apart p .own z hp (by rw [e]; rfl))
    rw [Below.heap_setCell _ _ _ _ h1]
    exact hb.block z (hold p z hp))
  have out : ∀ {p : Part}, p ≠ .own → ¬ (none' p ∨ p = .own) := fun h1 h2 => h2.elim id h1
  have hXb : W'.heap[F.X]? = W.heap[F.X]? := hb.block F.X hX.2
  have cX : ∀ o, W'.cell? ⟨F.X, o, none⟩ = W.cell? ⟨F.X, o, none⟩ := fun o => World.cell?_of_block (w := W) hXb
  have cO : ∀ o, o ≠ 4 → (W'.setCell ⟨F.X, 4, none⟩ (.pointer (some ⟨b, 0, none⟩))).cell? ⟨F.X, o, none⟩ = W.cell? ⟨F.X, o, none⟩ := fun o hne => by
    rw [World.cell?_setCell_other _ _ _ _ (by simp <;> omega)]; exact cX o
  have hl := hO.lt
  have hsb : ∀ z, W.heap.size ≤ z → (W'.setCell ⟨F.X, 4, none⟩ (.pointer (some ⟨b, 0, none⟩))).heap[z]? = W'.heap[z]? := fun z hz => Below.heap_setCell _ _ _ _ (by show z ≠ F.X; omega)
  have sz := hb.size
  have lo : ∀ p, (p = .office ∨ p = .map ∨ p = .row) → ∀ z, ({ F with b := b, m := m, g := g, cap := cap, span := span } : FB).at p = some z → W.heap.size ≤ z ∧ z < W'.heap.size := fun p hp z hz => by
    rcases hp with rfl | rfl | rfl <;> cases hz
    · exact ⟨l1, hl.1⟩
    · exact ⟨l2, hl.2.1⟩
    · exact ⟨l3, hl.2.2⟩
  have part3 : ∀ p : Part, (p = .office ∨ p = .map ∨ p = .row) ∨ (p ≠ .office ∧ p ≠ .map ∧ p ≠ .row) := fun p => by
    cases p <;> simp
  refine ⟨⟨fun _ => (cO 0 (by omega)).trans (h.but.x0 id), fun _ => (cO 1 (by omega)).trans (h.but.x1 id), fun _ => (cO 2 (by omega)).trans (h.but.x2 id), fun _ => (cO 3 (by omega)).trans (h.but.x3 id), fun _ => World.cell?_setCell_same _ _ _ ((cX 4).trans (h.but.x4 id)), fun _ => (cO 5 (by omega)).trans (h.but.x5 id),
    fun _ o => by rw [World.frozen?_setCell]; exact (World.frozen?_of_block (w := W) (a := ⟨F.X, o, none⟩) hXb).trans (h.but.xz id o),
    fun _ => hn.rD (out (by simp)), fun _ => hn.rN (out (by simp)), fun _ => hn.rC (out (by simp)), fun _ => hn.zC (out (by simp)), fun _ => hn.rT (out (by simp)), fun _ => hn.zT (out (by simp)), fun _ => hn.rA (out (by simp)),
    fun i hi _ _ => hn.dsk i hi (out (by simp)) (out (by simp)), fun _ _ _ => hO.on (hsb b l1) (hsb m l2) (hsb g l3)⟩, fun p q z hp hq => ?_, fun p z hp => ?_⟩
  · rcases part3 p with e1 | ⟨p1, p2, p3⟩
    · have := lo p e1 z hp
      rcases part3 q with e2 | ⟨q1, q2, q3⟩
      · rcases e1 with rfl | rfl | rfl <;> rcases e2 with rfl | rfl | rfl <;> first | rfl | (exfalso; cases hp; cases hq; first | exact hO.bm rfl | exact hO.bg rfl | exact hO.gm rfl)
      · rw [hat q q1 q2 q3] at hq
        have := hold q z hq; omega
    · rw [hat p p1 p2 p3] at hp
      have := hold p z hp
      rcases part3 q with e2 | ⟨q1, q2, q3⟩
      · have := lo q e2 z hq; omega
      · rw [hat q q1 q2 q3] at hq
        exact h.apart p q z hp hq
  · have hs : (W'.setCell ⟨F.X, 4, none⟩ (.pointer (some ⟨b, 0, none⟩))).heap.size = W'.heap.size := by simp [World.setCell]
    rw [hs]
    rcases part3 p with e1 | ⟨p1, p2, p3⟩
    · have := lo p e1 z hp; omega
    · rw [hat p p1 p2 p3] at hp
      have := h.base p z hp; omega
end Go.Proofs.Ytdplffhieekfaaa
