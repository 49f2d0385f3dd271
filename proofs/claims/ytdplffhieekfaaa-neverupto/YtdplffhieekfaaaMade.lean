/-
  stampskeep's fleet: six desks are made; then it is a fleet.
-/
import Derived.Test.YtdplffhieekfaaaDeskMade
namespace Go.Proofs.Ytdplffhieekfaaa
open Go.RowKit Go.Maps Go.Lib

/-- A fleet of k desks. -/
structure Made (B : Nat) (W0 W : World) (X k sp : Nat) : Prop where
  mk ::
  ex : ∃ (G : GB) (rs : List (Nat × Nat)) (s : Nat → Dk), G.X = X ∧ G.n = k ∧ G.span = sp ∧
    GrowAt B W G rs s ((List.range k).map fun i => .pointer (some ⟨G.dk i, 0, none⟩)) ((List.range k).map fun i => .int .i64 ((i / 2 : Nat) : Int)) ((List.range k).map fun i => .int .i64 (s i).frm) ((List.range k).map fun _ => .int .u64 0) ∧
    rs.length = k ∧ (∀ i, i < k → (∃ f t : Nat, s i = newDk ((i / 2 : Nat) : Int) f t 100 ∧ f < t ∧ t ≤ 2000 ∧ t ≤ fenceOf rs (i / 2))) ∧
    (∀ i j, i < k → j < k → i ≠ j → i / 2 = j / 2 → (s i).to ≤ (s j).frm ∨ (s j).to ≤ (s i).frm) ∧ (∀ nd, fenceOf rs nd ≤ 500 + 50 * k) ∧ Below B W0 W

/-- One more. -/
theorem Made.step {B : Nat} {W0 W : World} {X k sp : Nat} (h : Made B W0 W X k sp) (hk : k < 6) (s1 : 1 ≤ sp) (s2 : sp ≤ 50) (now : Int) (n1 : now ≤ 499) :
    Calls Try.prog 18 #[.pointer (some ⟨X, 0, none⟩), .int .i64 ((k / 2 : Nat) : Int), .int .i64 now] W fun e w' => e = .returned (.bool true) ∧ Made B W0 w' X (k + 1) sp := by
  obtain ⟨G, rs, s, rfl, hn, rfl, hG, hr, hs, ha, hf, hb⟩ := h.ex
  obtain ⟨fr, hfr⟩ : ∃ fr : Nat, (fr : Int) = fromOf now (fenceOf rs (k / 2)) := ⟨(fromOf now (fenceOf rs (k / 2))).toNat, Int.toNat_of_nonneg (by unfold fromOf; omega)⟩
  have hfk := hf (k / 2)
  have hfb : fr ≤ 500 + 50 * k ∧ fenceOf rs (k / 2) ≤ fr := by unfold fromOf at hfr; omega
  refine (desk_walk hG (by simp; omega) (by simp; omega) (by simp; omega) (by simp; omega) (k / 2) fr (by omega) now hfr (by omega) s1 s2 (by omega)).mono ?_
  rintro e w' ⟨he, hD⟩
  refine ⟨he, ?_⟩
  obtain ⟨g, cap, vD, vN, vC, vT, kb, hA⟩ := hD.ex
  rw [hn] at hA
  have hmap : ∀ (f f' : Nat → Value) (u : Value), (∀ i, i < k → f' i = f i) → f' k = u → (List.range k).map f ++ [u] = (List.range (k + 1)).map f' := fun f f' u h1 h2 => by
    rw [List.range_succ, List.map_append, List.map_singleton, h2]
    congr 1
    exact List.map_congr_left (fun i hi => (h1 i (List.mem_range.1 hi)).symm)
  refine ⟨{ G with g := g, cap := cap, vD := vD, vN := vN, vC := vC, vT := vT, dk := upd G.dk k kb, n := k + 1 }, rs ++ [(k / 2, fr + G.span)], upd s k (newDk ((k / 2 : Nat) : Int) fr ((fr : Int) + (G.span : Int)) 100), rfl, rfl, rfl, ?_, by simp; omega, fun i hi => ?_, fun i j hi hj hne he => ?_, fun nd => ?_, hb.trans hD.bel⟩
  · rw [hmap _ (fun i => .pointer (some ⟨upd G.dk k kb i, 0, none⟩)) _ (fun i hi => by rw [upd_other _ _ _ (by omega)]) (by rw [upd_same]),
      hmap _ (fun i => .int .i64 ((i / 2 : Nat) : Int)) _ (fun i hi => rfl) rfl,
      hmap _ (fun i => .int .i64 (upd s k (newDk ((k / 2 : Nat) : Int) fr ((fr : Int) + (G.span : Int)) 100) i).frm) _ (fun i hi => by rw [upd_other _ _ _ (by omega)]) (by rw [upd_same]; rfl),
      hmap _ (fun _ => .int .u64 0) _ (fun i hi => rfl) rfl] at hA
    exact hA
  · by_cases hi' : i = k
    · subst hi'
      refine ⟨fr, fr + G.span, by rw [upd_same, Int.natCast_add], by omega, by omega, ?_⟩
      rw [fence_snoc, if_pos rfl]
      exact Nat.le_refl _
    · obtain ⟨f, t, h1, h2, h3, h4⟩ := hs i (by omega)
      refine ⟨f, t, by rw [upd_other _ _ _ hi']; exact h1, h2, h3, ?_⟩
      rw [fence_snoc]
      by_cases e : k / 2 = i / 2
      · rw [if_pos e]
        rw [← e] at h4
        exact Nat.le_trans h4 (Nat.le_trans hfb.2 (Nat.le_add_right _ _))
      · rw [if_neg e]; exact h4
  · have hold : ∀ i, i < k → (s i).to ≤ (fenceOf rs (i / 2) : Int) := fun i hi => by
      obtain ⟨f, t, h1, _, _, h4⟩ := hs i hi
      rw [h1]
      show (t : Int) ≤ _
      omega
    by_cases hi' : i = k
    · by_cases hj' : j = k
      · omega
      · right
        rw [hi', upd_same, upd_other _ _ _ hj']
        have := hold j (by omega)
        rw [← he, hi'] at this
        show (s j).to ≤ (fr : Int)
        omega
    · by_cases hj' : j = k
      · left
        rw [hj', upd_same, upd_other _ _ _ hi']
        have := hold i (by omega)
        rw [he, hj'] at this
        show (s i).to ≤ (fr : Int)
        omega
      · rw [upd_other _ _ _ hi', upd_other _ _ _ hj']
        exact ha i j (by omega) (by omega) hne he
  · rw [fence_snoc]
    have := hf nd
    by_cases e : k / 2 = nd
    · rw [if_pos e]; show fr + G.span ≤ _; omega
    · rw [if_neg e]; omega

theorem range_cell {w : World} {base : Nat} {e : TypeId} {v : Value} {f : Nat → Value} (h : w.ownsRow base e 1 v ((List.range 6).map f).length ((List.range 6).map f)) :
    ∃ g cap, v = .slice (some ⟨g, 0, none⟩) 6 cap ∧ (∀ k, k < 6 → w.cell? ⟨g, k, none⟩ = some (f k)) ∧ ∀ k, w.frozen? ⟨g, k, none⟩ = false := by
  rcases h.2 with ⟨_, hn⟩ | ⟨g, cap, cur, rfl, h1, h2, h3⟩
  · simp at hn
  · refine ⟨g, cap, by simp, fun k hk => ?_, fun k => by simp [World.frozen?, h2]⟩
    have := h.cells (g := g) rfl k (f k) (by simp [hk])
    rwa [Lib.add_plain, Nat.zero_add] at this

/-- Six desks are a fleet. -/
theorem Made.fleet {B : Nat} {W0 W : World} {X sp : Nat} (h : Made B W0 W X 6 sp) (s1 : 1 ≤ sp) (s2 : sp ≤ 50) : FleetInv B W0 W X 0 := by
  obtain ⟨G, rs, s, rfl, hn, rfl, hG, hr, hs, ha, hf, hb⟩ := h.ex
  obtain ⟨gD, cD, eD, kD, _⟩ := range_cell (hG.but.rD id)
  obtain ⟨gN, cN, eN, kN, _⟩ := range_cell (hG.but.rN id)
  obtain ⟨gC, cC, eC, kC, zC⟩ := range_cell (hG.but.rC id)
  obtain ⟨gT, cT, eT, kT, zT⟩ := range_cell (hG.but.rT id)
  have hat : ∀ p, ({ X := G.X, gD := gD, gN := gN, gC := gC, gT := gT, b := G.b, m := G.m, g := G.g, cD := cD, cN := cN, cC := cC, cT := cT, cap := G.cap, span := G.span, dk := G.dk, ch := fun _ => none, vA := .slice none 0 0 } : FB).at p = G.at p := fun p => by
    cases p with
    | own => rfl
    | desks => show some gD = G.vD.ownBlock; rw [eD]; rfl
    | nodes => show some gN = G.vN.ownBlock; rw [eN]; rfl
    | clocks => show some gC = G.vC.ownBlock; rw [eC]; rfl
    | last => show some gT = G.vT.ownBlock; rw [eT]; rfl
    | all => rfl
    | office => rfl
    | map => rfl
    | row => rfl
    | desk i => show (if i < 6 then some (G.dk i) else none) = (if i < G.n then some (G.dk i) else none); rw [hn]
    | chan i => show (if i < 6 then none else none) = none; split <;> rfl
  have hsk : ∀ k, k < 6 → ∃ f t : Nat, s k = newDk ((k / 2 : Nat) : Int) f t 100 ∧ f < t ∧ t ≤ 2000 ∧ t ≤ fenceOf rs (k / 2) := hs
  refine ⟨{ X := G.X, gD := gD, gN := gN, gC := gC, gT := gT, b := G.b, m := G.m, g := G.g, cD := cD, cN := cN, cC := cC, cT := cT, cap := G.cap, span := G.span, dk := G.dk, ch := fun _ => none, vA := .slice none 0 0 }, rs, fun k => { s := s k, clk := (s k).frm, last := 0 }, fun _ => 0, [], rfl, ?_, ?_, fun k hk => ?_, fun k hk => Int.le_refl _, by simp, by omega, s1, s2, hb⟩
  · refine ⟨⟨fun _ => (hG.but.x0 id).trans (by rw [eD]), fun _ => (hG.but.x1 id).trans (by rw [eN]), fun _ => (hG.but.x2 id).trans (by rw [eC]), fun _ => (hG.but.x3 id).trans (by rw [eT]), fun _ => hG.but.x4 id, fun _ => hG.but.x5 id, fun _ => hG.but.xz id, fun _ => kD, fun _ => kN, fun _ => kC, fun _ k _ => zC k, fun _ => kT, fun _ k _ => zT k, fun _ => ⟨rfl, Or.inl ⟨rfl, rfl⟩⟩, fun k hk _ _ => hG.but.dsk k (by omega) id, fun _ _ _ => hG.but.off id id id⟩, fun p q x hp hq => hG.apart p q x ((hat p).symm.trans hp) ((hat q).symm.trans hq), fun p x hp => hG.base p x ((hat p).symm.trans hp)⟩
  · refine ⟨fun k hk => ?_, fun k hk => (hG.but.dsk k (by omega) id).ok, fun k hk => ?_, fun k hk => ?_, fun k hk => ?_, fun nd => by have := hf nd; omega, fun k hk => ?_, fun i j hi hj h1 h2 => ha i j hi hj h1 h2, fun k hk => Or.inl rfl, fun n hn => by cases hn⟩
    · obtain ⟨f, t, e, _⟩ := hsk k hk; show (s k).node = _; rw [e]; rfl
    · obtain ⟨f, t, e, _⟩ := hsk k hk; show (s k).brw = _; rw [e]; rfl
    · obtain ⟨f, t, e, _⟩ := hsk k hk; show 0 ≤ (s k).given ∧ (s k).given ≤ _; rw [e]; exact ⟨Int.le_refl _, by simp [newDk]⟩
    · obtain ⟨f, t, e, e1, e2, _⟩ := hsk k hk; show _ ≤ (s k).frm ∧ (s k).frm ≤ _; rw [e]; show -1000 - 15 * ((0 : Nat) : Int) ≤ (f : Int) ∧ (f : Int) ≤ _; omega
    · obtain ⟨f, t, e, _, _, e3⟩ := hsk k hk; show (s k).to ≤ _; rw [e]; show (t : Int) ≤ _; omega
  · obtain ⟨f, t, e, _⟩ := hsk k hk
    show 0 ≤ (s k).top
    rw [e]
    show 0 ≤ (0 : Int) * 4194304 + ((k / 2 : Nat) : Int) * 4096 + 0
    omega
end Go.Proofs.Ytdplffhieekfaaa
