/-
  A fleet in memory: its own block, five rows, an office, six desks; each block has one part, and no two parts have one block.
-/
import Derived.Test.YtdplffhieekfaaaFleet
import Derived.Test.YtdplffhieekfaaaLentAt
import Derived.Test.YtdplffhieekfaaaBatch
namespace Go.Proofs.Ytdplffhieekfaaa
open Go.RowKit Go.Maps Go.Lib

/-- The parts of a fleet. -/
inductive Part
  | own | desks | nodes | clocks | last | all | office | map | row
  | desk (k : Nat)
  | chan (k : Nat)

/-- The blocks of a fleet. -/
structure FB where
  X : Nat
  gD : Nat
  gN : Nat
  gC : Nat
  gT : Nat
  b : Nat
  m : Nat
  g : Nat
  cD : Nat
  cN : Nat
  cC : Nat
  cT : Nat
  cap : Nat
  span : Nat
  dk : Nat → Nat
  ch : Nat → Option Nat
  vA : Value

/-- Which block a part has. -/
def FB.at (F : FB) : Part → Option Nat
  | .own => some F.X
  | .desks => some F.gD
  | .nodes => some F.gN
  | .clocks => some F.gC
  | .last => some F.gT
  | .all => F.vA.ownBlock
  | .office => some F.b
  | .map => some F.m
  | .row => some F.g
  | .desk k => if k < 6 then some (F.dk k) else none
  | .chan k => if k < 6 then F.ch k else none

/-- No two parts have one block. -/
def FB.Apart (F : FB) : Prop := ∀ p q x, F.at p = some x → F.at q = some x → p = q

/-- A fleet in memory, but for the parts of R. -/
structure FleetBut (R : Part → Prop) (B : Nat) (W : World) (F : FB) (rs : List (Nat × Nat)) (d : Nat → Fd) (all : List Int) : Prop where
  x0 : ¬ R .own → W.cell? ⟨F.X, 0, none⟩ = some (.slice (some ⟨F.gD, 0, none⟩) 6 F.cD)
  x1 : ¬ R .own → W.cell? ⟨F.X, 1, none⟩ = some (.slice (some ⟨F.gN, 0, none⟩) 6 F.cN)
  x2 : ¬ R .own → W.cell? ⟨F.X, 2, none⟩ = some (.slice (some ⟨F.gC, 0, none⟩) 6 F.cC)
  x3 : ¬ R .own → W.cell? ⟨F.X, 3, none⟩ = some (.slice (some ⟨F.gT, 0, none⟩) 6 F.cT)
  x4 : ¬ R .own → W.cell? ⟨F.X, 4, none⟩ = some (.pointer (some ⟨F.b, 0, none⟩))
  x5 : ¬ R .own → W.cell? ⟨F.X, 5, none⟩ = some F.vA
  xz : ¬ R .own → ∀ o, W.frozen? ⟨F.X, o, none⟩ = false
  rD : ¬ R .desks → ∀ k, k < 6 → W.cell? ⟨F.gD, k, none⟩ = some (.pointer (some ⟨F.dk k, 0, none⟩))
  rN : ¬ R .nodes → ∀ k, k < 6 → W.cell? ⟨F.gN, k, none⟩ = some (.int .i64 ((k / 2 : Nat) : Int))
  rC : ¬ R .clocks → ∀ k, k < 6 → W.cell? ⟨F.gC, k, none⟩ = some (.int .i64 (d k).clk)
  zC : ¬ R .clocks → ∀ k, k < 6 → W.frozen? ⟨F.gC, k, none⟩ = false
  rT : ¬ R .last → ∀ k, k < 6 → W.cell? ⟨F.gT, k, none⟩ = some (.int .u64 (d k).last)
  zT : ¬ R .last → ∀ k, k < 6 → W.frozen? ⟨F.gT, k, none⟩ = false
  rA : ¬ R .all → W.ownsRow B 22 1 F.vA all.length (all.map (Value.int .u64))
  dsk : ∀ k, k < 6 → ¬ R (.desk k) → ¬ R (.chan k) → DeskAt W (F.dk k) (F.ch k) (d k).s
  off : ¬ R .office → ¬ R .map → ¬ R .row → OfficeAt W F.b F.m F.g F.cap F.span rs

def none' : Part → Prop := fun _ => False

theorem DeskAt.on {w w' : World} {b : Nat} {c : Option Nat} {s : Dk} (h : DeskAt w b c s) (hb : w'.heap[b]? = w.heap[b]?) (hc : ∀ k, c = some k → w'.heap[k]? = w.heap[k]?) : DeskAt w' b c s := by
  obtain ⟨ok, made, hm, hcl, hr⟩ := h
  have ec : ∀ o, w'.cell? ⟨b, o, none⟩ = w.cell? ⟨b, o, none⟩ := fun o => World.cell?_of_block (w := w) hb
  refine ⟨ok, made, hm, ⟨(ec 0).trans hcl.c0, (ec 1).trans hcl.c1, (ec 2).trans hcl.c2, (ec 3).trans hcl.c3, (ec 4).trans hcl.c4, (ec 5).trans hcl.c5, (ec 6).trans hcl.c6, (ec 7).trans hcl.c7, fun o => (World.frozen?_of_block (w := w) (a := ⟨b, o, none⟩) hb).trans (hcl.fz o)⟩, ?_⟩
  cases c with
  | none => exact hr
  | some k =>
    obtain ⟨buf, sn, rc, h1, h2⟩ := hr
    exact ⟨buf, sn, rc, (hc k rfl).trans h1, h2⟩

/-- What is written to parts of R' leaves the others. -/
theorem FleetBut.on {R R' : Part → Prop} {B : Nat} {W W' : World} {F : FB} {rs : List (Nat × Nat)} {d : Nat → Fd} {all : List Int} (h : FleetBut R B W F rs d all) (hk : ∀ p x, F.at p = some x → ¬ R' p → W'.heap[x]? = W.heap[x]?) : FleetBut (fun p => R p ∨ R' p) B W' F rs d all := by
  have hc : ∀ p x o, F.at p = some x → ¬ R' p → W'.cell? ⟨x, o, none⟩ = W.cell? ⟨x, o, none⟩ := fun p x o h1 h2 => World.cell?_of_block (w := W) (hk p x h1 h2)
  have hz : ∀ p x o, F.at p = some x → ¬ R' p → W'.frozen? ⟨x, o, none⟩ = W.frozen? ⟨x, o, none⟩ := fun p x o h1 h2 => World.frozen?_of_block (w := W) (a := ⟨x, o, none⟩) (hk p x h1 h2)
  have a1 : ∀ {p}, ¬ (R p ∨ R' p) → ¬ R p := fun hn h => hn (Or.inl h)
  have a2 : ∀ {p}, ¬ (R p ∨ R' p) → ¬ R' p := fun hn h => hn (Or.inr h)
  refine ⟨fun n => (hc .own _ _ rfl (a2 n)).trans (h.x0 (a1 n)), fun n => (hc .own _ _ rfl (a2 n)).trans (h.x1 (a1 n)), fun n => (hc .own _ _ rfl (a2 n)).trans (h.x2 (a1 n)), fun n => (hc .own _ _ rfl (a2 n)).trans (h.x3 (a1 n)),
    fun n => (hc .own _ _ rfl (a2 n)).trans (h.x4 (a1 n)), fun n => (hc .own _ _ rfl (a2 n)).trans (h.x5 (a1 n)), fun n o => (hz .own _ _ rfl (a2 n)).trans (h.xz (a1 n) o),
    fun n k hk' => (hc .desks _ _ rfl (a2 n)).trans (h.rD (a1 n) k hk'), fun n k hk' => (hc .nodes _ _ rfl (a2 n)).trans (h.rN (a1 n) k hk'), fun n k hk' => (hc .clocks _ _ rfl (a2 n)).trans (h.rC (a1 n) k hk'), fun n k hk' => (hz .clocks _ _ rfl (a2 n)).trans (h.zC (a1 n) k hk'),
    fun n k hk' => (hc .last _ _ rfl (a2 n)).trans (h.rT (a1 n) k hk'), fun n k hk' => (hz .last _ _ rfl (a2 n)).trans (h.zT (a1 n) k hk'), fun n => owns_on (h.rA (a1 n)) (fun x hx => hk .all x hx (a2 n)),
    fun k hk' n1 n2 => (h.dsk k hk' (a1 n1) (a1 n2)).on (hk (.desk k) _ (if_pos hk') (a2 n1)) (fun x hx => hk (.chan k) x ((if_pos hk').trans hx) (a2 n2)),
    fun n1 n2 n3 => (h.off (a1 n1) (a1 n2) (a1 n3)).on (hk .office _ rfl (a2 n1)) (hk .map _ rfl (a2 n2)) (hk .row _ rfl (a2 n3))⟩

/-- A fleet in memory. -/
structure FleetAt (B : Nat) (W : World) (F : FB) (rs : List (Nat × Nat)) (d : Nat → Fd) (all : List Int) : Prop where
  but : FleetBut none' B W F rs d all
  apart : F.Apart
  base : ∀ p x, F.at p = some x → B ≤ x ∧ x < W.heap.size

theorem FleetAt.below {B : Nat} {W W' : World} {F : FB} {rs : List (Nat × Nat)} {d : Nat → Fd} {all : List Int} (h : FleetAt B W F rs d all) (hb : Below W.heap.size W W') : FleetAt B W' F rs d all := by
  have hn := h.but.on (W' := W') (R' := none') (fun p x hp _ => hb.block x (h.base p x hp).2)
  exact ⟨⟨fun _ => hn.x0 (fun e => e.elim id id), fun _ => hn.x1 (fun e => e.elim id id), fun _ => hn.x2 (fun e => e.elim id id), fun _ => hn.x3 (fun e => e.elim id id), fun _ => hn.x4 (fun e => e.elim id id), fun _ => hn.x5 (fun e => e.elim id id), fun _ => hn.xz (fun e => e.elim id id),
    fun _ => hn.rD (fun e => e.elim id id), fun _ => hn.rN (fun e => e.elim id id), fun _ => hn.rC (fun e => e.elim id id), fun _ => hn.zC (fun e => e.elim id id), fun _ => hn.rT (fun e => e.elim id id), fun _ => hn.zT (fun e => e.elim id id), fun _ => hn.rA (fun e => e.elim id id),
    fun k hk _ _ => hn.dsk k hk (fun e => e.elim id id) (fun e => e.elim id id), fun _ _ _ => hn.off (fun e => e.elim id id) (fun e => e.elim id id) (fun e => e.elim id id)⟩, h.apart, fun p x hp => ⟨(h.base p x hp).1, Nat.lt_of_lt_of_le (h.base p x hp).2 hb.size⟩⟩
end Go.Proofs.Ytdplffhieekfaaa
