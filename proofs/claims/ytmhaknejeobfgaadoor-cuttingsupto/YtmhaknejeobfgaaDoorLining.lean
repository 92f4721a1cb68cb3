/- The stages of a line in memory, one behind the other in a block; what an operation on one of them leaves of all. What a stage's methods leave of a line's stages; what a stage released goes through those behind it. A line's handOn: what a stage released goes through those behind it. A line of stages in plain lists, of which the first may have ended: what goes through when one more code point comes, or the next stage ends. A line's Enter, End and Take. A line's End and Take. A line's Take. -/
import Derived.Test.YtmhaknejeobfgaaDoorStages
import Derived.Deep.LoopGhost
import Derived.Test.YtmhaknejeobfgaaDoorQueues
import Derived.Deep.RegionHeld3
import Derived.Deep.RegionWith

/- Line1. -/
namespace Go.Proofs.YtmhaknejeobfgaaDoor
open Go.RowKit Go.Proofs.YtmhaknejeobfgaaDoor.Stable Go.Proofs.YtmhaknejeobfgaaDoor.Order Go.Proofs.YtmhaknejeobfgaaDoor.Points

variable {mo : Nat}

def upd {α : Type} (f : Nat → α) (i : Nat) (v : α) : Nat → α := fun j => if j = i then v else f j

theorem upd_same {α : Type} (f : Nat → α) (i : Nat) (v : α) : upd f i v i = v := by simp [upd]
theorem upd_other {α : Type} (f : Nat → α) {i j : Nat} (v : α) (h : j ≠ i) : upd f i v j = f j := by simp [upd, h]

/-- The blocks of the stages: theirs, and the rows of their queues. -/
def Own (n bs : Nat) (gm gr : Nat → Option Nat) (x : Nat) : Prop := x = bs ∨ ∃ j, j < n ∧ (gm j = some x ∨ gr j = some x)

/-- The stages of a line: of each what it was given, whether it has ended, what it has released that was not taken. -/
structure Sts (w : World) (hi bs : Nat) (cs : Array Value) (t : TypeId) (B n : Nat) (ks : Nat → Bool × Bool) (gm gr : Nat → Option Nat) (Ls : Nat → List Int) (es : Nat → Bool) (rs : Nat → List Int) : Prop where
  blk : w.heap[bs]? = some (.cells cs t (0, 0))
  st : ∀ i, i < n → ∃ N, StageIs (heldOf (Ls i)) w hi bs cs (8 * i) B (ks i).1 (ks i).2 (gm i) (gr i) (waitOf (es i) (Ls i)) (rs i) N ∧ N + (waitOf (es i) (Ls i)).length ≤ 2 * (Ls i).length
  sep : ∀ i j, i < n → j < n → i ≠ j → ∀ x, (gm i = some x ∨ gr i = some x) → gm j ≠ some x ∧ gr j ≠ some x

theorem Sts.own_lt {w : World} {hi bs : Nat} {cs : Array Value} {t : TypeId} {B n : Nat} {ks : Nat → Bool × Bool} {gm gr : Nat → Option Nat} {Ls : Nat → List Int} {es : Nat → Bool} {rs : Nat → List Int} (h : Sts w hi bs cs t B n ks gm gr Ls es rs) {x : Nat} (hx : Own n bs gm gr x) : x < w.heap.size := by
  rcases hx with rfl | ⟨j, hj, hx⟩
  · exact lt_of h.blk
  · obtain ⟨N, hS, _⟩ := h.st j hj
    rcases hx with hx | hx
    · exact hS.qm.lt hx
    · exact hS.qr.lt hx

theorem StageIs.cells {w : World} {hi bs : Nat} {cs cs' : Array Value} {os B : Nat} {compat folds : Bool} {gm gr : Option Nat} {ms rs : List Int} {N : Nat} (h : StageIs mo w hi bs cs os B compat folds gm gr ms rs N) (hc : ∀ i, os ≤ i → i < os + 8 → cs'[i]? = cs[i]?) : StageIs mo w hi bs cs' os B compat folds gm gr ms rs N :=
  { h with c0 := (hc _ (by omega) (by omega)).trans h.c0, c1 := (hc _ (by omega) (by omega)).trans h.c1, c2 := (hc _ (by omega) (by omega)).trans h.c2, qm := h.qm.cells (hc _ (by omega) (by omega)) (hc _ (by omega) (by omega)), c5 := (hc _ (by omega) (by omega)).trans h.c5, qr := h.qr.cells (hc _ (by omega) (by omega)) (hc _ (by omega) (by omega)) }

theorem Sts.left {w w' : World} {hi bs : Nat} {cs : Array Value} {t : TypeId} {B n : Nat} {ks : Nat → Bool × Bool} {gm gr : Nat → Option Nat} {Ls : Nat → List Int} {es : Nat → Bool} {rs : Nat → List Int} (h : Sts w hi bs cs t B n ks gm gr Ls es rs) {i : Nat} (hin : i < n) {L' r' : List Int} {e' : Bool} {N' : Nat}
    (hL : StageLeft (heldOf L') w w' hi bs cs t (8 * i) B (ks i).1 (ks i).2 (gm i) (gr i) (waitOf e' L') r' N') (hM : N' + (waitOf e' L').length ≤ 2 * L'.length) :
    ∃ cs' gm' gr', Sts w' hi bs cs' t B n ks gm' gr' (upd Ls i L') (upd es i e') (upd rs i r') ∧ (∀ x, Own n bs gm' gr' x → Own n bs gm gr x ∨ w.heap.size ≤ x) ∧ Fr (Own n bs gm gr) w w' := by
  obtain ⟨cs', gm', gr', q1, q2, q3, q4, q5, q6, q7⟩ := hL
  have new : ∀ {g g' : Option Nat}, NewOr w g g' → ∀ x, g' = some x → g = some x ∨ w.heap.size ≤ x := by
    intro g g' h x hx
    rcases h with h | ⟨y, h, hy⟩
    · exact .inl (by rw [← h, hx])
    · rw [h] at hx
      cases hx
      exact .inr hy
  refine ⟨cs', upd gm i gm', upd gr i gr', ⟨q1, fun j hj => ?_, fun a b ha hb hab x hx => ?_⟩, fun x hx => ?_, q7.mono (fun x _ hx => ?_)⟩
  · by_cases hji : j = i
    · subst hji
      simp only [upd_same]
      exact ⟨N', q4, hM⟩
    · simp only [upd_other _ _ hji]
      obtain ⟨N, hS, hN⟩ := h.st j hj
      refine ⟨N, (hS.kept q7 (fun x hx hs => ?_) (fun x hx hs => ?_) (fun x hx hs => ?_)).cells (fun k h1 h2 => q3 k (by omega)), hN⟩
      · obtain ⟨Ni, hSi, _⟩ := h.st i hin
        rcases hs with hs | hs | hs
        · have := hS.hib; omega
        · have := hSi.him x hs.symm; omega
        · have := hSi.hir x hs.symm; omega
      · rcases hs with hs | hs | hs
        · exact hS.gmb (by rw [hx, hs])
        · exact (h.sep i j hin hj (Ne.symm hji) x (.inl hs.symm)).1 hx
        · exact (h.sep i j hin hj (Ne.symm hji) x (.inr hs.symm)).1 hx
      · rcases hs with hs | hs | hs
        · exact hS.grb (by rw [hx, hs])
        · exact (h.sep i j hin hj (Ne.symm hji) x (.inl hs.symm)).2 hx
        · exact (h.sep i j hin hj (Ne.symm hji) x (.inr hs.symm)).2 hx
  · by_cases hai : a = i
    · subst hai
      rw [upd_same, upd_same] at hx
      rw [upd_other _ _ (Ne.symm hab), upd_other _ _ (Ne.symm hab)]
      have hold : (gm a = some x ∨ gr a = some x) ∨ w.heap.size ≤ x := by
        rcases hx with hx | hx
        · rcases new q5 x hx with k | k
          · exact .inl (.inl k)
          · exact .inr k
        · rcases new q6 x hx with k | k
          · exact .inl (.inr k)
          · exact .inr k
      rcases hold with k | k
      · exact h.sep a b ha hb hab x k
      · refine ⟨fun e => ?_, fun e => ?_⟩
        · have := h.own_lt (.inr ⟨b, hb, .inl e⟩); omega
        · have := h.own_lt (.inr ⟨b, hb, .inr e⟩); omega
    · rw [upd_other _ _ hai, upd_other _ _ hai] at hx
      by_cases hbi : b = i
      · subst hbi
        rw [upd_same, upd_same]
        have hlt : x < w.heap.size := h.own_lt (.inr ⟨a, ha, hx⟩)
        have hs := h.sep a b ha hb hab x hx
        refine ⟨fun e => ?_, fun e => ?_⟩
        · rcases new q5 x e with k | k
          · exact hs.1 k
          · omega
        · rcases new q6 x e with k | k
          · exact hs.2 k
          · omega
      · rw [upd_other _ _ hbi, upd_other _ _ hbi]
        exact h.sep a b ha hb hab x hx
  · rcases hx with hx | ⟨j, hj, hx⟩
    · exact .inl (.inl hx)
    · by_cases hji : j = i
      · subst hji
        rw [upd_same, upd_same] at hx
        rcases hx with hx | hx
        · rcases new q5 x hx with k | k
          · exact .inl (.inr ⟨j, hj, .inl k⟩)
          · exact .inr k
        · rcases new q6 x hx with k | k
          · exact .inl (.inr ⟨j, hj, .inr k⟩)
          · exact .inr k
      · rw [upd_other _ _ hji, upd_other _ _ hji] at hx
        exact .inl (.inr ⟨j, hj, hx⟩)
  · rcases hx with hx | hx | hx
    · exact .inl hx
    · exact .inr ⟨i, hin, .inl hx.symm⟩
    · exact .inr ⟨i, hin, .inr hx.symm⟩

theorem Sts.kept {w w' : World} {hi bs : Nat} {cs : Array Value} {t : TypeId} {B n : Nat} {ks : Nat → Bool × Bool} {gm gr : Nat → Option Nat} {Ls : Nat → List Int} {es : Nat → Bool} {rs : Nat → List Int} (h : Sts w hi bs cs t B n ks gm gr Ls es rs) {S : Nat → Prop} (hf : Fr S w w') (hS : ∀ x, x < hi → ¬ S x) (ho : ∀ x, Own n bs gm gr x → ¬ S x) : Sts w' hi bs cs t B n ks gm gr Ls es rs := by
  refine ⟨(hf.block bs (lt_of h.blk) (ho bs (.inl rfl))).trans h.blk, fun i hi => ?_, h.sep⟩
  obtain ⟨N, hS', hN⟩ := h.st i hi
  exact ⟨N, hS'.kept hf hS (fun x hx => ho x (.inr ⟨i, hi, .inl hx⟩)) (fun x hx => ho x (.inr ⟨i, hi, .inr hx⟩)), hN⟩

/-- The same, whatever its blocks are: all of them in S. -/
def StsIn (w : World) (hi bs : Nat) (t : TypeId) (B n : Nat) (ks : Nat → Bool × Bool) (Ls : Nat → List Int) (es : Nat → Bool) (rs : Nat → List Int) (S : Nat → Prop) : Prop :=
  ∃ cs gm gr, Sts w hi bs cs t B n ks gm gr Ls es rs ∧ ∀ x, Own n bs gm gr x → S x

/-- What an operation leaves: new contents, blocks that were its own or are new, all else as it was. -/
def StsLeft (w w' : World) (hi bs : Nat) (t : TypeId) (B n : Nat) (ks : Nat → Bool × Bool) (Ls : Nat → List Int) (es : Nat → Bool) (rs : Nat → List Int) (S : Nat → Prop) : Prop :=
  StsIn w' hi bs t B n ks Ls es rs (fun x => S x ∨ w.heap.size ≤ x) ∧ Fr S w w'

theorem StsLeft.trans {w w1 w2 : World} {hi bs : Nat} {t : TypeId} {B n : Nat} {ks : Nat → Bool × Bool} {Ls : Nat → List Int} {es : Nat → Bool} {rs : Nat → List Int} {S : Nat → Prop} (hf : Fr S w w1) (h : StsLeft w1 w2 hi bs t B n ks Ls es rs (fun x => S x ∨ w.heap.size ≤ x)) : StsLeft w w2 hi bs t B n ks Ls es rs S := by
  obtain ⟨⟨cs, gm, gr, h1, h2⟩, h3⟩ := h
  refine ⟨⟨cs, gm, gr, h1, fun x hx => ?_⟩, hf.trans h3 (fun i hi h => ?_)⟩
  · rcases h2 x hx with h | h
    · exact h
    · have := hf.size; exact .inr (by omega)
  · rcases h with h | h
    · exact h
    · omega

theorem StsIn.none {w w' : World} {hi bs : Nat} {t : TypeId} {B n : Nat} {ks : Nat → Bool × Bool} {Ls : Nat → List Int} {es : Nat → Bool} {rs : Nat → List Int} {S : Nat → Prop} (h : StsIn w hi bs t B n ks Ls es rs S) (hf : Fr (fun _ => False) w w') : StsLeft w w' hi bs t B n ks Ls es rs S := by
  obtain ⟨cs, gm, gr, h1, h2⟩ := h
  exact ⟨⟨cs, gm, gr, h1.kept hf (fun _ _ => id) (fun _ _ => id), fun x hx => .inl (h2 x hx)⟩, hf.mono (fun _ _ h => h.elim)⟩

theorem StsLeft.fr {w w1 w2 : World} {hi bs : Nat} {t : TypeId} {B n : Nat} {ks : Nat → Bool × Bool} {Ls : Nat → List Int} {es : Nat → Bool} {rs : Nat → List Int} {S : Nat → Prop} (h : StsLeft w w1 hi bs t B n ks Ls es rs S) (hf : Fr (fun _ => False) w1 w2) : StsLeft w w2 hi bs t B n ks Ls es rs S := .trans h.2 (h.1.none hf)

/-- The two steps of a walk: out of the bundle at a stage, and back. -/
theorem StsIn.at {w : World} {hi bs : Nat} {t : TypeId} {B n : Nat} {ks : Nat → Bool × Bool} {Ls : Nat → List Int} {es : Nat → Bool} {rs : Nat → List Int} {S : Nat → Prop} (h : StsIn w hi bs t B n ks Ls es rs S) {i : Nat} (hin : i < n) :
    ∃ cs gm gr N, w.heap[bs]? = some (.cells cs t (0, 0)) ∧ StageIs (heldOf (Ls i)) w hi bs cs (8 * i) B (ks i).1 (ks i).2 gm gr (waitOf (es i) (Ls i)) (rs i) N ∧ N + (waitOf (es i) (Ls i)).length ≤ 2 * (Ls i).length ∧
      ∀ (w' : World) (L' r' : List Int) (e' : Bool) (N' : Nat), StageLeft (heldOf L') w w' hi bs cs t (8 * i) B (ks i).1 (ks i).2 gm gr (waitOf e' L') r' N' → N' + (waitOf e' L').length ≤ 2 * L'.length → StsLeft w w' hi bs t B n ks (upd Ls i L') (upd es i e') (upd rs i r') S := by
  obtain ⟨cs, gm, gr, h1, h2⟩ := h
  obtain ⟨N, hS, hN⟩ := h1.st i hin
  refine ⟨cs, gm i, gr i, N, h1.blk, hS, hN, fun w' L' r' e' N' hL hM => ?_⟩
  obtain ⟨cs', gm', gr', k1, k2, k3⟩ := h1.left hin hL hM
  refine ⟨⟨cs', gm', gr', k1, fun x hx => ?_⟩, k3.mono (fun x _ hx => h2 x hx)⟩
  rcases k2 x hx with h | h
  · exact .inl (h2 x h)
  · exact .inr h

theorem upd_id {α : Type} {f : Nat → α} {i : Nat} {v : α} (h : f i = v) : upd f i v = f := by
  funext j
  by_cases hj : j = i
  · subst hj; rw [upd_same, h]
  · rw [upd_other _ _ hj]

theorem Took.left {w w' : World} {hi bs : Nat} {cs : Array Value} {t : TypeId} {os B : Nat} {compat folds : Bool} {gm gr : Option Nat} {ms rs : List Int} {N : Nat} (h : Took mo w w' hi bs cs t os B compat folds gm gr ms rs N) : StageLeft mo w w' hi bs cs t os B compat folds gm gr ms rs N := by
  obtain ⟨cs', h1, h2, h3, h4, h5⟩ := h
  exact ⟨cs', gm, gr, h1, h2, fun i hi => h3 i (by omega), h4, .inl rfl, .inl rfl, h5.mono (fun _ _ h => .inl h)⟩

end Go.Proofs.YtmhaknejeobfgaaDoor

/- Line2. -/
namespace Go.Proofs.YtmhaknejeobfgaaDoor
open Go.RowKit Go.Proofs.YtmhaknejeobfgaaDoor.Stable Go.Proofs.YtmhaknejeobfgaaDoor.Order Go.Proofs.YtmhaknejeobfgaaDoor.Points
attribute [local go_sem ↓] Go.wp_at_zero Go.wp_at_succ

theorem valid_i32 {c : Int} (h : Valid c) : -2147483648 ≤ c ∧ c ≤ 2147483647 := by unfold Valid at h; omega

/-- What a stage was given, when what the one ahead of it has released goes in. -/
def passL (ks : Nat → Bool × Bool) (Ls rs : Nat → List Int) (i : Nat) : Nat → List Int := upd Ls (i + 1) (Ls (i + 1) ++ (rs i).flatMap (pieces (ks (i + 1)).1 (ks (i + 1)).2))

/-- What the stages then have released. -/
def passR (ks : Nat → Bool × Bool) (Ls rs : Nat → List Int) (i : Nat) : Nat → List Int := upd (upd rs i []) (i + 1) (rs (i + 1) ++ (feed clsOf (waitOf false (Ls (i + 1))) ((rs i).flatMap (pieces (ks (i + 1)).1 (ks (i + 1)).2))).2)

/-- From a stage on, so many times. -/
def passes (ks : Nat → Bool × Bool) (from_ : Nat) (Ls rs : Nat → List Int) : Nat → (Nat → List Int) × (Nat → List Int)
  | 0 => (Ls, rs)
  | k + 1 => (passL ks (passes ks from_ Ls rs k).1 (passes ks from_ Ls rs k).2 (from_ + k), passR ks (passes ks from_ Ls rs k).1 (passes ks from_ Ls rs k).2 (from_ + k))

theorem feed_valid {ms l : List Int} (hm : ∀ x ∈ ms, Valid x) (hl : ∀ x ∈ l, Valid x) : (∀ x ∈ (feed clsOf ms l).1, Valid x) ∧ ∀ x ∈ (feed clsOf ms l).2, Valid x := by
  induction l generalizing ms with
  | nil => exact ⟨hm, fun x hx => by cases hx⟩
  | cons c r ih =>
    unfold feed
    split
    · have := ih (ms := []) (fun x hx => by cases hx) (fun x hx => hl x (by simp [hx]))
      refine ⟨this.1, fun x hx => ?_⟩
      rcases List.mem_append.1 hx with hx | hx
      · exact hm x (sortC_mem.1 hx)
      · rcases List.mem_cons.1 hx with rfl | hx
        · exact hl x (by simp)
        · exact this.2 x hx
    · refine ih (fun x hx => ?_) (fun x hx => hl x (by simp [hx]))
      rcases List.mem_append.1 hx with hx | hx
      · exact hm x hx
      · rw [List.mem_singleton.1 hx]; exact hl c (by simp)

theorem wait_valid {e : Bool} {L : List Int} (h : ∀ x ∈ L, Valid x) : ∀ x ∈ waitOf e L, Valid x := by
  unfold waitOf
  cases e with
  | true => simp
  | false => exact (feed_valid (fun x hx => by cases hx) h).1

theorem flat_valid {l : List Int} {k f : Bool} (h : ∀ x ∈ l, Valid x) : ∀ x ∈ l.flatMap (pieces k f), Valid x := by
  intro x hx
  obtain ⟨c, hc, hx⟩ := List.mem_flatMap.1 hx
  exact (ok_all c).valid (h c hc) k f x hx

/-- All that is there are code points. -/
def AllV (Ls rs : Nat → List Int) : Prop := (∀ j, ∀ x ∈ Ls j, Valid x) ∧ ∀ j, ∀ x ∈ rs j, Valid x

theorem AllV.pass {ks : Nat → Bool × Bool} {Ls rs : Nat → List Int} (h : AllV Ls rs) (i : Nat) : AllV (passL ks Ls rs i) (passR ks Ls rs i) := by
  refine ⟨fun j x hx => ?_, fun j x hx => ?_⟩
  · unfold passL at hx
    by_cases hj : j = i + 1
    · subst hj
      rw [upd_same] at hx
      rcases List.mem_append.1 hx with hx | hx
      · exact h.1 _ x hx
      · exact flat_valid (h.2 i) x hx
    · rw [upd_other _ _ hj] at hx
      exact h.1 j x hx
  · unfold passR at hx
    by_cases hj : j = i + 1
    · subst hj
      rw [upd_same] at hx
      rcases List.mem_append.1 hx with hx | hx
      · exact h.2 _ x hx
      · exact (feed_valid (wait_valid (h.1 (i + 1))) (flat_valid (h.2 i))).2 x hx
    · rw [upd_other _ _ hj] at hx
      by_cases hi : j = i
      · subst hi
        rw [upd_same] at hx
        cases hx
      · rw [upd_other _ _ hi] at hx
        exact h.2 j x hx

theorem AllV.passes {ks : Nat → Bool × Bool} {Ls rs : Nat → List Int} (h : AllV Ls rs) (from_ : Nat) : ∀ k, AllV (passes ks from_ Ls rs k).1 (passes ks from_ Ls rs k).2
  | 0 => h
  | k + 1 => (AllV.passes h from_ k).pass _

/-- In the midst of it: mv has gone in, rest has not (its first has been taken). -/
def midL (ks : Nat → Bool × Bool) (Ls : Nat → List Int) (i : Nat) (mv : List Int) : Nat → List Int := upd Ls (i + 1) (Ls (i + 1) ++ mv.flatMap (pieces (ks (i + 1)).1 (ks (i + 1)).2))
def midR (ks : Nat → Bool × Bool) (Ls rs : Nat → List Int) (i : Nat) (mv rest : List Int) : Nat → List Int := upd (upd rs i rest.tail) (i + 1) (rs (i + 1) ++ (feed clsOf (waitOf false (Ls (i + 1))) (mv.flatMap (pieces (ks (i + 1)).1 (ks (i + 1)).2))).2)

/-- Where the loop over what was released stands. -/
def MidAt (vc vo : Value) (rest : List Int) : Prop := (rest = [] ∧ vc = .int .i32 0 ∧ vo = .bool false) ∨ ∃ x r, rest = x :: r ∧ vc = .int .i32 x ∧ vo = .bool true

theorem midL_nil (ks : Nat → Bool × Bool) (Ls : Nat → List Int) (i : Nat) : midL ks Ls i [] = Ls := by
  unfold midL
  exact upd_id (by simp)

theorem midR_nil (ks : Nat → Bool × Bool) (Ls rs : Nat → List Int) (i : Nat) (rest : List Int) : midR ks Ls rs i [] rest = upd rs i rest.tail := by
  unfold midR
  exact upd_id (by simp [feed, upd_other])

theorem midR_at (ks : Nat → Bool × Bool) (Ls rs : Nat → List Int) (i : Nat) (mv rest : List Int) : midR ks Ls rs i mv rest i = rest.tail := by
  unfold midR
  rw [upd_other _ _ (by omega), upd_same]

theorem midR_next (ks : Nat → Bool × Bool) (Ls rs : Nat → List Int) (i : Nat) (mv rest : List Int) : midR ks Ls rs i mv rest (i + 1) = rs (i + 1) ++ (feed clsOf (waitOf false (Ls (i + 1))) (mv.flatMap (pieces (ks (i + 1)).1 (ks (i + 1)).2))).2 := by
  unfold midR
  rw [upd_same]

theorem midL_next (ks : Nat → Bool × Bool) (Ls : Nat → List Int) (i : Nat) (mv : List Int) : midL ks Ls i mv (i + 1) = Ls (i + 1) ++ mv.flatMap (pieces (ks (i + 1)).1 (ks (i + 1)).2) := by
  unfold midL
  rw [upd_same]

theorem upd_upd {α : Type} (f : Nat → α) (i : Nat) (u v : α) : upd (upd f i u) i v = upd f i v := by
  funext j
  unfold upd
  split <;> rfl

theorem upd_comm {α : Type} (f : Nat → α) {i j : Nat} (u v : α) (h : i ≠ j) : upd (upd f i u) j v = upd (upd f j v) i u := by
  funext k
  unfold upd
  by_cases h1 : k = j
  · subst h1; simp [Ne.symm h]
  · simp [h1]

theorem mid_put (ks : Nat → Bool × Bool) (Ls rs : Nat → List Int) (i : Nat) (mv : List Int) (x : Int) (r : List Int) :
    upd (midL ks Ls i mv) (i + 1) (midL ks Ls i mv (i + 1) ++ pieces (ks (i + 1)).1 (ks (i + 1)).2 x) = midL ks Ls i (mv ++ [x]) ∧
    upd (midR ks Ls rs i mv (x :: r)) (i + 1) (midR ks Ls rs i mv (x :: r) (i + 1) ++ (feed clsOf (waitOf false (midL ks Ls i mv (i + 1))) (pieces (ks (i + 1)).1 (ks (i + 1)).2 x)).2) = upd (upd rs i r) (i + 1) (rs (i + 1) ++ (feed clsOf (waitOf false (Ls (i + 1))) ((mv ++ [x]).flatMap (pieces (ks (i + 1)).1 (ks (i + 1)).2))).2) := by
  rw [midL_next, midR_next]
  unfold midL midR
  rw [upd_upd, upd_upd]
  refine ⟨by simp, ?_⟩
  congr 1
  rw [List.append_assoc]
  congr 1
  rw [wait_snoc, List.flatMap_append, feed_append]
  simp

theorem mid_take (rs : Nat → List Int) (i : Nat) (r v : List Int) :
    upd (upd (upd rs i r) (i + 1) v) i r.tail = upd (upd rs i r.tail) (i + 1) v := by
  rw [← upd_comm _ _ _ (by omega : i + 1 ≠ i), ← upd_comm _ _ _ (by omega : i + 1 ≠ i), upd_upd]

end Go.Proofs.YtmhaknejeobfgaaDoor

/- Line3. -/
namespace Go.Proofs.YtmhaknejeobfgaaDoor
open Go.RowKit Go.Proofs.YtmhaknejeobfgaaDoor.Stable Go.Proofs.YtmhaknejeobfgaaDoor.Order Go.Proofs.YtmhaknejeobfgaaDoor.Points
attribute [local go_sem ↓] Go.wp_at_zero Go.wp_at_succ

/-- A cell of a block that is none of the stages' stays. -/
theorem Fr.cell {S : Nat → Prop} {w w' : World} (h : Fr S w w') {b o : Nat} {v : Value} (hb : ¬ S b) (hl : b < w.heap.size) (hc : w.cell? ⟨b, o, none⟩ = some v) : w'.cell? ⟨b, o, none⟩ = some v :=
  (World.cell?_of_block (w := w) (a := ⟨b, o, none⟩) (h.block b hl hb)).trans hc


end Go.Proofs.YtmhaknejeobfgaaDoor

/- Lines2. -/
namespace Go.Proofs.YtmhaknejeobfgaaDoor
open Go.Proofs.YtmhaknejeobfgaaDoor.Order Go.Proofs.YtmhaknejeobfgaaDoor.Points Go.Proofs.YtmhaknejeobfgaaDoor.Stable

/-- What goes into the stage i of a line, given h (es: which stages have ended). -/
def inE (ks : Nat → Bool × Bool) (es : Nat → Bool) (h : List Int) : Nat → List Int
  | 0 => h
  | i + 1 => outOf (es i) ((inE ks es h i).flatMap (pieces (ks i).1 (ks i).2))

def gotE (ks : Nat → Bool × Bool) (es : Nat → Bool) (h : List Int) (i : Nat) : List Int := (inE ks es h i).flatMap (pieces (ks i).1 (ks i).2)

theorem inE_succ (ks : Nat → Bool × Bool) (es : Nat → Bool) (h : List Int) (i : Nat) : inE ks es h (i + 1) = outOf (es i) (gotE ks es h i) := rfl

theorem inE_congr {ks : Nat → Bool × Bool} {es es' : Nat → Bool} {h : List Int} : ∀ i, (∀ j, j < i → es j = es' j) → inE ks es h i = inE ks es' h i
  | 0, _ => rfl
  | i + 1, he => by
    rw [inE_succ, inE_succ, he i (by omega), gotE, gotE, inE_congr i (fun j hj => he j (by omega))]

theorem gotE_congr {ks : Nat → Bool × Bool} {es es' : Nat → Bool} {h : List Int} (i : Nat) (he : ∀ j, j < i → es j = es' j) : gotE ks es h i = gotE ks es' h i := by
  unfold gotE
  rw [inE_congr i he]

theorem inE_const (ks : Nat → Bool × Bool) (e : Bool) (h : List Int) : ∀ i, inE ks (fun _ => e) h i = inAt ks e h i
  | 0 => rfl
  | i + 1 => by rw [inE, inAt, inE_const ks e h i]

theorem gotE_length (ks : Nat → Bool × Bool) (es : Nat → Bool) (h : List Int) : ∀ i, (inE ks es h i).length ≤ 18 ^ i * h.length ∧ (gotE ks es h i).length ≤ 18 ^ (i + 1) * h.length
  | 0 => by
    have := flat_length (f := pieces (ks 0).1 (ks 0).2) (n := 18) (fun c => (ok_all c).len _ _) h
    unfold gotE inE
    exact ⟨by omega, by omega⟩
  | i + 1 => by
    have ih := (gotE_length ks es h i).2
    have h1 := out_length (es i) (gotE ks es h i)
    have h2 : (inE ks es h (i + 1)).length ≤ 18 ^ (i + 1) * h.length := by
      rw [inE_succ]
      omega
    refine ⟨h2, ?_⟩
    have h3 := flat_length (f := pieces (ks (i + 1)).1 (ks (i + 1)).2) (n := 18) (fun c => (ok_all c).len _ _) (inE ks es h (i + 1))
    unfold gotE
    rw [Nat.pow_succ 18 (i + 1), Nat.mul_comm (18 ^ (i + 1)) 18, Nat.mul_assoc]
    exact Nat.le_trans h3 (Nat.mul_le_mul_left 18 h2)

/-- Stages of which none makes too much of what comes. -/
def Slim (ks : Nat → Bool × Bool) : Prop := ∀ es h i, i < 3 → (gotE ks es h i).length ≤ 216 * h.length

theorem gotE_small {ks : Nat → Bool × Bool} (hsl : Slim ks) (es : Nat → Bool) (h : List Int) {i : Nat} (hi : i < 3) : (gotE ks es h i).length ≤ 216 * h.length := hsl es h i hi

/-- What is to be seen of each row: how much becomes of a code point. -/
def slimOk (c : Int) : Bool := both (fun f => decide ((pieces false f c).length ≤ 3)) && (!(partsOf true c).isEmpty || decide ((pieces true true c).length ≤ 2))

theorem slim_rows : facts.all (fun r => slimOk r.cp) = true := by decide +kernel

theorem slim_all (c : Int) : (∀ f, (pieces false f c).length ≤ 3) ∧ (partsOf true c = [] → (pieces true true c).length ≤ 2) := by
  rcases look_cases c with h | ⟨r, hr, rfl⟩
  · have hfo := fold_none h
    by_cases hs : 44032 ≤ c ∧ c ≤ 55203
    · have hF : foldOf c = [] := by unfold foldOf; rw [if_neg (by omega), hfo]
      have hpc : ∀ k f, pieces k f c = sylOf c := fun k f => by
        unfold pieces foldL
        rw [hF]
        simp [apart_syl k hs.1 hs.2]
      refine ⟨fun f => ?_, fun hp => ?_⟩
      · rw [hpc]
        unfold sylOf
        split <;> simp
      · have : partsOf true c = sylOf c := by unfold partsOf; rw [if_pos hs]
        rw [this] at hp
        exact absurd hp (syl_ne c)
    · have hone : ∀ k f, (pieces k f c).length ≤ 1 := by
        intro k f
        have hA : apart k c = [c] := apart_atom (parts_none k h hs)
        by_cases hz : 65 ≤ c ∧ c ≤ 90
        · have hF : foldOf c = [c + 32] := by unfold foldOf; rw [if_pos hz]
          have ha : apart k (c + 32) = [c + 32] := apart_atom (parts_none k (look_none (.inl (by omega))) (by omega))
          cases f
          · simp [pieces, foldL, hA]
          · simp [pieces, foldL, hF, ha]
        · have hF : foldOf c = [] := by unfold foldOf; rw [if_neg hz, hfo]
          simp [pieces, foldL, hF, hA]
      exact ⟨fun f => by have := hone false f; omega, fun _ => by have := hone true true; omega⟩
  · have h := List.all_eq_true.1 slim_rows r hr
    unfold slimOk at h
    rw [Bool.and_eq_true, Bool.or_eq_true] at h
    refine ⟨fun f => by simpa using both_all h.1 f, fun hp => ?_⟩
    rcases h.2 with h | h
    · rw [hp] at h
      simp at h
    · simpa using h

theorem flat_length_of {f : Int → List Int} {n : Nat} : ∀ {l : List Int}, (∀ c ∈ l, (f c).length ≤ n) → (l.flatMap f).length ≤ n * l.length
  | [], _ => by simp
  | c :: r, h => by
    have h1 := h c (by simp)
    have h2 := flat_length_of (l := r) (fun x hx => h x (by simp [hx]))
    rw [List.flatMap_cons, List.length_append, List.length_cons, Nat.mul_succ]
    omega

theorem out_from {e : Bool} {L : List Int} {x : Int} (h : x ∈ outOf e L) : x ∈ L := by
  have h1 : ∀ y, y ∈ (feed clsOf [] L).2 → y ∈ L := fun y hy => by
    refine (ord_mem (cls := clsOf)).1 ?_
    unfold ord
    rw [ordGo_feed]
    exact List.mem_append_left _ hy
  unfold outOf at h
  split at h
  · exact ord_mem.1 h
  · exact h1 x h

/-- A mode's stages are. -/
theorem slim_kindAt {m : Int} (h0 : 0 ≤ m) (h3 : m ≤ 3) : Slim (kindAt m) := by
  intro es h i hi
  have s0 : (gotE (kindAt m) es h 0).length ≤ (if m = 1 then 18 else 3) * h.length := by
    unfold gotE inE
    split
    · exact flat_length (fun c => (ok_all c).len _ _) h
    · rename_i hm
      have e : (kindAt m 0).1 = false := by
        have : (m == 1) = false := by rw [beq_eq_false_iff_ne]; exact hm
        exact this
      rw [e]
      exact flat_length (fun c => (slim_all c).1 _) h
  have i1 : (inE (kindAt m) es h 1).length ≤ (gotE (kindAt m) es h 0).length := by
    have := out_length (es 0) (gotE (kindAt m) es h 0)
    rw [inE_succ]
    omega
  have s1 : (gotE (kindAt m) es h 1).length ≤ (if m = 3 then 18 else 3) * (inE (kindAt m) es h 1).length := by
    unfold gotE
    split
    · exact flat_length (fun c => (ok_all c).len _ _) _
    · rename_i hm
      have e : (kindAt m 1).1 = false := by
        have : (m == 3) = false := by rw [beq_eq_false_iff_ne]; exact hm
        exact this
      rw [e]
      exact flat_length (fun c => (slim_all c).1 _) _
  have i2 : (inE (kindAt m) es h 2).length ≤ (gotE (kindAt m) es h 1).length := by
    have := out_length (es 1) (gotE (kindAt m) es h 1)
    rw [inE_succ]
    omega
  have s2 : (gotE (kindAt m) es h 2).length ≤ (if m = 3 then 2 else 3) * (inE (kindAt m) es h 2).length := by
    unfold gotE
    split
    · rename_i hm
      subst hm
      refine flat_length_of (fun c hc => (slim_all c).2 ?_)
      rw [inE_succ] at hc
      obtain ⟨d, _, hx⟩ := List.mem_flatMap.1 (out_from hc)
      obtain ⟨x, _, hx⟩ := pieces_from hx
      exact (ok_all x).atoms true c hx
    · rename_i hm
      have e : (kindAt m 2).1 = false := by
        have : (m == 3) = false := by rw [beq_eq_false_iff_ne]; exact hm
        exact this
      rw [e]
      exact flat_length (fun c => (slim_all c).1 _) _
  rcases modes h0 h3 with rfl | rfl | rfl | rfl <;> simp at s0 s1 s2 <;> rcases (by omega : i = 0 ∨ i = 1 ∨ i = 2) with rfl | rfl | rfl <;> omega

theorem out_valid {e : Bool} {L : List Int} (h : ∀ x ∈ L, Valid x) : ∀ x ∈ outOf e L, Valid x := by
  unfold outOf
  cases e with
  | true =>
    simp only [if_true]
    exact fun x hx => h x (ord_mem.1 hx)
  | false =>
    simp only [Bool.false_eq_true, if_false]
    exact (feed_valid (fun x hx => by cases hx) h).2

theorem inE_valid {ks : Nat → Bool × Bool} {es : Nat → Bool} {h : List Int} (hv : ∀ c ∈ h, Valid c) : ∀ i, ∀ c ∈ inE ks es h i, Valid c
  | 0 => hv
  | i + 1 => out_valid (flat_valid (inE_valid hv i))

theorem gotE_valid {ks : Nat → Bool × Bool} {es : Nat → Bool} {h : List Int} (hv : ∀ c ∈ h, Valid c) (i : Nat) : ∀ c ∈ gotE ks es h i, Valid c := flat_valid (inE_valid hv i)

/-- Nothing is left between the stages; behind the last R. -/
def restR (n : Nat) (R : List Int) : Nat → List Int := fun j => if j + 1 = n then R else []

theorem restR_last {n j : Nat} (R : List Int) (h : j + 1 = n) : restR n R j = R := by simp [restR, h]
theorem restR_other {n j : Nat} (R : List Int) (h : j + 1 ≠ n) : restR n R j = [] := by simp [restR, h]

/-- Where the stages stand when what a stage released has gone through k of those behind it. -/
def Stood (ks : Nat → Bool × Bool) (es es' : Nat → Bool) (h h' : List Int) (n : Nat) (R : List Int) (i : Nat) (Ls rs : Nat → List Int) : Prop :=
  (∀ j, j ≤ i → Ls j = gotE ks es' h' j) ∧ (∀ j, i < j → Ls j = gotE ks es h j) ∧ (∃ d, inE ks es' h' (i + 1) = inE ks es h (i + 1) ++ d ∧ rs i = restR n R i ++ d) ∧ ∀ j, j ≠ i → rs j = restR n R j

theorem Stood.pass {ks : Nat → Bool × Bool} {es es' : Nat → Bool} {h h' : List Int} {n : Nat} {R : List Int} {i : Nat} {Ls rs : Nat → List Int} (H : Stood ks es es' h h' n R i Ls rs) (hin : i + 1 < n) (h1 : es (i + 1) = false) (h2 : es' (i + 1) = false) : Stood ks es es' h h' n R (i + 1) (passL ks Ls rs i) (passR ks Ls rs i) := by
  obtain ⟨a, b, ⟨d, c1, c2⟩, e⟩ := H
  have hd : rs i = d := by rw [c2, restR_other R (by omega)]; rfl
  have hg : gotE ks es' h' (i + 1) = gotE ks es h (i + 1) ++ d.flatMap (pieces (ks (i + 1)).1 (ks (i + 1)).2) := by
    unfold gotE
    rw [c1, List.flatMap_append]
  refine ⟨fun j hj => ?_, fun j hj => ?_, ⟨(feed clsOf (waitOf false (gotE ks es h (i + 1))) (d.flatMap (pieces (ks (i + 1)).1 (ks (i + 1)).2))).2, ?_, ?_⟩, fun j hj => ?_⟩
  · unfold passL
    by_cases hji : j = i + 1
    · subst hji
      rw [upd_same, b (i + 1) (by omega), hd, hg]
    · rw [upd_other _ _ hji]
      exact a j (by omega)
  · unfold passL
    rw [upd_other _ _ (by omega)]
    exact b j (by omega)
  · rw [inE_succ, inE_succ, h1, h2, hg, out_snoc]
  · unfold passR
    rw [upd_same, e (i + 1) (by omega), b (i + 1) (by omega), hd]
  · unfold passR
    rw [upd_other _ _ hj]
    by_cases hji : j = i
    · subst hji
      rw [upd_same, restR_other R (by omega)]
    · rw [upd_other _ _ hji]
      exact e j hji

theorem Stood.many {ks : Nat → Bool × Bool} {es es' : Nat → Bool} {h h' : List Int} {n : Nat} {R : List Int} {i : Nat} {Ls rs : Nat → List Int} (H : Stood ks es es' h h' n R i Ls rs) (h1 : ∀ j, i < j → j < n → es j = false ∧ es' j = false) : ∀ k, i + k < n → Stood ks es es' h h' n R (i + k) (passes ks i Ls rs k).1 (passes ks i Ls rs k).2
  | 0, _ => H
  | k + 1, hk => by
    have := Stood.many H h1 k (by omega)
    exact this.pass (by omega) (h1 _ (by omega) (by omega)).1 (h1 _ (by omega) (by omega)).2

/-- All the way. -/
theorem Stood.all {ks : Nat → Bool × Bool} {es es' : Nat → Bool} {h h' : List Int} {n : Nat} {R : List Int} {i : Nat} {Ls rs : Nat → List Int} (H : Stood ks es es' h h' n R i Ls rs) (hin : i < n) (h1 : ∀ j, i < j → j < n → es j = false ∧ es' j = false) :
    ∃ d, inE ks es' h' n = inE ks es h n ++ d ∧ ∀ j, j < n → (passes ks i Ls rs (n - 1 - i)).1 j = gotE ks es' h' j ∧ (passes ks i Ls rs (n - 1 - i)).2 j = restR n (R ++ d) j := by
  obtain ⟨a, _, ⟨d, c1, c2⟩, e⟩ := H.many h1 (n - 1 - i) (by omega)
  have hn : i + (n - 1 - i) + 1 = n := by omega
  rw [hn] at c1
  refine ⟨d, c1, fun j hj => ⟨a j (by omega), ?_⟩⟩
  by_cases hji : j = i + (n - 1 - i)
  · subst hji
    rw [c2, restR_last _ hn, restR_last _ hn]
  · rw [e j hji, restR_other _ (by omega), restR_other _ (by omega)]

theorem Stood.small {ks : Nat → Bool × Bool} {es es' : Nat → Bool} {h h' : List Int} {n : Nat} {R : List Int} {i : Nat} {Ls rs : Nat → List Int} (H : Stood ks es es' h h' n R i Ls rs) (hsl : Slim ks) (hn : n ≤ 3) (h1 : ∀ j, i < j → j < n → es j = false ∧ es' j = false) (hh : h.length ≤ h'.length) (hb : 432 * h'.length ≤ 1099511627776) (hin : i < n) : ∀ k, k ≤ n - 1 - i → ∀ j, j < n → 2 * ((passes ks i Ls rs k).1 j).length ≤ 1099511627776 := by
  intro k hk j hj
  obtain ⟨a, b, _, _⟩ := H.many h1 k (by omega)
  by_cases hji : j ≤ i + k
  · rw [a j hji]
    have := gotE_small hsl es' h' (i := j) (by omega)
    omega
  · rw [b j (by omega)]
    have := gotE_small hsl es h (i := j) (by omega)
    omega

/-- One more code point: where the stages stand when it has gone into the first. -/
theorem stood_put (ks : Nat → Bool × Bool) (h : List Int) (n : Nat) (R : List Int) (c : Int) :
    Stood ks (fun _ => false) (fun _ => false) h (h ++ [c]) n R 0 (upd (gotE ks (fun _ => false) h) 0 (gotE ks (fun _ => false) h 0 ++ pieces (ks 0).1 (ks 0).2 c)) (upd (restR n R) 0 (restR n R 0 ++ (feed clsOf (waitOf false (gotE ks (fun _ => false) h 0)) (pieces (ks 0).1 (ks 0).2 c)).2)) := by
  have hg : gotE ks (fun _ => false) (h ++ [c]) 0 = gotE ks (fun _ => false) h 0 ++ pieces (ks 0).1 (ks 0).2 c := by simp [gotE, inE]
  refine ⟨fun j hj => ?_, fun j hj => ?_, ⟨(feed clsOf (waitOf false (gotE ks (fun _ => false) h 0)) (pieces (ks 0).1 (ks 0).2 c)).2, ?_, ?_⟩, fun j hj => ?_⟩
  · have : j = 0 := by omega
    subst this
    rw [upd_same, hg]
  · rw [upd_other _ _ (by omega)]
  · rw [inE_succ, inE_succ, hg, out_snoc]
  · rw [upd_same]
  · rw [upd_other _ _ hj]

/-- The next stage ends. -/
theorem stood_end (ks : Nat → Bool × Bool) (h : List Int) (n : Nat) (R : List Int) (i : Nat) :
    Stood ks (fun j => decide (j < i)) (fun j => decide (j < i + 1)) h h n R i (gotE ks (fun j => decide (j < i)) h) (upd (restR n R) i (restR n R i ++ sortC clsOf (waitOf false (gotE ks (fun j => decide (j < i)) h i)))) := by
  have hc : ∀ j, j ≤ i → gotE ks (fun j => decide (j < i + 1)) h j = gotE ks (fun j => decide (j < i)) h j := fun j hj => gotE_congr j (fun k hk => by simp; omega)
  refine ⟨fun j hj => (hc j hj).symm, fun j _ => rfl, ⟨sortC clsOf (waitOf false (gotE ks (fun j => decide (j < i)) h i)), ?_, ?_⟩, fun j hj => ?_⟩
  · rw [inE_succ, inE_succ, hc i (Nat.le_refl _)]
    have e1 : decide (i < i + 1) = true := by simp
    have e2 : decide (i < i) = false := by simp
    rw [e1, e2, out_end]
  · rw [upd_same]
  · rw [upd_other _ _ hj]

end Go.Proofs.YtmhaknejeobfgaaDoor

/- Line4. -/
namespace Go.Proofs.YtmhaknejeobfgaaDoor
open Go.RowKit Go.Proofs.YtmhaknejeobfgaaDoor.Stable Go.Proofs.YtmhaknejeobfgaaDoor.Order Go.Proofs.YtmhaknejeobfgaaDoor.Points
attribute [local go_sem ↓] Go.wp_at_zero Go.wp_at_succ

theorem StsIn.congr {w : World} {hi bs : Nat} {t : TypeId} {B n : Nat} {ks : Nat → Bool × Bool} {Ls Ls' : Nat → List Int} {es es' : Nat → Bool} {rs rs' : Nat → List Int} {S : Nat → Prop} (h : StsIn w hi bs t B n ks Ls es rs S) (hc : ∀ j, j < n → Ls j = Ls' j ∧ es j = es' j ∧ rs j = rs' j) : StsIn w hi bs t B n ks Ls' es' rs' S := by
  obtain ⟨cs, gm, gr, h1, h2⟩ := h
  refine ⟨cs, gm, gr, ⟨h1.blk, fun i hi => ?_, h1.sep⟩, h2⟩
  obtain ⟨e1, e2, e3⟩ := hc i hi
  rw [← e1, ← e2, ← e3]
  exact h1.st i hi

theorem StsLeft.congr {w w' : World} {hi bs : Nat} {t : TypeId} {B n : Nat} {ks : Nat → Bool × Bool} {Ls Ls' : Nat → List Int} {es es' : Nat → Bool} {rs rs' : Nat → List Int} {S : Nat → Prop} (h : StsLeft w w' hi bs t B n ks Ls es rs S) (hc : ∀ j, j < n → Ls j = Ls' j ∧ es j = es' j ∧ rs j = rs' j) : StsLeft w w' hi bs t B n ks Ls' es' rs' S := ⟨h.1.congr hc, h.2⟩

/-- A line's own block: no bytes wait; its stages. -/
def LineBlk (w : World) (bl bs n cp : Nat) (tl : TypeId) : Prop := w.heap[bl]? = some (.cells #[.slice none 0 0, .int .i64 0, .slice (some ⟨bs, 0, none⟩) n cp] tl (0, 0))

/-- Where a line's stages are. -/
def LineCell (w : World) (bl bs n cp : Nat) : Prop := w.cell? ⟨bl, 2, none⟩ = some (.slice (some ⟨bs, 0, none⟩) n cp) ∧ bl < w.heap.size

theorem LineBlk.cell {w : World} {bl bs n cp : Nat} {tl : TypeId} (h : LineBlk w bl bs n cp tl) : LineCell w bl bs n cp := ⟨cell_of h rfl, lt_of h⟩

theorem LineBlk.kept {w w' : World} {bl bs n cp : Nat} {tl : TypeId} (h : LineBlk w bl bs n cp tl) {S : Nat → Prop} (hf : Fr S w w') (hS : ¬ S bl) : LineBlk w' bl bs n cp tl := (hf.block bl (lt_of h) hS).trans h

theorem all_rest {ks : Nat → Bool × Bool} {es : Nat → Bool} {h : List Int} {n : Nat} {R : List Int} (hv : ∀ c ∈ h, Valid c) (hR : ∀ c ∈ R, Valid c) : AllV (gotE ks es h) (restR n R) := by
  refine ⟨gotE_valid hv, fun j x hx => ?_⟩
  unfold restR at hx
  split at hx
  · exact hR x hx
  · cases hx

theorem AllV.put {Ls rs : Nat → List Int} (h : AllV Ls rs) (i : Nat) {l d : List Int} (hl : ∀ x ∈ l, Valid x) (hd : ∀ x ∈ d, Valid x) : AllV (upd Ls i l) (upd rs i d) := by
  refine ⟨fun j x hx => ?_, fun j x hx => ?_⟩
  · by_cases hj : j = i
    · subst hj; rw [upd_same] at hx; exact hl x hx
    · rw [upd_other _ _ hj] at hx; exact h.1 j x hx
  · by_cases hj : j = i
    · subst hj; rw [upd_same] at hx; exact hd x hx
    · rw [upd_other _ _ hj] at hx; exact h.2 j x hx


end Go.Proofs.YtmhaknejeobfgaaDoor

/- Line5. -/
namespace Go.Proofs.YtmhaknejeobfgaaDoor
open Go.RowKit Go.Proofs.YtmhaknejeobfgaaDoor.Stable Go.Proofs.YtmhaknejeobfgaaDoor.Order Go.Proofs.YtmhaknejeobfgaaDoor.Points
attribute [local go_sem ↓] Go.wp_at_zero Go.wp_at_succ

/-- What the stages hold when the first k have ended. -/
def EndAt (w w' : World) (hi bs : Nat) (t : TypeId) (B n : Nat) (ks : Nat → Bool × Bool) (h R : List Int) (k : Nat) (S : Nat → Prop) : Prop :=
  ∃ D, inE ks (fun j => decide (j < k)) h n = inAt ks false h n ++ D ∧ StsLeft w w' hi bs t B n ks (gotE ks (fun j => decide (j < k)) h) (fun j => decide (j < k)) (restR n (R ++ D)) S

theorem EndAt.start {w w' : World} {hi bs : Nat} {t : TypeId} {B n : Nat} {ks : Nat → Bool × Bool} {h R : List Int} {S : Nat → Prop} (hst : StsIn w hi bs t B n ks (gotE ks (fun _ => false) h) (fun _ => false) (restR n R) S) (hf : Fr (fun _ => False) w w') : EndAt w w' hi bs t B n ks h R 0 S := by
  refine ⟨[], ?_, (hst.none hf).congr (fun j hj => ⟨?_, by simp, by simp⟩)⟩
  · rw [List.append_nil, ← inE_const]
    exact inE_congr n (fun j _ => by simp)
  · exact gotE_congr j (fun k _ => by simp)

theorem StsIn.mono {w : World} {hi bs : Nat} {t : TypeId} {B n : Nat} {ks : Nat → Bool × Bool} {Ls : Nat → List Int} {es : Nat → Bool} {rs : Nat → List Int} {S S' : Nat → Prop} (h : StsIn w hi bs t B n ks Ls es rs S) (hs : ∀ x, S x → S' x) : StsIn w hi bs t B n ks Ls es rs S' := by
  obtain ⟨cs, gm, gr, h1, h2⟩ := h
  exact ⟨cs, gm, gr, h1, fun x hx => hs x (h2 x hx)⟩

/-- The stage k ends: what Release leaves, what handOn needs, what it leaves. -/
theorem EndAt.next {w w1 : World} {hi bs : Nat} {t : TypeId} {B n : Nat} {ks : Nat → Bool × Bool} {h R : List Int} {k : Nat} {S : Nat → Prop} (H : EndAt w w1 hi bs t B n ks h R k S) (hsl : Slim ks) (hk : k < n) (hn : n ≤ 3) (hv : ∀ c ∈ h, Valid c) (hR : ∀ c ∈ R, Valid c) (hb : 432 * h.length ≤ 1099511627776) :
    ∃ (Ls rs : Nat → List Int) (es : Nat → Bool) (S1 : Nat → Prop), (∀ x, S1 x → S x ∨ w.heap.size ≤ x) ∧ (∀ x, S x → S1 x) ∧ StsIn w1 hi bs t B n ks Ls es rs S1 ∧ Fr S w w1 ∧ es k = false ∧ 2 * (Ls k).length ≤ 1099511627776 ∧ AllV Ls (upd rs k (rs k ++ sortC clsOf (waitOf false (Ls k)))) ∧ (∀ j, k < j → j < n → upd es k true j = false) ∧
      (∀ m, m ≤ n - 1 - k → ∀ j, j < n → 2 * ((passes ks k Ls (upd rs k (rs k ++ sortC clsOf (waitOf false (Ls k)))) m).1 j).length ≤ 1099511627776) ∧
      ∀ w2, StsLeft w w2 hi bs t B n ks (passes ks k Ls (upd rs k (rs k ++ sortC clsOf (waitOf false (Ls k)))) (n - 1 - k)).1 (upd es k true) (passes ks k Ls (upd rs k (rs k ++ sortC clsOf (waitOf false (Ls k)))) (n - 1 - k)).2 S → EndAt w w2 hi bs t B n ks h R (k + 1) S := by
  obtain ⟨D, hD, hst⟩ := H
  have hDv : ∀ c ∈ R ++ D, Valid c := fun c hc => by
    rcases List.mem_append.1 hc with hc | hc
    · exact hR c hc
    · exact inE_valid hv n c (by rw [hD]; exact List.mem_append_right _ hc)
  have hstood := stood_end ks h n (R ++ D) k
  have hes : ∀ j, k < j → j < n → (decide (j < k) = false) ∧ (decide (j < k + 1) = false) := fun j h1 _ => ⟨by simp; omega, by simp; omega⟩
  have hbase := all_rest (ks := ks) (es := fun j => decide (j < k)) (n := n) hv hDv
  have hL : 2 * (gotE ks (fun j => decide (j < k)) h k).length ≤ 1099511627776 := by
    have := gotE_small hsl (fun j => decide (j < k)) h (i := k) (by omega)
    omega
  refine ⟨gotE ks (fun j => decide (j < k)) h, restR n (R ++ D), fun j => decide (j < k), fun x => S x ∨ w.heap.size ≤ x, fun x h => h, fun x h => .inl h, hst.1, hst.2, by simp, hL, ?_, ?_, hstood.small hsl hn hes (Nat.le_refl _) hb hk, fun w2 hl => ?_⟩
  · have := hbase.put k (l := gotE ks (fun j => decide (j < k)) h k) (d := restR n (R ++ D) k ++ sortC clsOf (waitOf false (gotE ks (fun j => decide (j < k)) h k))) (hbase.1 k) (fun x hx => by
      rcases List.mem_append.1 hx with hx | hx
      · exact hbase.2 k x hx
      · exact wait_valid (hbase.1 k) x (sortC_mem.1 hx))
    rwa [upd_id rfl] at this
  · intro j h1 _
    rw [upd_other _ _ (by omega)]
    simp
    omega
  · obtain ⟨d, hd1, hd2⟩ := hstood.all hk hes
    refine ⟨D ++ d, by rw [hd1, hD, List.append_assoc], ?_⟩
    refine hl.congr (fun j hj => ⟨(hd2 j hj).1, ?_, ?_⟩)
    · by_cases hjk : j = k
      · subst hjk; rw [upd_same]; simp
      · rw [upd_other _ _ hjk]
        have e : (j < k) ↔ (j < k + 1) := by omega
        simp [e]
    · rw [(hd2 j hj).2, List.append_assoc]

theorem EndAt.done {w w' : World} {hi bs : Nat} {t : TypeId} {B n : Nat} {ks : Nat → Bool × Bool} {h R : List Int} {S : Nat → Prop} (H : EndAt w w' hi bs t B n ks h R n S) : ∃ D, inAt ks true h n = inAt ks false h n ++ D ∧ StsLeft w w' hi bs t B n ks (gotE ks (fun _ => true) h) (fun _ => true) (restR n (R ++ D)) S := by
  obtain ⟨D, hD, hst⟩ := H
  refine ⟨D, ?_, hst.congr (fun j hj => ⟨gotE_congr j (fun k hk => by simp; omega), by simp [hj], rfl⟩)⟩
  rw [← hD, ← inE_const]
  exact inE_congr n (fun j hj => by simp [hj])


end Go.Proofs.YtmhaknejeobfgaaDoor

/- Line6. -/
namespace Go.Proofs.YtmhaknejeobfgaaDoor
open Go.RowKit Go.Proofs.YtmhaknejeobfgaaDoor.Stable Go.Proofs.YtmhaknejeobfgaaDoor.Order Go.Proofs.YtmhaknejeobfgaaDoor.Points
attribute [local go_sem ↓] Go.wp_at_zero Go.wp_at_succ

theorem Hid.to {p : Prop} (h : p) : Hid p := h


end Go.Proofs.YtmhaknejeobfgaaDoor
