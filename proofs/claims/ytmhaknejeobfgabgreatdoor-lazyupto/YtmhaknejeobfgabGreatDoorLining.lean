/- The stages of a line in memory, one behind the other in a block; what an operation on one of them leaves of all. What a stage's methods leave of a line's stages; what a stage released goes through those behind it. A line's handOn: what a stage released goes through those behind it. A line of stages in plain lists, of which the first may have ended: what goes through when one more code point comes, or the next stage ends. A line's Enter, End and Take. A line's End and Take. A line's Take. -/
import Derived.Test.YtmhaknejeobfgabGreatDoorStages
import Derived.Deep.LoopGhost
import Derived.Test.YtmhaknejeobfgabGreatDoorQueues
import Derived.Deep.RegionHeld3
import Derived.Deep.RegionWith

/- Line1. -/
namespace Go.Proofs.YtmhaknejeobfgabGreatDoor
open Go.RowKit Go.Proofs.YtmhaknejeobfgabGreatDoor.Stable Go.Proofs.YtmhaknejeobfgabGreatDoor.Order Go.Proofs.YtmhaknejeobfgabGreatDoor.Points

variable {mo : Nat}

def upd {α : Type} (f : Nat → α) (i : Nat) (v : α) : Nat → α := fun j => if j = i then v else f j

theorem upd_same {α : Type} (f : Nat → α) (i : Nat) (v : α) : upd f i v i = v := by simp [upd]
theorem upd_other {α : Type} (f : Nat → α) {i j : Nat} (v : α) (h : j ≠ i) : upd f i v j = f j := by simp [upd, h]

/-- The blocks of the stages: theirs, and the rows of their queues. -/
def Own (n bs : Nat) (gm gr : Nat → Option Nat) (x : Nat) : Prop := x = bs ∨ ∃ j, j < n ∧ (gm j = some x ∨ gr j = some x)

/-- The stages of a line: of each what it was given, whether it has ended, what it has released that was not taken. -/
structure Sts (w : World) (hi bs : Nat) (cs : Array Value) (t : TypeId) (B n : Nat) (ks : Nat → Bool × Bool) (gm gr : Nat → Option Nat) (Ls : Nat → List Int) (es : Nat → Bool) (rs : Nat → List Int) : Prop where
  blk : w.heap[bs]? = some (.cells cs t (0, 0))
  st : ∀ i, i < n → ∃ N, StageIs (heldOf (Ls i)) w hi bs cs (8 * i) B (ks i).1 (ks i).2 (gm i) (gr i) (waitOf (es i) (Ls i)) (rs i) N ∧ N + (waitOf (es i) (Ls i)).length ≤ 2 * (Ls i).length
  sep : ∀ i j, i < n → j < n → i ≠ j → ∀ x, (gm i = some x ∨ gr i = some x) → gm j ≠ some x ∧ gr j ≠ some x

theorem Sts.own_lt {w : World} {hi bs : Nat} {cs : Array Value} {t : TypeId} {B n : Nat} {ks : Nat → Bool × Bool} {gm gr : Nat → Option Nat} {Ls : Nat → List Int} {es : Nat → Bool} {rs : Nat → List Int} (h : Sts w hi bs cs t B n ks gm gr Ls es rs) {x : Nat} (hx : Own n bs gm gr x) : x < w.heap.size := by
  rcases hx with rfl | ⟨j, hj, hx⟩
  · exact lt_of h.blk
  · obtain ⟨N, hS, _⟩ := h.st j hj
    rcases hx with hx | hx
    · exact hS.qm.lt hx
    · exact hS.qr.lt hx

theorem StageIs.cells {w : World} {hi bs : Nat} {cs cs' : Array Value} {os B : Nat} {compat folds : Bool} {gm gr : Option Nat} {ms rs : List Int} {N : Nat} (h : StageIs mo w hi bs cs os B compat folds gm gr ms rs N) (hc : ∀ i, os ≤ i → i < os + 8 → cs'[i]? = cs[i]?) : StageIs mo w hi bs cs' os B compat folds gm gr ms rs N :=
  { h with c0 := (hc _ (by omega) (by omega)).trans h.c0, c1 := (hc _ (by omega) (by omega)).trans h.c1, c2 := (hc _ (by omega) (by omega)).trans h.c2, qm := h.qm.cells (hc _ (by omega) (by omega)) (hc _ (by omega) (by omega)), c5 := (hc _ (by omega) (by omega)).trans h.c5, qr := h.qr.cells (hc _ (by omega) (by omega)) (hc _ (by omega) (by omega)) }

theorem Sts.left {w w' : World} {hi bs : Nat} {cs : Array Value} {t : TypeId} {B n : Nat} {ks : Nat → Bool × Bool} {gm gr : Nat → Option Nat} {Ls : Nat → List Int} {es : Nat → Bool} {rs : Nat → List Int} (h : Sts w hi bs cs t B n ks gm gr Ls es rs) {i : Nat} (hin : i < n) {L' r' : List Int} {e' : Bool} {N' : Nat}
    (hL : StageLeft (heldOf L') w w' hi bs cs t (8 * i) B (ks i).1 (ks i).2 (gm i) (gr i) (waitOf e' L') r' N') (hM : N' + (waitOf e' L').length ≤ 2 * L'.length) :
    ∃ cs' gm' gr', Sts w' hi bs cs' t B n ks gm' gr' (upd Ls i L') (upd es i e') (upd rs i r') ∧ (∀ x, Own n bs gm' gr' x → Own n bs gm gr x ∨ w.heap.size ≤ x) ∧ Fr (Own n bs gm gr) w w' := by
  obtain ⟨cs', gm', gr', q1, q2, q3, q4, q5, q6, q7⟩ := hL
  have new : ∀ {g g' : Option Nat}, NewOr w g g' → ∀ x, g' = some x → g = some x ∨ w.heap.size ≤ x := by
    intro g g' h x hx
    rcases h with h | ⟨y, h, hy⟩
    · exact .inl (by rw [← h, hx])
    · rw [h] at hx
      cases hx
      exact .inr hy
  refine ⟨cs', upd gm i gm', upd gr i gr', ⟨q1, fun j hj => ?_, fun a b ha hb hab x hx => ?_⟩, fun x hx => ?_, q7.mono (fun x _ hx => ?_)⟩
  · by_cases hji : j = i
    · subst hji
      simp only [upd_same]
      exact ⟨N', q4, hM⟩
    · simp only [upd_other _ _ hji]
      obtain ⟨N, hS, hN⟩ := h.st j hj
      refine ⟨N, (hS.kept q7 (fun x hx hs => ?_) (fun x hx hs => ?_) (fun x hx hs => ?_)).cells (fun k h1 h2 => q3 k (by omega)), hN⟩
      · obtain ⟨Ni, hSi, _⟩ := h.st i hin
        rcases hs with hs | hs | hs
        · have := hS.hib; omega
        · have := hSi.him x hs.symm; omega
        · have := hSi.hir x hs.symm; omega
      · rcases hs with hs | hs | hs
        · exact hS.gmb (by rw [hx, hs])
        · exact (h.sep i j hin hj (Ne.symm hji) x (.inl hs.symm)).1 hx
        · exact (h.sep i j hin hj (Ne.symm hji) x (.inr hs.symm)).1 hx
      · rcases hs with hs | hs | hs
        · exact hS.grb (by rw [hx, hs])
        · exact (h.sep i j hin hj (Ne.symm hji) x (.inl hs.symm)).2 hx
        · exact (h.sep i j hin hj (Ne.symm hji) x (.inr hs.symm)).2 hx
  · by_cases hai : a = i
    · subst hai
      rw [upd_same, upd_same] at hx
      rw [upd_other _ _ (Ne.symm hab), upd_other _ _ (Ne.symm hab)]
      have hold : (gm a = some x ∨ gr a = some x) ∨ w.heap.size ≤ x := by
        rcases hx with hx | hx
        · rcases new q5 x hx with k | k
          · exact .inl (.inl k)
          · exact .inr k
        · rcases new q6 x hx with k | k
          · exact .inl (.inr k)
          · exact .inr k
      rcases hold with k | k
      · exact h.sep a b ha hb hab x k
      · refine ⟨fun e => ?_, fun e => ?_⟩
        · have := h.own_lt (.inr ⟨b, hb, .inl e⟩); omega
        · have := h.own_lt (.inr ⟨b, hb, .inr e⟩); omega
    · rw [upd_other _ _ hai, upd_other _ _ hai] at hx
      by_cases hbi : b = i
      · subst hbi
        rw [upd_same, upd_same]
        have hlt : x < w.heap.size := h.own_lt (.inr ⟨a, ha, hx⟩)
        have hs := h.sep a b ha hb hab x hx
        refine ⟨fun e => ?_, fun e => ?_⟩
        · rcases new q5 x e with k | k
          · exact hs.1 k
          · omega
        · rcases new q6 x e with k | k
          · exact hs.2 k
          · omega
      · rw [upd_other _ _ hbi, upd_other _ _ hbi]
        exact h.sep a b ha hb hab x hx
  · rcases hx with hx | ⟨j, hj, hx⟩
    · exact .inl (.inl hx)
    · by_cases hji : j = i
      · subst hji
        rw [upd_same, upd_same] at hx
        rcases hx with hx | hx
        · rcases new q5 x hx with k | k
          · exact .inl (.inr ⟨j, hj, .inl k⟩)
          · exact .inr k
        · rcases new q6 x hx with k | k
          · exact .inl (.inr ⟨j, hj, .inr k⟩)
          · exact .inr k
      · rw [upd_other _ _ hji, upd_other _ _ hji] at hx
        exact .inl (.inr ⟨j, hj, hx⟩)
  · rcases hx with hx | hx | hx
    · exact .inl hx
    · exact .inr ⟨i, hin, .inl hx.symm⟩
    · exact .inr ⟨i, hin, .inr hx.symm⟩

theorem Sts.kept {w w' : World} {hi bs : Nat} {cs : Array Value} {t : TypeId} {B n : Nat} {ks : Nat → Bool × Bool} {gm gr : Nat → Option Nat} {Ls : Nat → List Int} {es : Nat → Bool} {rs : Nat → List Int} (h : Sts w hi bs cs t B n ks gm gr Ls es rs) {S : Nat → Prop} (hf : Fr S w w') (hS : ∀ x, x < hi → ¬ S x) (ho : ∀ x, Own n bs gm gr x → ¬ S x) : Sts w' hi bs cs t B n ks gm gr Ls es rs := by
  refine ⟨(hf.block bs (lt_of h.blk) (ho bs (.inl rfl))).trans h.blk, fun i hi => ?_, h.sep⟩
  obtain ⟨N, hS', hN⟩ := h.st i hi
  exact ⟨N, hS'.kept hf hS (fun x hx => ho x (.inr ⟨i, hi, .inl hx⟩)) (fun x hx => ho x (.inr ⟨i, hi, .inr hx⟩)), hN⟩

/-- The same, whatever its blocks are: all of them in S. -/
def StsIn (w : World) (hi bs : Nat) (t : TypeId) (B n : Nat) (ks : Nat → Bool × Bool) (Ls : Nat → List Int) (es : Nat → Bool) (rs : Nat → List Int) (S : Nat → Prop) : Prop :=
  ∃ cs gm gr, Sts w hi bs cs t B n ks gm gr Ls es rs ∧ ∀ x, Own n bs gm gr x → S x

/-- What an operation leaves: new contents, blocks that were its own or are new, all else as it was. -/
def StsLeft (w w' : World) (hi bs : Nat) (t : TypeId) (B n : Nat) (ks : Nat → Bool × Bool) (Ls : Nat → List Int) (es : Nat → Bool) (rs : Nat → List Int) (S : Nat → Prop) : Prop :=
  StsIn w' hi bs t B n ks Ls es rs (fun x => S x ∨ w.heap.size ≤ x) ∧ Fr S w w'

theorem StsLeft.trans {w w1 w2 : World} {hi bs : Nat} {t : TypeId} {B n : Nat} {ks : Nat → Bool × Bool} {Ls : Nat → List Int} {es : Nat → Bool} {rs : Nat → List Int} {S : Nat → Prop} (hf : Fr S w w1) (h : StsLeft w1 w2 hi bs t B n ks Ls es rs (fun x => S x ∨ w.heap.size ≤ x)) : StsLeft w w2 hi bs t B n ks Ls es rs S := by
  obtain ⟨⟨cs, gm, gr, h1, h2⟩, h3⟩ := h
  refine ⟨⟨cs, gm, gr, h1, fun x hx => ?_⟩, hf.trans h3 (fun i hi h => ?_)⟩
  · rcases h2 x hx with h | h
    · exact h
    · have := hf.size; exact .inr (by omega)
  · rcases h with h | h
    · exact h
    · omega

theorem StsIn.none {w w' : World} {hi bs : Nat} {t : TypeId} {B n : Nat} {ks : Nat → Bool × Bool} {Ls : Nat → List Int} {es : Nat → Bool} {rs : Nat → List Int} {S : Nat → Prop} (h : StsIn w hi bs t B n ks Ls es rs S) (hf : Fr (fun _ => False) w w') : StsLeft w w' hi bs t B n ks Ls es rs S := by
  obtain ⟨cs, gm, gr, h1, h2⟩ := h
  exact ⟨⟨cs, gm, gr, h1.kept hf (fun _ _ => id) (fun _ _ => id), fun x hx => .inl (h2 x hx)⟩, hf.mono (fun _ _ h => h.elim)⟩

theorem StsLeft.fr {w w1 w2 : World} {hi bs : Nat} {t : TypeId} {B n : Nat} {ks : Nat → Bool × Bool} {Ls : Nat → List Int} {es : Nat → Bool} {rs : Nat → List Int} {S : Nat → Prop} (h : StsLeft w w1 hi bs t B n ks Ls es rs S) (hf : Fr (fun _ => False) w1 w2) : StsLeft w w2 hi bs t B n ks Ls es rs S := .trans h.2 (h.1.none hf)

/-- The two steps of a walk: out of the bundle at a stage, and back. -/
theorem StsIn.at {w : World} {hi bs : Nat} {t : TypeId} {B n : Nat} {ks : Nat → Bool × Bool} {Ls : Nat → List Int} {es : Nat → Bool} {rs : Nat → List Int} {S : Nat → Prop} (h : StsIn w hi bs t B n ks Ls es rs S) {i : Nat} (hin : i < n) :
    ∃ cs gm gr N, w.heap[bs]? = some (.cells cs t (0, 0)) ∧ StageIs (heldOf (Ls i)) w hi bs cs (8 * i) B (ks i).1 (ks i).2 gm gr (waitOf (es i) (Ls i)) (rs i) N ∧ N + (waitOf (es i) (Ls i)).length ≤ 2 * (Ls i).length ∧
      ∀ (w' : World) (L' r' : List Int) (e' : Bool) (N' : Nat), StageLeft (heldOf L') w w' hi bs cs t (8 * i) B (ks i).1 (ks i).2 gm gr (waitOf e' L') r' N' → N' + (waitOf e' L').length ≤ 2 * L'.length → StsLeft w w' hi bs t B n ks (upd Ls i L') (upd es i e') (upd rs i r') S := by
  obtain ⟨cs, gm, gr, h1, h2⟩ := h
  obtain ⟨N, hS, hN⟩ := h1.st i hin
  refine ⟨cs, gm i, gr i, N, h1.blk, hS, hN, fun w' L' r' e' N' hL hM => ?_⟩
  obtain ⟨cs', gm', gr', k1, k2, k3⟩ := h1.left hin hL hM
  refine ⟨⟨cs', gm', gr', k1, fun x hx => ?_⟩, k3.mono (fun x _ hx => h2 x hx)⟩
  rcases k2 x hx with h | h
  · exact .inl (h2 x h)
  · exact .inr h

theorem upd_id {α : Type} {f : Nat → α} {i : Nat} {v : α} (h : f i = v) : upd f i v = f := by
  funext j
  by_cases hj : j = i
  · subst hj; rw [upd_same, h]
  · rw [upd_other _ _ hj]

theorem Took.left {w w' : World} {hi bs : Nat} {cs : Array Value} {t : TypeId} {os B : Nat} {compat folds : Bool} {gm gr : Option Nat} {ms rs : List Int} {N : Nat} (h : Took mo w w' hi bs cs t os B compat folds gm gr ms rs N) : StageLeft mo w w' hi bs cs t os B compat folds gm gr ms rs N := by
  obtain ⟨cs', h1, h2, h3, h4, h5⟩ := h
  exact ⟨cs', gm, gr, h1, h2, fun i hi => h3 i (by omega), h4, .inl rfl, .inl rfl, h5.mono (fun _ _ h => .inl h)⟩

end Go.Proofs.YtmhaknejeobfgabGreatDoor

/- Line2. -/
namespace Go.Proofs.YtmhaknejeobfgabGreatDoor
open Go.RowKit Go.Proofs.YtmhaknejeobfgabGreatDoor.Stable Go.Proofs.YtmhaknejeobfgabGreatDoor.Order Go.Proofs.YtmhaknejeobfgabGreatDoor.Points
attribute [local go_sem ↓] Go.wp_at_zero Go.wp_at_succ

theorem valid_i32 {c : Int} (h : Valid c) : -2147483648 ≤ c ∧ c ≤ 2147483647 := by unfold Valid at h; omega

theorem stPut {w : World} {hi bs : Nat} {t : TypeId} {B n : Nat} {ks : Nat → Bool × Bool} {Ls : Nat → List Int} {es : Nat → Bool} {rs : Nat → List Int} {S : Nat → Prop} (h : StsIn w hi bs t B n ks Ls es rs S) (i : Nat) (hin : i < n) (he : es i = false) (c : Int) (hc : Valid c) (hN : 2 * (Ls i).length + 2 * (pieces (ks i).1 (ks i).2 c).length ≤ 1099511627776) (o : Nat) (ho : o = 8 * i) :
    Calls Tryz.prog 78 #[.pointer (some ⟨bs, o, none⟩), .int .i32 c] w fun e w' => e = .returned (.tuple #[]) ∧ StsLeft w w' hi bs t B n ks (upd Ls i (Ls i ++ pieces (ks i).1 (ks i).2 c)) es (upd rs i (rs i ++ (feed clsOf (waitOf false (Ls i)) (pieces (ks i).1 (ks i).2 c)).2)) S := by
  subst ho
  obtain ⟨cs, gm, gr, N, hb, hS, hM, back⟩ := h.at hin
  rw [he] at hS hM
  refine (stagePut_calls (M := 2 * (Ls i).length) c hb hS hM hN (wait_marks _ _) (valid_i32 hc).1 (valid_i32 hc).2).mono ?_
  rintro e w' ⟨rfl, N', hL, hN'⟩
  refine ⟨rfl, ?_⟩
  rw [← heldOf_snoc, ← wait_snoc] at hL
  rw [← wait_snoc] at hN'
  have := back w' _ _ false N' hL (by rw [List.length_append]; omega)
  rwa [upd_id he] at this

theorem stTake_none {w : World} {hi bs : Nat} {t : TypeId} {B n : Nat} {ks : Nat → Bool × Bool} {Ls : Nat → List Int} {es : Nat → Bool} {rs : Nat → List Int} {S : Nat → Prop} (h : StsIn w hi bs t B n ks Ls es rs S) (i : Nat) (hin : i < n) (hr : rs i = []) (hN : 2 * (Ls i).length ≤ 1099511627776) (o : Nat) (ho : o = 8 * i) :
    Calls Tryz.prog 97 #[.pointer (some ⟨bs, o, none⟩)] w fun e w' => e = .returned (.tuple #[.int .i32 0, .bool false]) ∧ StsLeft w w' hi bs t B n ks Ls es rs S := by
  subst ho
  obtain ⟨cs, gm, gr, N, hb, hS, hM, _⟩ := h.at hin
  rw [hr] at hS
  refine (take_none hb hS (by omega)).mono ?_
  rintro e w' ⟨rfl, q, rfl⟩
  exact ⟨rfl, h.none ((Fr.refl _ _).drewN q)⟩

theorem stTake_some {w : World} {hi bs : Nat} {t : TypeId} {B n : Nat} {ks : Nat → Bool × Bool} {Ls : Nat → List Int} {es : Nat → Bool} {rs : Nat → List Int} {S : Nat → Prop} (h : StsIn w hi bs t B n ks Ls es rs S) (i : Nat) (hin : i < n) {x : Int} {r : List Int} (hr : rs i = x :: r) (hN : 2 * (Ls i).length ≤ 1099511627776) (o : Nat) (ho : o = 8 * i) :
    Calls Tryz.prog 97 #[.pointer (some ⟨bs, o, none⟩)] w fun e w' => e = .returned (.tuple #[.int .i32 x, .bool true]) ∧ StsLeft w w' hi bs t B n ks Ls es (upd rs i r) S := by
  subst ho
  obtain ⟨cs, gm, gr, N, hb, hS, hM, back⟩ := h.at hin
  rw [hr] at hS
  refine (take_some hb hS (by omega)).mono ?_
  rintro e w' ⟨rfl, hT⟩
  refine ⟨rfl, ?_⟩
  have := back w' (Ls i) _ (es i) N hT.left hM
  rwa [upd_id rfl, upd_id rfl] at this

theorem stRelease {w : World} {hi bs : Nat} {t : TypeId} {B n : Nat} {ks : Nat → Bool × Bool} {Ls : Nat → List Int} {es : Nat → Bool} {rs : Nat → List Int} {S : Nat → Prop} (h : StsIn w hi bs t B n ks Ls es rs S) (i : Nat) (hin : i < n) (he : es i = false) (hN : 2 * (Ls i).length ≤ 1099511627776) (o : Nat) (ho : o = 8 * i) :
    Calls Tryz.prog 120 #[.pointer (some ⟨bs, o, none⟩)] w fun e w' => e = .returned (.tuple #[]) ∧ StsLeft w w' hi bs t B n ks Ls (upd es i true) (upd rs i (rs i ++ sortC clsOf (waitOf false (Ls i)))) S := by
  subst ho
  obtain ⟨cs, gm, gr, N, hb, hS, hM, back⟩ := h.at hin
  rw [he] at hS hM
  refine (release_calls hb hS (by omega) (mark_inRange (wait_marks _ _))).mono ?_
  rintro e w' ⟨rfl, hL⟩
  refine ⟨rfl, ?_⟩
  have := back w' (Ls i) _ true _ hL (by simpa [waitOf] using hM)
  rwa [upd_id rfl] at this

/-- What a stage was given, when what the one ahead of it has released goes in. -/
def passL (ks : Nat → Bool × Bool) (Ls rs : Nat → List Int) (i : Nat) : Nat → List Int := upd Ls (i + 1) (Ls (i + 1) ++ (rs i).flatMap (pieces (ks (i + 1)).1 (ks (i + 1)).2))

/-- What the stages then have released. -/
def passR (ks : Nat → Bool × Bool) (Ls rs : Nat → List Int) (i : Nat) : Nat → List Int := upd (upd rs i []) (i + 1) (rs (i + 1) ++ (feed clsOf (waitOf false (Ls (i + 1))) ((rs i).flatMap (pieces (ks (i + 1)).1 (ks (i + 1)).2))).2)

/-- From a stage on, so many times. -/
def passes (ks : Nat → Bool × Bool) (from_ : Nat) (Ls rs : Nat → List Int) : Nat → (Nat → List Int) × (Nat → List Int)
  | 0 => (Ls, rs)
  | k + 1 => (passL ks (passes ks from_ Ls rs k).1 (passes ks from_ Ls rs k).2 (from_ + k), passR ks (passes ks from_ Ls rs k).1 (passes ks from_ Ls rs k).2 (from_ + k))

theorem feed_valid {ms l : List Int} (hm : ∀ x ∈ ms, Valid x) (hl : ∀ x ∈ l, Valid x) : (∀ x ∈ (feed clsOf ms l).1, Valid x) ∧ ∀ x ∈ (feed clsOf ms l).2, Valid x := by
  induction l generalizing ms with
  | nil => exact ⟨hm, fun x hx => by cases hx⟩
  | cons c r ih =>
    unfold feed
    split
    · have := ih (ms := []) (fun x hx => by cases hx) (fun x hx => hl x (by simp [hx]))
      refine ⟨this.1, fun x hx => ?_⟩
      rcases List.mem_append.1 hx with hx | hx
      · exact hm x (sortC_mem.1 hx)
      · rcases List.mem_cons.1 hx with rfl | hx
        · exact hl x (by simp)
        · exact this.2 x hx
    · refine ih (fun x hx => ?_) (fun x hx => hl x (by simp [hx]))
      rcases List.mem_append.1 hx with hx | hx
      · exact hm x hx
      · rw [List.mem_singleton.1 hx]; exact hl c (by simp)

theorem wait_valid {e : Bool} {L : List Int} (h : ∀ x ∈ L, Valid x) : ∀ x ∈ waitOf e L, Valid x := by
  unfold waitOf
  cases e with
  | true => simp
  | false => exact (feed_valid (fun x hx => by cases hx) h).1

theorem flat_valid {l : List Int} {k f : Bool} (h : ∀ x ∈ l, Valid x) : ∀ x ∈ l.flatMap (pieces k f), Valid x := by
  intro x hx
  obtain ⟨c, hc, hx⟩ := List.mem_flatMap.1 hx
  exact (ok_all c).valid (h c hc) k f x hx

/-- All that is there are code points. -/
def AllV (Ls rs : Nat → List Int) : Prop := (∀ j, ∀ x ∈ Ls j, Valid x) ∧ ∀ j, ∀ x ∈ rs j, Valid x

theorem AllV.pass {ks : Nat → Bool × Bool} {Ls rs : Nat → List Int} (h : AllV Ls rs) (i : Nat) : AllV (passL ks Ls rs i) (passR ks Ls rs i) := by
  refine ⟨fun j x hx => ?_, fun j x hx => ?_⟩
  · unfold passL at hx
    by_cases hj : j = i + 1
    · subst hj
      rw [upd_same] at hx
      rcases List.mem_append.1 hx with hx | hx
      · exact h.1 _ x hx
      · exact flat_valid (h.2 i) x hx
    · rw [upd_other _ _ hj] at hx
      exact h.1 j x hx
  · unfold passR at hx
    by_cases hj : j = i + 1
    · subst hj
      rw [upd_same] at hx
      rcases List.mem_append.1 hx with hx | hx
      · exact h.2 _ x hx
      · exact (feed_valid (wait_valid (h.1 (i + 1))) (flat_valid (h.2 i))).2 x hx
    · rw [upd_other _ _ hj] at hx
      by_cases hi : j = i
      · subst hi
        rw [upd_same] at hx
        cases hx
      · rw [upd_other _ _ hi] at hx
        exact h.2 j x hx

theorem AllV.passes {ks : Nat → Bool × Bool} {Ls rs : Nat → List Int} (h : AllV Ls rs) (from_ : Nat) : ∀ k, AllV (passes ks from_ Ls rs k).1 (passes ks from_ Ls rs k).2
  | 0 => h
  | k + 1 => (AllV.passes h from_ k).pass _

/-- In the midst of it: mv has gone in, rest has not (its first has been taken). -/
def midL (ks : Nat → Bool × Bool) (Ls : Nat → List Int) (i : Nat) (mv : List Int) : Nat → List Int := upd Ls (i + 1) (Ls (i + 1) ++ mv.flatMap (pieces (ks (i + 1)).1 (ks (i + 1)).2))
def midR (ks : Nat → Bool × Bool) (Ls rs : Nat → List Int) (i : Nat) (mv rest : List Int) : Nat → List Int := upd (upd rs i rest.tail) (i + 1) (rs (i + 1) ++ (feed clsOf (waitOf false (Ls (i + 1))) (mv.flatMap (pieces (ks (i + 1)).1 (ks (i + 1)).2))).2)

/-- Where the loop over what was released stands. -/
def MidAt (vc vo : Value) (rest : List Int) : Prop := (rest = [] ∧ vc = .int .i32 0 ∧ vo = .bool false) ∨ ∃ x r, rest = x :: r ∧ vc = .int .i32 x ∧ vo = .bool true

theorem midL_nil (ks : Nat → Bool × Bool) (Ls : Nat → List Int) (i : Nat) : midL ks Ls i [] = Ls := by
  unfold midL
  exact upd_id (by simp)

theorem midR_nil (ks : Nat → Bool × Bool) (Ls rs : Nat → List Int) (i : Nat) (rest : List Int) : midR ks Ls rs i [] rest = upd rs i rest.tail := by
  unfold midR
  exact upd_id (by simp [feed, upd_other])

theorem midR_next (ks : Nat → Bool × Bool) (Ls rs : Nat → List Int) (i : Nat) (mv rest : List Int) : midR ks Ls rs i mv rest (i + 1) = rs (i + 1) ++ (feed clsOf (waitOf false (Ls (i + 1))) (mv.flatMap (pieces (ks (i + 1)).1 (ks (i + 1)).2))).2 := by
  unfold midR
  rw [upd_same]

theorem midL_next (ks : Nat → Bool × Bool) (Ls : Nat → List Int) (i : Nat) (mv : List Int) : midL ks Ls i mv (i + 1) = Ls (i + 1) ++ mv.flatMap (pieces (ks (i + 1)).1 (ks (i + 1)).2) := by
  unfold midL
  rw [upd_same]

theorem upd_upd {α : Type} (f : Nat → α) (i : Nat) (u v : α) : upd (upd f i u) i v = upd f i v := by
  funext j
  unfold upd
  split <;> rfl

theorem upd_comm {α : Type} (f : Nat → α) {i j : Nat} (u v : α) (h : i ≠ j) : upd (upd f i u) j v = upd (upd f j v) i u := by
  funext k
  unfold upd
  by_cases h1 : k = j
  · subst h1; simp [Ne.symm h]
  · simp [h1]

theorem mid_put (ks : Nat → Bool × Bool) (Ls rs : Nat → List Int) (i : Nat) (mv : List Int) (x : Int) (r : List Int) :
    upd (midL ks Ls i mv) (i + 1) (midL ks Ls i mv (i + 1) ++ pieces (ks (i + 1)).1 (ks (i + 1)).2 x) = midL ks Ls i (mv ++ [x]) ∧
    upd (midR ks Ls rs i mv (x :: r)) (i + 1) (midR ks Ls rs i mv (x :: r) (i + 1) ++ (feed clsOf (waitOf false (midL ks Ls i mv (i + 1))) (pieces (ks (i + 1)).1 (ks (i + 1)).2 x)).2) = upd (upd rs i r) (i + 1) (rs (i + 1) ++ (feed clsOf (waitOf false (Ls (i + 1))) ((mv ++ [x]).flatMap (pieces (ks (i + 1)).1 (ks (i + 1)).2))).2) := by
  rw [midL_next, midR_next]
  unfold midL midR
  rw [upd_upd, upd_upd]
  refine ⟨by simp, ?_⟩
  congr 1
  rw [List.append_assoc]
  congr 1
  rw [wait_snoc, List.flatMap_append, feed_append]
  simp

theorem mid_take (rs : Nat → List Int) (i : Nat) (r v : List Int) :
    upd (upd (upd rs i r) (i + 1) v) i r.tail = upd (upd rs i r.tail) (i + 1) v := by
  rw [← upd_comm _ _ _ (by omega : i + 1 ≠ i), ← upd_comm _ _ _ (by omega : i + 1 ≠ i), upd_upd]

end Go.Proofs.YtmhaknejeobfgabGreatDoor

/- Line3. -/
namespace Go.Proofs.YtmhaknejeobfgabGreatDoor
open Go.RowKit Go.Proofs.YtmhaknejeobfgabGreatDoor.Stable Go.Proofs.YtmhaknejeobfgabGreatDoor.Order Go.Proofs.YtmhaknejeobfgabGreatDoor.Points
attribute [local go_sem ↓] Go.wp_at_zero Go.wp_at_succ

/-- A cell of a block that is none of the stages' stays. -/
theorem Fr.cell {S : Nat → Prop} {w w' : World} (h : Fr S w w') {b o : Nat} {v : Value} (hb : ¬ S b) (hl : b < w.heap.size) (hc : w.cell? ⟨b, o, none⟩ = some v) : w'.cell? ⟨b, o, none⟩ = some v :=
  (World.cell?_of_block (w := w) (a := ⟨b, o, none⟩) (h.block b hl hb)).trans hc

theorem stTake {w : World} {hi bs : Nat} {t : TypeId} {B n : Nat} {ks : Nat → Bool × Bool} {Ls : Nat → List Int} {es : Nat → Bool} {rs : Nat → List Int} {S : Nat → Prop} (h : StsIn w hi bs t B n ks Ls es rs S) (i : Nat) (hin : i < n) (hN : 2 * (Ls i).length ≤ 1099511627776) (o : Nat) (ho : o = 8 * i) :
    Calls Tryz.prog 97 #[.pointer (some ⟨bs, o, none⟩)] w fun e w' => ∃ x ok, e = .returned (.tuple #[.int .i32 x, .bool ok]) ∧ MidAt (.int .i32 x) (.bool ok) (rs i) ∧ StsLeft w w' hi bs t B n ks Ls es (upd rs i (rs i).tail) S := by
  cases hr : rs i with
  | nil =>
    refine (stTake_none h i hin hr hN o ho).mono ?_
    rintro e w' ⟨rfl, hL⟩
    refine ⟨0, false, rfl, .inl ⟨rfl, rfl, rfl⟩, ?_⟩
    rw [upd_id (by rw [hr]; rfl)]
    exact hL
  | cons x r =>
    refine (stTake_some h i hin hr hN o ho).mono ?_
    rintro e w' ⟨rfl, hL⟩
    exact ⟨x, true, rfl, .inr ⟨x, r, rfl, rfl, rfl⟩, hL⟩

set_option maxRecDepth 100000 in
set_option maxHeartbeats 3200000 in
theorem handOn_calls {w : World} {hi bs : Nat} {t : TypeId} {B n : Nat} {ks : Nat → Bool × Bool} {Ls : Nat → List Int} {es : Nat → Bool} {rs : Nat → List Int} {S : Nat → Prop} (h : StsIn w hi bs t B n ks Ls es rs S) (bl cp : Nat) (hbl : ¬ S bl) (hlt : bl < w.heap.size) (hcl : w.cell? ⟨bl, 2, none⟩ = some (.slice (some ⟨bs, 0, none⟩) n cp)) (from_ : Nat) (hfr : from_ < n) (hn : n ≤ 3) (he : ∀ j, from_ < j → j < n → es j = false) (hV : AllV Ls rs)
    (hB : ∀ k, k ≤ n - 1 - from_ → ∀ j, j < n → 2 * ((passes ks from_ Ls rs k).1 j).length ≤ 1099511627776) :
    Calls Tryz.prog 79 #[.pointer (some ⟨bl, 0, none⟩), .int .i64 from_] w fun e w' => e = .returned (.tuple #[]) ∧ StsLeft w w' hi bs t B n ks (passes ks from_ Ls rs (n - 1 - from_)).1 es (passes ks from_ Ls rs (n - 1 - from_)).2 S := by
  have HH : Hid (StsIn w hi bs t B n ks Ls es rs S) := h
  have HL : Hid (¬ S bl ∧ bl < w.heap.size) := ⟨hbl, hlt⟩
  have HE : Hid (∀ j, from_ < j → j < n → es j = false) := he
  have HV : Hid (AllV Ls rs) := hV
  have HBD : Hid (∀ k, k ≤ n - 1 - from_ → ∀ j, j < n → 2 * ((passes ks from_ Ls rs k).1 j).length ≤ 1099511627776) := hB
  have HCL : Hid (w.cell? ⟨bl, 2, none⟩ = some (.slice (some ⟨bs, 0, none⟩) n cp)) := hcl
  clear h hbl hlt he hV hB hcl
  go_enter Tryz.func79, Tryz.ntmps79
  go_wp2
  go_loopw [4] (fun vi wr => ∃ k : Nat, vi = .int .i64 ((from_ + k : Nat) : Int) ∧ from_ + k < n ∧ Hid (StsLeft w wr hi bs t B n ks (passes ks from_ Ls rs k).1 es (passes ks from_ Ls rs k).2 S)) (fun vi _ => n - (intOf vi).toNat)
  case atStart => exact ⟨0, rfl, hfr, HH.out.none (Fr.refl _ _)⟩
  case round =>
    obtain ⟨k, rfl, hk, hh⟩ := hrel
    have cL : wr.cell? ⟨bl, 2, none⟩ = some (.slice (some ⟨bs, 0, none⟩) n cp) := hh.out.2.cell HL.out.1 HL.out.2 HCL.out
    obtain ⟨i, hi'⟩ : ∃ i, i = from_ + k := ⟨_, rfl⟩
    rw [← hi'] at hk ⊢
    by_cases hnext : i + 1 < n
    · have i0 : (0 : Int) ≤ (i : Int) := by omega
      have i1 : (i : Int) < (n : Int) := by omega
      obtain ⟨Lk, hLk⟩ : ∃ Lk, Lk = (passes ks from_ Ls rs k).1 := ⟨_, rfl⟩
      obtain ⟨Rk, hRk⟩ : ∃ Rk, Rk = (passes ks from_ Ls rs k).2 := ⟨_, rfl⟩
      have hb0 := HBD.out k (by omega)
      have hb1 := HBD.out (k + 1) (by omega) (i + 1) hnext
      have hv := HV.out.passes (ks := ks) from_ k
      have e1 : (passes ks from_ Ls rs (k + 1)).1 = passL ks Lk Rk i := by rw [hLk, hRk, hi']; rfl
      have e2 : (passes ks from_ Ls rs (k + 1)).2 = passR ks Lk Rk i := by rw [hLk, hRk, hi']; rfl
      have e3 := HE.out (i + 1) (by omega) hnext
      have hst := hh.out
      rw [e1] at hb1
      rw [← hLk, ← hRk] at hst hv
      rw [← hLk] at hb0
      have hb1' : 2 * (Lk (i + 1) ++ (Rk i).flatMap (pieces (ks (i + 1)).1 (ks (i + 1)).2)).length ≤ 1099511627776 := by
        unfold passL at hb1
        rwa [upd_same] at hb1
      have HST : Hid (StsLeft w wr hi bs t B n ks Lk es Rk S) := hst
      have HB0 : Hid (∀ j, j < n → 2 * (Lk j).length ≤ 1099511627776) := hb0
      have HB1 : Hid (2 * (Lk (i + 1) ++ (Rk i).flatMap (pieces (ks (i + 1)).1 (ks (i + 1)).2)).length ≤ 1099511627776) := hb1'
      have HVK : Hid (AllV Lk Rk) := hv
      have HE1 : Hid ((passes ks from_ Ls rs (k + 1)).1 = passL ks Lk Rk i ∧ (passes ks from_ Ls rs (k + 1)).2 = passR ks Lk Rk i ∧ es (i + 1) = false ∧ i = from_ + k) := ⟨e1, e2, e3, hi'⟩
      clear hh hst hb0 hb1 hb1' hv e1 e2 e3 hi' hLk hRk
      go_wp2_with (go_at_call 97; refine (stTake HST.out.1 i (by omega) (HB0.out i (by omega)) _ (Nat.mul_comm _ _)).mono ?_; rintro e w1 ⟨x, ok, rfl, hmid, hl⟩)
      have hl1 : StsLeft w w1 hi bs t B n ks (midL ks Lk i []) es (midR ks Lk Rk i [] (Rk i)) S := by
        rw [midL_nil, midR_nil]
        exact .trans HST.out.2 hl
      have HM1 : Hid (StsLeft w w1 hi bs t B n ks (midL ks Lk i []) es (midR ks Lk Rk i [] (Rk i)) S ∧ MidAt (.int .i32 x) (.bool ok) (Rk i)) := ⟨hl1, hmid⟩
      clear hl hl1 hmid
      go_loopg [5, 6] (Rk i).length (fun g vc vo w2 => ∃ mv rest, rest.length = g ∧ Rk i = mv ++ rest ∧ MidAt vc vo rest ∧ Hid (StsLeft w w2 hi bs t B n ks (midL ks Lk i mv) es (midR ks Lk Rk i mv rest) S))
      case atStart => exact ⟨[], Rk i, rfl, rfl, HM1.out.2, HM1.out.1⟩
      case round =>
        obtain ⟨mv, rest, hg, hsp, hm, hh⟩ := hrel
        have cL2 : wr.cell? ⟨bl, 2, none⟩ = some (.slice (some ⟨bs, 0, none⟩) n cp) := hh.out.2.cell HL.out.1 HL.out.2 HCL.out
        have hvm : ∀ x ∈ rest, Valid x := fun x hx => HVK.out.2 i x (by rw [hsp]; simp [hx])
        rcases hm with ⟨rfl, rfl, rfl⟩ | ⟨x, r, rfl, rfl, rfl⟩
        · have hsp' : Rk i = mv := by rw [hsp, List.append_nil]
          have HSP : Hid (Rk i = mv) := hsp'
          clear hsp hsp' hg hvm
          go_wp2
          refine ⟨⟨k + 1, by have := HE1.out.2.2.2; go_num, by have := HE1.out.2.2.2; omega, ?_⟩, by have := HE1.out.2.2.2; simp [intOf]; omega⟩
          rw [HE1.out.1, HE1.out.2.1]
          have := hh.out
          rw [← HSP.out] at this
          exact this
        · have hx := hvm x (by simp)
          have HSP : Hid (Rk i = mv ++ x :: r) := hsp
          have HX : Hid (Valid x) := hx
          have hg' : r.length < gk := by rw [← hg]; simp
          have HG : Hid (r.length < gk) := hg'
          have hb2 : 2 * (midL ks Lk i mv (i + 1)).length + 2 * (pieces (ks (i + 1)).1 (ks (i + 1)).2 x).length ≤ 1099511627776 := by
            have h1 := HB1.out
            rw [hsp] at h1
            rw [midL_next]
            simp only [List.flatMap_append, List.flatMap_cons, List.length_append] at h1 ⊢
            omega
          have hb3 : 2 * (midL ks Lk i (mv ++ [x]) i).length ≤ 1099511627776 := by
            unfold midL
            rw [upd_other _ _ (by omega)]
            exact HB0.out i (by omega)
          have HB2 : Hid (2 * (midL ks Lk i mv (i + 1)).length + 2 * (pieces (ks (i + 1)).1 (ks (i + 1)).2 x).length ≤ 1099511627776) := hb2
          have HB3 : Hid (2 * (midL ks Lk i (mv ++ [x]) i).length ≤ 1099511627776) := hb3
          clear hsp hg hg' hvm hx hb2 hb3
          go_wp2_with (first
            | (go_at_call 78; refine (stPut hh.out.1 (i + 1) hnext HE1.out.2.2.1 x HX.out HB2.out _ (Nat.mul_comm _ _)).mono ?_; rintro e w3 ⟨rfl, hl3⟩; rw [(mid_put ks Lk Rk i mv x r).1, (mid_put ks Lk Rk i mv x r).2] at hl3; have cL3 : w3.cell? ⟨bl, 2, none⟩ = some (.slice (some ⟨bs, 0, none⟩) n cp) := (StsLeft.trans hh.out.2 hl3).2.cell HL.out.1 HL.out.2 HCL.out)
            | (go_at_call 97; refine (stTake hl3.1 i (by omega) HB3.out _ (Nat.mul_comm _ _)).mono ?_; rintro e w4 ⟨y, ok, rfl, hm4, hl4⟩))
          go_roundg r.length
          case measure => exact HG.out
          case rel =>
            have e0 : (upd (upd Rk i r) (i + 1) (Rk (i + 1) ++ (feed clsOf (waitOf false (Lk (i + 1))) ((mv ++ [x]).flatMap (pieces (ks (i + 1)).1 (ks (i + 1)).2))).2)) i = r := by rw [upd_other _ _ (by omega), upd_same]
            rw [e0] at hm4 hl4
            rw [mid_take] at hl4
            refine ⟨mv ++ [x], r, rfl, by rw [HSP.out]; simp, hm4, ?_⟩
            exact .trans hh.out.2 (.trans hl3.2 hl4)
    · have e1 : n - 1 - from_ = k := by omega
      go_wp2
      go_end0
      rw [e1]
      exact ⟨rfl, hh.out⟩

end Go.Proofs.YtmhaknejeobfgabGreatDoor

/- Lines2. -/
namespace Go.Proofs.YtmhaknejeobfgabGreatDoor
open Go.Proofs.YtmhaknejeobfgabGreatDoor.Order Go.Proofs.YtmhaknejeobfgabGreatDoor.Points Go.Proofs.YtmhaknejeobfgabGreatDoor.Stable

/-- What goes into the stage i of a line, given h (es: which stages have ended). -/
def inE (ks : Nat → Bool × Bool) (es : Nat → Bool) (h : List Int) : Nat → List Int
  | 0 => h
  | i + 1 => outOf (es i) ((inE ks es h i).flatMap (pieces (ks i).1 (ks i).2))

def gotE (ks : Nat → Bool × Bool) (es : Nat → Bool) (h : List Int) (i : Nat) : List Int := (inE ks es h i).flatMap (pieces (ks i).1 (ks i).2)

theorem inE_succ (ks : Nat → Bool × Bool) (es : Nat → Bool) (h : List Int) (i : Nat) : inE ks es h (i + 1) = outOf (es i) (gotE ks es h i) := rfl

theorem inE_congr {ks : Nat → Bool × Bool} {es es' : Nat → Bool} {h : List Int} : ∀ i, (∀ j, j < i → es j = es' j) → inE ks es h i = inE ks es' h i
  | 0, _ => rfl
  | i + 1, he => by
    rw [inE_succ, inE_succ, he i (by omega), gotE, gotE, inE_congr i (fun j hj => he j (by omega))]

theorem gotE_congr {ks : Nat → Bool × Bool} {es es' : Nat → Bool} {h : List Int} (i : Nat) (he : ∀ j, j < i → es j = es' j) : gotE ks es h i = gotE ks es' h i := by
  unfold gotE
  rw [inE_congr i he]

theorem inE_const (ks : Nat → Bool × Bool) (e : Bool) (h : List Int) : ∀ i, inE ks (fun _ => e) h i = inAt ks e h i
  | 0 => rfl
  | i + 1 => by rw [inE, inAt, inE_const ks e h i]

/-- Stages of which none makes too much of what comes. -/
def Slim (ks : Nat → Bool × Bool) : Prop := ∀ es h i, i < 3 → (gotE ks es h i).length ≤ 216 * h.length

theorem gotE_small {ks : Nat → Bool × Bool} (hsl : Slim ks) (es : Nat → Bool) (h : List Int) {i : Nat} (hi : i < 3) : (gotE ks es h i).length ≤ 216 * h.length := hsl es h i hi

/-- What is to be seen of each row: how much becomes of a code point. -/
def slimOk (c : Int) : Bool := both (fun f => decide ((pieces false f c).length ≤ 3)) && (!(partsOf true c).isEmpty || decide ((pieces true true c).length ≤ 2))

theorem slim_rows : facts.all (fun r => slimOk r.cp) = true := by decide +kernel

theorem slim_all (c : Int) : (∀ f, (pieces false f c).length ≤ 3) ∧ (partsOf true c = [] → (pieces true true c).length ≤ 2) := by
  rcases look_cases c with h | ⟨r, hr, rfl⟩
  · have hfo := fold_none h
    by_cases hs : 44032 ≤ c ∧ c ≤ 55203
    · have hF : foldOf c = [] := by unfold foldOf; rw [if_neg (by omega), hfo]
      have hpc : ∀ k f, pieces k f c = sylOf c := fun k f => by
        unfold pieces foldL
        rw [hF]
        simp [apart_syl k hs.1 hs.2]
      refine ⟨fun f => ?_, fun hp => ?_⟩
      · rw [hpc]
        unfold sylOf
        split <;> simp
      · have : partsOf true c = sylOf c := by unfold partsOf; rw [if_pos hs]
        rw [this] at hp
        exact absurd hp (syl_ne c)
    · have hone : ∀ k f, (pieces k f c).length ≤ 1 := by
        intro k f
        have hA : apart k c = [c] := apart_atom (parts_none k h hs)
        by_cases hz : 65 ≤ c ∧ c ≤ 90
        · have hF : foldOf c = [c + 32] := by unfold foldOf; rw [if_pos hz]
          have ha : apart k (c + 32) = [c + 32] := apart_atom (parts_none k (look_none (.inl (by omega))) (by omega))
          cases f
          · simp [pieces, foldL, hA]
          · simp [pieces, foldL, hF, ha]
        · have hF : foldOf c = [] := by unfold foldOf; rw [if_neg hz, hfo]
          simp [pieces, foldL, hF, hA]
      exact ⟨fun f => by have := hone false f; omega, fun _ => by have := hone true true; omega⟩
  · have h := List.all_eq_true.1 slim_rows r hr
    unfold slimOk at h
    rw [Bool.and_eq_true, Bool.or_eq_true] at h
    refine ⟨fun f => by simpa using both_all h.1 f, fun hp => ?_⟩
    rcases h.2 with h | h
    · rw [hp] at h
      simp at h
    · simpa using h

theorem flat_length_of {f : Int → List Int} {n : Nat} : ∀ {l : List Int}, (∀ c ∈ l, (f c).length ≤ n) → (l.flatMap f).length ≤ n * l.length
  | [], _ => by simp
  | c :: r, h => by
    have h1 := h c (by simp)
    have h2 := flat_length_of (l := r) (fun x hx => h x (by simp [hx]))
    rw [List.flatMap_cons, List.length_append, List.length_cons, Nat.mul_succ]
    omega

theorem out_from {e : Bool} {L : List Int} {x : Int} (h : x ∈ outOf e L) : x ∈ L := by
  have h1 : ∀ y, y ∈ (feed clsOf [] L).2 → y ∈ L := fun y hy => by
    refine (ord_mem (cls := clsOf)).1 ?_
    unfold ord
    rw [ordGo_feed]
    exact List.mem_append_left _ hy
  unfold outOf at h
  split at h
  · exact ord_mem.1 h
  · exact h1 x h

/-- A mode's stages are. -/
theorem slim_kindAt {m : Int} (h0 : 0 ≤ m) (h3 : m ≤ 3) : Slim (kindAt m) := by
  intro es h i hi
  have s0 : (gotE (kindAt m) es h 0).length ≤ (if m = 1 then 18 else 3) * h.length := by
    unfold gotE inE
    split
    · exact flat_length (fun c => (ok_all c).len _ _) h
    · rename_i hm
      have e : (kindAt m 0).1 = false := by
        have : (m == 1) = false := by rw [beq_eq_false_iff_ne]; exact hm
        exact this
      rw [e]
      exact flat_length (fun c => (slim_all c).1 _) h
  have i1 : (inE (kindAt m) es h 1).length ≤ (gotE (kindAt m) es h 0).length := by
    have := out_length (es 0) (gotE (kindAt m) es h 0)
    rw [inE_succ]
    omega
  have s1 : (gotE (kindAt m) es h 1).length ≤ (if m = 3 then 18 else 3) * (inE (kindAt m) es h 1).length := by
    unfold gotE
    split
    · exact flat_length (fun c => (ok_all c).len _ _) _
    · rename_i hm
      have e : (kindAt m 1).1 = false := by
        have : (m == 3) = false := by rw [beq_eq_false_iff_ne]; exact hm
        exact this
      rw [e]
      exact flat_length (fun c => (slim_all c).1 _) _
  have i2 : (inE (kindAt m) es h 2).length ≤ (gotE (kindAt m) es h 1).length := by
    have := out_length (es 1) (gotE (kindAt m) es h 1)
    rw [inE_succ]
    omega
  have s2 : (gotE (kindAt m) es h 2).length ≤ (if m = 3 then 2 else 3) * (inE (kindAt m) es h 2).length := by
    unfold gotE
    split
    · rename_i hm
      subst hm
      refine flat_length_of (fun c hc => (slim_all c).2 ?_)
      rw [inE_succ] at hc
      obtain ⟨d, _, hx⟩ := List.mem_flatMap.1 (out_from hc)
      obtain ⟨x, _, hx⟩ := pieces_from hx
      exact (ok_all x).atoms true c hx
    · rename_i hm
      have e : (kindAt m 2).1 = false := by
        have : (m == 3) = false := by rw [beq_eq_false_iff_ne]; exact hm
        exact this
      rw [e]
      exact flat_length (fun c => (slim_all c).1 _) _
  rcases modes h0 h3 with rfl | rfl | rfl | rfl <;> simp at s0 s1 s2 <;> rcases (by omega : i = 0 ∨ i = 1 ∨ i = 2) with rfl | rfl | rfl <;> omega

theorem out_valid {e : Bool} {L : List Int} (h : ∀ x ∈ L, Valid x) : ∀ x ∈ outOf e L, Valid x := by
  unfold outOf
  cases e with
  | true =>
    simp only [if_true]
    exact fun x hx => h x (ord_mem.1 hx)
  | false =>
    simp only [Bool.false_eq_true, if_false]
    exact (feed_valid (fun x hx => by cases hx) h).2

theorem inE_valid {ks : Nat → Bool × Bool} {es : Nat → Bool} {h : List Int} (hv : ∀ c ∈ h, Valid c) : ∀ i, ∀ c ∈ inE ks es h i, Valid c
  | 0 => hv
  | i + 1 => out_valid (flat_valid (inE_valid hv i))

theorem gotE_valid {ks : Nat → Bool × Bool} {es : Nat → Bool} {h : List Int} (hv : ∀ c ∈ h, Valid c) (i : Nat) : ∀ c ∈ gotE ks es h i, Valid c := flat_valid (inE_valid hv i)

/-- Nothing is left between the stages; behind the last R. -/
def restR (n : Nat) (R : List Int) : Nat → List Int := fun j => if j + 1 = n then R else []

theorem restR_last {n j : Nat} (R : List Int) (h : j + 1 = n) : restR n R j = R := by simp [restR, h]
theorem restR_other {n j : Nat} (R : List Int) (h : j + 1 ≠ n) : restR n R j = [] := by simp [restR, h]

/-- Where the stages stand when what a stage released has gone through k of those behind it. -/
def Stood (ks : Nat → Bool × Bool) (es es' : Nat → Bool) (h h' : List Int) (n : Nat) (R : List Int) (i : Nat) (Ls rs : Nat → List Int) : Prop :=
  (∀ j, j ≤ i → Ls j = gotE ks es' h' j) ∧ (∀ j, i < j → Ls j = gotE ks es h j) ∧ (∃ d, inE ks es' h' (i + 1) = inE ks es h (i + 1) ++ d ∧ rs i = restR n R i ++ d) ∧ ∀ j, j ≠ i → rs j = restR n R j

theorem Stood.pass {ks : Nat → Bool × Bool} {es es' : Nat → Bool} {h h' : List Int} {n : Nat} {R : List Int} {i : Nat} {Ls rs : Nat → List Int} (H : Stood ks es es' h h' n R i Ls rs) (hin : i + 1 < n) (h1 : es (i + 1) = false) (h2 : es' (i + 1) = false) : Stood ks es es' h h' n R (i + 1) (passL ks Ls rs i) (passR ks Ls rs i) := by
  obtain ⟨a, b, ⟨d, c1, c2⟩, e⟩ := H
  have hd : rs i = d := by rw [c2, restR_other R (by omega)]; rfl
  have hg : gotE ks es' h' (i + 1) = gotE ks es h (i + 1) ++ d.flatMap (pieces (ks (i + 1)).1 (ks (i + 1)).2) := by
    unfold gotE
    rw [c1, List.flatMap_append]
  refine ⟨fun j hj => ?_, fun j hj => ?_, ⟨(feed clsOf (waitOf false (gotE ks es h (i + 1))) (d.flatMap (pieces (ks (i + 1)).1 (ks (i + 1)).2))).2, ?_, ?_⟩, fun j hj => ?_⟩
  · unfold passL
    by_cases hji : j = i + 1
    · subst hji
      rw [upd_same, b (i + 1) (by omega), hd, hg]
    · rw [upd_other _ _ hji]
      exact a j (by omega)
  · unfold passL
    rw [upd_other _ _ (by omega)]
    exact b j (by omega)
  · rw [inE_succ, inE_succ, h1, h2, hg, out_snoc]
  · unfold passR
    rw [upd_same, e (i + 1) (by omega), b (i + 1) (by omega), hd]
  · unfold passR
    rw [upd_other _ _ hj]
    by_cases hji : j = i
    · subst hji
      rw [upd_same, restR_other R (by omega)]
    · rw [upd_other _ _ hji]
      exact e j hji

theorem Stood.many {ks : Nat → Bool × Bool} {es es' : Nat → Bool} {h h' : List Int} {n : Nat} {R : List Int} {i : Nat} {Ls rs : Nat → List Int} (H : Stood ks es es' h h' n R i Ls rs) (h1 : ∀ j, i < j → j < n → es j = false ∧ es' j = false) : ∀ k, i + k < n → Stood ks es es' h h' n R (i + k) (passes ks i Ls rs k).1 (passes ks i Ls rs k).2
  | 0, _ => H
  | k + 1, hk => by
    have := Stood.many H h1 k (by omega)
    exact this.pass (by omega) (h1 _ (by omega) (by omega)).1 (h1 _ (by omega) (by omega)).2

/-- All the way. -/
theorem Stood.all {ks : Nat → Bool × Bool} {es es' : Nat → Bool} {h h' : List Int} {n : Nat} {R : List Int} {i : Nat} {Ls rs : Nat → List Int} (H : Stood ks es es' h h' n R i Ls rs) (hin : i < n) (h1 : ∀ j, i < j → j < n → es j = false ∧ es' j = false) :
    ∃ d, inE ks es' h' n = inE ks es h n ++ d ∧ ∀ j, j < n → (passes ks i Ls rs (n - 1 - i)).1 j = gotE ks es' h' j ∧ (passes ks i Ls rs (n - 1 - i)).2 j = restR n (R ++ d) j := by
  obtain ⟨a, _, ⟨d, c1, c2⟩, e⟩ := H.many h1 (n - 1 - i) (by omega)
  have hn : i + (n - 1 - i) + 1 = n := by omega
  rw [hn] at c1
  refine ⟨d, c1, fun j hj => ⟨a j (by omega), ?_⟩⟩
  by_cases hji : j = i + (n - 1 - i)
  · subst hji
    rw [c2, restR_last _ hn, restR_last _ hn]
  · rw [e j hji, restR_other _ (by omega), restR_other _ (by omega)]

theorem Stood.small {ks : Nat → Bool × Bool} {es es' : Nat → Bool} {h h' : List Int} {n : Nat} {R : List Int} {i : Nat} {Ls rs : Nat → List Int} (H : Stood ks es es' h h' n R i Ls rs) (hsl : Slim ks) (hn : n ≤ 3) (h1 : ∀ j, i < j → j < n → es j = false ∧ es' j = false) (hh : h.length ≤ h'.length) (hb : 432 * h'.length ≤ 1099511627776) (hin : i < n) : ∀ k, k ≤ n - 1 - i → ∀ j, j < n → 2 * ((passes ks i Ls rs k).1 j).length ≤ 1099511627776 := by
  intro k hk j hj
  obtain ⟨a, b, _, _⟩ := H.many h1 k (by omega)
  by_cases hji : j ≤ i + k
  · rw [a j hji]
    have := gotE_small hsl es' h' (i := j) (by omega)
    omega
  · rw [b j (by omega)]
    have := gotE_small hsl es h (i := j) (by omega)
    omega

/-- One more code point: where the stages stand when it has gone into the first. -/
theorem stood_put (ks : Nat → Bool × Bool) (h : List Int) (n : Nat) (R : List Int) (c : Int) :
    Stood ks (fun _ => false) (fun _ => false) h (h ++ [c]) n R 0 (upd (gotE ks (fun _ => false) h) 0 (gotE ks (fun _ => false) h 0 ++ pieces (ks 0).1 (ks 0).2 c)) (upd (restR n R) 0 (restR n R 0 ++ (feed clsOf (waitOf false (gotE ks (fun _ => false) h 0)) (pieces (ks 0).1 (ks 0).2 c)).2)) := by
  have hg : gotE ks (fun _ => false) (h ++ [c]) 0 = gotE ks (fun _ => false) h 0 ++ pieces (ks 0).1 (ks 0).2 c := by simp [gotE, inE]
  refine ⟨fun j hj => ?_, fun j hj => ?_, ⟨(feed clsOf (waitOf false (gotE ks (fun _ => false) h 0)) (pieces (ks 0).1 (ks 0).2 c)).2, ?_, ?_⟩, fun j hj => ?_⟩
  · have : j = 0 := by omega
    subst this
    rw [upd_same, hg]
  · rw [upd_other _ _ (by omega)]
  · rw [inE_succ, inE_succ, hg, out_snoc]
  · rw [upd_same]
  · rw [upd_other _ _ hj]

/-- The next stage ends. -/
theorem stood_end (ks : Nat → Bool × Bool) (h : List Int) (n : Nat) (R : List Int) (i : Nat) :
    Stood ks (fun j => decide (j < i)) (fun j => decide (j < i + 1)) h h n R i (gotE ks (fun j => decide (j < i)) h) (upd (restR n R) i (restR n R i ++ sortC clsOf (waitOf false (gotE ks (fun j => decide (j < i)) h i)))) := by
  have hc : ∀ j, j ≤ i → gotE ks (fun j => decide (j < i + 1)) h j = gotE ks (fun j => decide (j < i)) h j := fun j hj => gotE_congr j (fun k hk => by simp; omega)
  refine ⟨fun j hj => (hc j hj).symm, fun j _ => rfl, ⟨sortC clsOf (waitOf false (gotE ks (fun j => decide (j < i)) h i)), ?_, ?_⟩, fun j hj => ?_⟩
  · rw [inE_succ, inE_succ, hc i (Nat.le_refl _)]
    have e1 : decide (i < i + 1) = true := by simp
    have e2 : decide (i < i) = false := by simp
    rw [e1, e2, out_end]
  · rw [upd_same]
  · rw [upd_other _ _ hj]

end Go.Proofs.YtmhaknejeobfgabGreatDoor

/- Line4. -/
namespace Go.Proofs.YtmhaknejeobfgabGreatDoor
open Go.RowKit Go.Proofs.YtmhaknejeobfgabGreatDoor.Stable Go.Proofs.YtmhaknejeobfgabGreatDoor.Order Go.Proofs.YtmhaknejeobfgabGreatDoor.Points
attribute [local go_sem ↓] Go.wp_at_zero Go.wp_at_succ

theorem StsIn.congr {w : World} {hi bs : Nat} {t : TypeId} {B n : Nat} {ks : Nat → Bool × Bool} {Ls Ls' : Nat → List Int} {es es' : Nat → Bool} {rs rs' : Nat → List Int} {S : Nat → Prop} (h : StsIn w hi bs t B n ks Ls es rs S) (hc : ∀ j, j < n → Ls j = Ls' j ∧ es j = es' j ∧ rs j = rs' j) : StsIn w hi bs t B n ks Ls' es' rs' S := by
  obtain ⟨cs, gm, gr, h1, h2⟩ := h
  refine ⟨cs, gm, gr, ⟨h1.blk, fun i hi => ?_, h1.sep⟩, h2⟩
  obtain ⟨e1, e2, e3⟩ := hc i hi
  rw [← e1, ← e2, ← e3]
  exact h1.st i hi

theorem StsLeft.congr {w w' : World} {hi bs : Nat} {t : TypeId} {B n : Nat} {ks : Nat → Bool × Bool} {Ls Ls' : Nat → List Int} {es es' : Nat → Bool} {rs rs' : Nat → List Int} {S : Nat → Prop} (h : StsLeft w w' hi bs t B n ks Ls es rs S) (hc : ∀ j, j < n → Ls j = Ls' j ∧ es j = es' j ∧ rs j = rs' j) : StsLeft w w' hi bs t B n ks Ls' es' rs' S := ⟨h.1.congr hc, h.2⟩

/-- A line's own block: no bytes wait; its stages. -/
def LineBlk (w : World) (bl bs n cp : Nat) (tl : TypeId) : Prop := w.heap[bl]? = some (.cells #[.slice none 0 0, .int .i64 0, .slice (some ⟨bs, 0, none⟩) n cp] tl (0, 0))

/-- Where a line's stages are. -/
def LineCell (w : World) (bl bs n cp : Nat) : Prop := w.cell? ⟨bl, 2, none⟩ = some (.slice (some ⟨bs, 0, none⟩) n cp) ∧ bl < w.heap.size

theorem LineBlk.cell {w : World} {bl bs n cp : Nat} {tl : TypeId} (h : LineBlk w bl bs n cp tl) : LineCell w bl bs n cp := ⟨cell_of h rfl, lt_of h⟩

theorem LineBlk.kept {w w' : World} {bl bs n cp : Nat} {tl : TypeId} (h : LineBlk w bl bs n cp tl) {S : Nat → Prop} (hf : Fr S w w') (hS : ¬ S bl) : LineBlk w' bl bs n cp tl := (hf.block bl (lt_of h) hS).trans h

theorem all_rest {ks : Nat → Bool × Bool} {es : Nat → Bool} {h : List Int} {n : Nat} {R : List Int} (hv : ∀ c ∈ h, Valid c) (hR : ∀ c ∈ R, Valid c) : AllV (gotE ks es h) (restR n R) := by
  refine ⟨gotE_valid hv, fun j x hx => ?_⟩
  unfold restR at hx
  split at hx
  · exact hR x hx
  · cases hx

theorem AllV.put {Ls rs : Nat → List Int} (h : AllV Ls rs) (i : Nat) {l d : List Int} (hl : ∀ x ∈ l, Valid x) (hd : ∀ x ∈ d, Valid x) : AllV (upd Ls i l) (upd rs i d) := by
  refine ⟨fun j x hx => ?_, fun j x hx => ?_⟩
  · by_cases hj : j = i
    · subst hj; rw [upd_same] at hx; exact hl x hx
    · rw [upd_other _ _ hj] at hx; exact h.1 j x hx
  · by_cases hj : j = i
    · subst hj; rw [upd_same] at hx; exact hd x hx
    · rw [upd_other _ _ hj] at hx; exact h.2 j x hx

set_option maxRecDepth 100000 in
set_option maxHeartbeats 1600000 in
/-- One more code point goes in. -/
theorem enter_calls {w : World} {hi bs : Nat} {t : TypeId} {B n : Nat} {ks : Nat → Bool × Bool} {h R : List Int} {S : Nat → Prop} {bl cp : Nat} (hst : StsIn w hi bs t B n ks (gotE ks (fun _ => false) h) (fun _ => false) (restR n R) S) (hblk : LineCell w bl bs n cp) (hbl : ¬ S bl) (hsl : Slim ks) (hn0 : 0 < n) (hn : n ≤ 3) (hv : ∀ c ∈ h, Valid c) (hR : ∀ c ∈ R, Valid c) (c : Int) (hc : Valid c) (hb : 432 * (h.length + 1) ≤ 1099511627776) :
    Calls Tryz.prog 55 #[.pointer (some ⟨bl, 0, none⟩), .int .i32 c] w fun e w' => e = .returned (.tuple #[]) ∧ ∃ d, inAt ks false (h ++ [c]) n = inAt ks false h n ++ d ∧ StsLeft w w' hi bs t B n ks (gotE ks (fun _ => false) (h ++ [c])) (fun _ => false) (restR n (R ++ d)) S := by
  have cL : w.cell? ⟨bl, 2, none⟩ = some (.slice (some ⟨bs, 0, none⟩) n cp) := hblk.1
  have hstood := stood_put ks h n R c
  have hbase := all_rest (ks := ks) (es := fun _ => false) (n := n) hv hR
  have hall := hbase.put 0 (l := gotE ks (fun _ => false) h 0 ++ pieces (ks 0).1 (ks 0).2 c) (d := restR n R 0 ++ (feed clsOf (waitOf false (gotE ks (fun _ => false) h 0)) (pieces (ks 0).1 (ks 0).2 c)).2) (fun x hx => by
    rcases List.mem_append.1 hx with hx | hx
    · exact hbase.1 0 x hx
    · exact (ok_all c).valid hc _ _ x hx) (fun x hx => by
    rcases List.mem_append.1 hx with hx | hx
    · exact hbase.2 0 x hx
    · exact (feed_valid (wait_valid (hbase.1 0)) ((ok_all c).valid hc _ _)).2 x hx)
  have hsm := hstood.small hsl hn (fun _ _ _ => ⟨rfl, rfl⟩) (by simp) (by simp; omega) hn0
  have hlen : 2 * (gotE ks (fun _ => false) h 0).length + 2 * (pieces (ks 0).1 (ks 0).2 c).length ≤ 1099511627776 := by
    have h1 := gotE_small hsl (fun _ => false) h (i := 0) (by omega)
    have h2 := (ok_all c).len (ks 0).1 (ks 0).2
    omega
  obtain ⟨d, hd1, hd2⟩ := hstood.all hn0 (fun _ _ _ => ⟨rfl, rfl⟩)
  rw [inE_const, inE_const] at hd1
  have hfin : ∀ w', StsLeft w w' hi bs t B n ks (passes ks 0 (upd (gotE ks (fun _ => false) h) 0 (gotE ks (fun _ => false) h 0 ++ pieces (ks 0).1 (ks 0).2 c)) (upd (restR n R) 0 (restR n R 0 ++ (feed clsOf (waitOf false (gotE ks (fun _ => false) h 0)) (pieces (ks 0).1 (ks 0).2 c)).2)) (n - 1 - 0)).1 (fun _ => false) (passes ks 0 (upd (gotE ks (fun _ => false) h) 0 (gotE ks (fun _ => false) h 0 ++ pieces (ks 0).1 (ks 0).2 c)) (upd (restR n R) 0 (restR n R 0 ++ (feed clsOf (waitOf false (gotE ks (fun _ => false) h 0)) (pieces (ks 0).1 (ks 0).2 c)).2)) (n - 1 - 0)).2 S →
      ∃ d, inAt ks false (h ++ [c]) n = inAt ks false h n ++ d ∧ StsLeft w w' hi bs t B n ks (gotE ks (fun _ => false) (h ++ [c])) (fun _ => false) (restR n (R ++ d)) S := fun w' hl => ⟨d, hd1, hl.congr (fun j hj => ⟨(hd2 j hj).1, rfl, (hd2 j hj).2⟩)⟩
  have HST : Hid (StsIn w hi bs t B n ks (gotE ks (fun _ => false) h) (fun _ => false) (restR n R) S) := hst
  have HLB : Hid (LineCell w bl bs n cp ∧ ¬ S bl ∧ bl < w.heap.size) := ⟨hblk, hbl, hblk.2⟩
  have HC : Hid (Valid c) := hc
  have HLN : Hid (2 * (gotE ks (fun _ => false) h 0).length + 2 * (pieces (ks 0).1 (ks 0).2 c).length ≤ 1099511627776) := hlen
  obtain ⟨L1, hL1⟩ : ∃ L1, L1 = upd (gotE ks (fun _ => false) h) 0 (gotE ks (fun _ => false) h 0 ++ pieces (ks 0).1 (ks 0).2 c) := ⟨_, rfl⟩
  obtain ⟨R1, hR1⟩ : ∃ R1, R1 = upd (restR n R) 0 (restR n R 0 ++ (feed clsOf (waitOf false (gotE ks (fun _ => false) h 0)) (pieces (ks 0).1 (ks 0).2 c)).2) := ⟨_, rfl⟩
  rw [← hL1, ← hR1] at hsm hall hfin
  have HSM : Hid (∀ k, k ≤ n - 1 - 0 → ∀ j, j < n → 2 * ((passes ks 0 L1 R1 k).1 j).length ≤ 1099511627776) := hsm
  have HAL : Hid (AllV L1 R1) := hall
  have HFI : Hid (∀ w', StsLeft w w' hi bs t B n ks (passes ks 0 L1 R1 (n - 1 - 0)).1 (fun _ => false) (passes ks 0 L1 R1 (n - 1 - 0)).2 S → ∃ d, inAt ks false (h ++ [c]) n = inAt ks false h n ++ d ∧ StsLeft w w' hi bs t B n ks (gotE ks (fun _ => false) (h ++ [c])) (fun _ => false) (restR n (R ++ d)) S) := hfin
  have HEQ : Hid (L1 = upd (gotE ks (fun _ => false) h) 0 (gotE ks (fun _ => false) h 0 ++ pieces (ks 0).1 (ks 0).2 c) ∧ R1 = upd (restR n R) 0 (restR n R 0 ++ (feed clsOf (waitOf false (gotE ks (fun _ => false) h 0)) (pieces (ks 0).1 (ks 0).2 c)).2)) := ⟨hL1, hR1⟩
  clear hst hblk hbl hsl hc hlen hsm hall hfin hstood hd1 hd2 hbase hv hR hL1 hR1
  have n0 : (0 : Int) < (n : Int) := by omega
  go_enter Tryz.func55, Tryz.ntmps55
  go_wp2_with (first
    | (go_at_call 78; refine (stPut HST.out 0 hn0 rfl c HC.out HLN.out _ rfl).mono ?_; rintro e w1 ⟨rfl, hl1⟩; rw [← HEQ.out.1, ← HEQ.out.2] at hl1; have HL1 : Hid (StsLeft w w1 hi bs t B n ks L1 (fun _ => false) R1 S) := hl1; clear hl1)
    | (go_at_call 79; refine (handOn_calls HL1.out.1 bl cp (fun h => h.elim HLB.out.2.1 (fun h => absurd HLB.out.2.2 (by omega))) (Nat.lt_of_lt_of_le HLB.out.2.2 HL1.out.2.size) (HL1.out.2.cell HLB.out.2.1 HLB.out.2.2 HLB.out.1.1) 0 hn0 hn (fun _ _ _ => rfl) HAL.out HSM.out).mono ?_; rintro e w2 ⟨rfl, hl2⟩))
  go_end0
  exact ⟨rfl, HFI.out _ (.trans HL1.out.2 hl2)⟩

end Go.Proofs.YtmhaknejeobfgabGreatDoor

/- Line5. -/
namespace Go.Proofs.YtmhaknejeobfgabGreatDoor
open Go.RowKit Go.Proofs.YtmhaknejeobfgabGreatDoor.Stable Go.Proofs.YtmhaknejeobfgabGreatDoor.Order Go.Proofs.YtmhaknejeobfgabGreatDoor.Points
attribute [local go_sem ↓] Go.wp_at_zero Go.wp_at_succ

theorem bytes_none {w : World} {bl bs n cp : Nat} {tl : TypeId} (h : LineBlk w bl bs n cp tl) :
    Calls Tryz.prog 119 #[.pointer (some ⟨bl, 0, none⟩)] w fun e w' => e = .returned (.int .i64 0) ∧ ∃ q, w' = w.drewN q := by
  have hq : QIs w .u8 5 #[.slice none 0 0, .int .i64 0, .slice (some ⟨bs, 0, none⟩) n cp] 0 none [] 0 := ⟨.slice none 0 0, [], rfl, rfl, ⟨rfl, .inl ⟨rfl, rfl⟩⟩, rfl, Nat.le_refl _, fun _ => rfl⟩
  exact Q_len_B h hq (by omega)

/-- What the stages hold when the first k have ended. -/
def EndAt (w w' : World) (hi bs : Nat) (t : TypeId) (B n : Nat) (ks : Nat → Bool × Bool) (h R : List Int) (k : Nat) (S : Nat → Prop) : Prop :=
  ∃ D, inE ks (fun j => decide (j < k)) h n = inAt ks false h n ++ D ∧ StsLeft w w' hi bs t B n ks (gotE ks (fun j => decide (j < k)) h) (fun j => decide (j < k)) (restR n (R ++ D)) S

theorem EndAt.start {w w' : World} {hi bs : Nat} {t : TypeId} {B n : Nat} {ks : Nat → Bool × Bool} {h R : List Int} {S : Nat → Prop} (hst : StsIn w hi bs t B n ks (gotE ks (fun _ => false) h) (fun _ => false) (restR n R) S) (hf : Fr (fun _ => False) w w') : EndAt w w' hi bs t B n ks h R 0 S := by
  refine ⟨[], ?_, (hst.none hf).congr (fun j hj => ⟨?_, by simp, by simp⟩)⟩
  · rw [List.append_nil, ← inE_const]
    exact inE_congr n (fun j _ => by simp)
  · exact gotE_congr j (fun k _ => by simp)

theorem StsIn.mono {w : World} {hi bs : Nat} {t : TypeId} {B n : Nat} {ks : Nat → Bool × Bool} {Ls : Nat → List Int} {es : Nat → Bool} {rs : Nat → List Int} {S S' : Nat → Prop} (h : StsIn w hi bs t B n ks Ls es rs S) (hs : ∀ x, S x → S' x) : StsIn w hi bs t B n ks Ls es rs S' := by
  obtain ⟨cs, gm, gr, h1, h2⟩ := h
  exact ⟨cs, gm, gr, h1, fun x hx => hs x (h2 x hx)⟩

/-- The stage k ends: what Release leaves, what handOn needs, what it leaves. -/
theorem EndAt.next {w w1 : World} {hi bs : Nat} {t : TypeId} {B n : Nat} {ks : Nat → Bool × Bool} {h R : List Int} {k : Nat} {S : Nat → Prop} (H : EndAt w w1 hi bs t B n ks h R k S) (hsl : Slim ks) (hk : k < n) (hn : n ≤ 3) (hv : ∀ c ∈ h, Valid c) (hR : ∀ c ∈ R, Valid c) (hb : 432 * h.length ≤ 1099511627776) :
    ∃ (Ls rs : Nat → List Int) (es : Nat → Bool) (S1 : Nat → Prop), (∀ x, S1 x → S x ∨ w.heap.size ≤ x) ∧ (∀ x, S x → S1 x) ∧ StsIn w1 hi bs t B n ks Ls es rs S1 ∧ Fr S w w1 ∧ es k = false ∧ 2 * (Ls k).length ≤ 1099511627776 ∧ AllV Ls (upd rs k (rs k ++ sortC clsOf (waitOf false (Ls k)))) ∧ (∀ j, k < j → j < n → upd es k true j = false) ∧
      (∀ m, m ≤ n - 1 - k → ∀ j, j < n → 2 * ((passes ks k Ls (upd rs k (rs k ++ sortC clsOf (waitOf false (Ls k)))) m).1 j).length ≤ 1099511627776) ∧
      ∀ w2, StsLeft w w2 hi bs t B n ks (passes ks k Ls (upd rs k (rs k ++ sortC clsOf (waitOf false (Ls k)))) (n - 1 - k)).1 (upd es k true) (passes ks k Ls (upd rs k (rs k ++ sortC clsOf (waitOf false (Ls k)))) (n - 1 - k)).2 S → EndAt w w2 hi bs t B n ks h R (k + 1) S := by
  obtain ⟨D, hD, hst⟩ := H
  have hDv : ∀ c ∈ R ++ D, Valid c := fun c hc => by
    rcases List.mem_append.1 hc with hc | hc
    · exact hR c hc
    · exact inE_valid hv n c (by rw [hD]; exact List.mem_append_right _ hc)
  have hstood := stood_end ks h n (R ++ D) k
  have hes : ∀ j, k < j → j < n → (decide (j < k) = false) ∧ (decide (j < k + 1) = false) := fun j h1 _ => ⟨by simp; omega, by simp; omega⟩
  have hbase := all_rest (ks := ks) (es := fun j => decide (j < k)) (n := n) hv hDv
  have hL : 2 * (gotE ks (fun j => decide (j < k)) h k).length ≤ 1099511627776 := by
    have := gotE_small hsl (fun j => decide (j < k)) h (i := k) (by omega)
    omega
  refine ⟨gotE ks (fun j => decide (j < k)) h, restR n (R ++ D), fun j => decide (j < k), fun x => S x ∨ w.heap.size ≤ x, fun x h => h, fun x h => .inl h, hst.1, hst.2, by simp, hL, ?_, ?_, hstood.small hsl hn hes (Nat.le_refl _) hb hk, fun w2 hl => ?_⟩
  · have := hbase.put k (l := gotE ks (fun j => decide (j < k)) h k) (d := restR n (R ++ D) k ++ sortC clsOf (waitOf false (gotE ks (fun j => decide (j < k)) h k))) (hbase.1 k) (fun x hx => by
      rcases List.mem_append.1 hx with hx | hx
      · exact hbase.2 k x hx
      · exact wait_valid (hbase.1 k) x (sortC_mem.1 hx))
    rwa [upd_id rfl] at this
  · intro j h1 _
    rw [upd_other _ _ (by omega)]
    simp
    omega
  · obtain ⟨d, hd1, hd2⟩ := hstood.all hk hes
    refine ⟨D ++ d, by rw [hd1, hD, List.append_assoc], ?_⟩
    refine hl.congr (fun j hj => ⟨(hd2 j hj).1, ?_, ?_⟩)
    · by_cases hjk : j = k
      · subst hjk; rw [upd_same]; simp
      · rw [upd_other _ _ hjk]
        have e : (j < k) ↔ (j < k + 1) := by omega
        simp [e]
    · rw [(hd2 j hj).2, List.append_assoc]

theorem EndAt.done {w w' : World} {hi bs : Nat} {t : TypeId} {B n : Nat} {ks : Nat → Bool × Bool} {h R : List Int} {S : Nat → Prop} (H : EndAt w w' hi bs t B n ks h R n S) : ∃ D, inAt ks true h n = inAt ks false h n ++ D ∧ StsLeft w w' hi bs t B n ks (gotE ks (fun _ => true) h) (fun _ => true) (restR n (R ++ D)) S := by
  obtain ⟨D, hD, hst⟩ := H
  refine ⟨D, ?_, hst.congr (fun j hj => ⟨gotE_congr j (fun k hk => by simp; omega), by simp [hj], rfl⟩)⟩
  rw [← hD, ← inE_const]
  exact inE_congr n (fun j hj => by simp [hj])

set_option maxRecDepth 100000 in
set_option maxHeartbeats 1600000 in
/-- Nothing more comes. -/
theorem end_calls {w : World} {hi bs : Nat} {t : TypeId} {B n : Nat} {ks : Nat → Bool × Bool} {h R : List Int} {S : Nat → Prop} {bl cp : Nat} {tl : TypeId} (hst : StsIn w hi bs t B n ks (gotE ks (fun _ => false) h) (fun _ => false) (restR n R) S) (hblk : LineBlk w bl bs n cp tl) (hbl : ¬ S bl) (hsl : Slim ks) (hn : n ≤ 3) (hv : ∀ c ∈ h, Valid c) (hR : ∀ c ∈ R, Valid c) (hb : 432 * h.length ≤ 1099511627776) :
    Calls Tryz.prog 98 #[.pointer (some ⟨bl, 0, none⟩)] w fun e w' => e = .returned (.tuple #[]) ∧ ∃ d, inAt ks true h n = inAt ks false h n ++ d ∧ StsLeft w w' hi bs t B n ks (gotE ks (fun _ => true) h) (fun _ => true) (restR n (R ++ d)) S := by
  have HST : Hid (StsIn w hi bs t B n ks (gotE ks (fun _ => false) h) (fun _ => false) (restR n R) S) := hst
  have HLB : Hid (LineBlk w bl bs n cp tl ∧ ¬ S bl ∧ bl < w.heap.size) := ⟨hblk, hbl, lt_of hblk⟩
  have HSL : Hid (Slim ks) := hsl
  have HV : Hid ((∀ c ∈ h, Valid c) ∧ (∀ c ∈ R, Valid c) ∧ 432 * h.length ≤ 1099511627776) := ⟨hv, hR, hb⟩
  clear hst hblk hbl hsl hv hR hb
  go_enter Tryz.func98, Tryz.ntmps98
  go_wp2
  go_loopg [7] 0 (fun _ _ wr => Hid (Fr (fun _ => False) w wr))
  case atStart => exact Fr.refl _ _
  case round =>
    have HBK : Hid (LineBlk wr bl bs n cp tl) := HLB.out.1.kept hrel.out id
    have cL : wr.cell? ⟨bl, 2, none⟩ = some (.slice (some ⟨bs, 0, none⟩) n cp) := cell_of HBK.out rfl
    go_wp2_with (go_at_call 119; refine (bytes_none HBK.out).mono ?_; rintro e w' ⟨rfl, q, rfl⟩)
    have hE0 := EndAt.start HST.out (hrel.out.drewN q)
    have HE0 : Hid (EndAt w (wr.drewN q) hi bs t B n ks h R 0 S) := hE0
    clear hE0
    go_loopw [15] (fun vi wr => ∃ k : Nat, vi = .int .i64 k ∧ k ≤ n ∧ Hid (EndAt w wr hi bs t B n ks h R k S)) (fun vi _ => n - (intOf vi).toNat)
    case atStart => exact ⟨0, rfl, Nat.zero_le _, HE0.out⟩
    case round =>
      obtain ⟨k, rfl, hk, hh⟩ := hrel
      by_cases hlt : k < n
      · obtain ⟨Ls, rs, es, S1, s1, s2, s3, s4, s5, s6, s7, s8, s9, s10⟩ := hh.out.next HSL.out hlt hn HV.out.1 HV.out.2.1 HV.out.2.2
        have i0 : (0 : Int) ≤ (k : Int) := by omega
        have i1 : (k : Int) < (n : Int) := by omega
        have cL2 : wr.cell? ⟨bl, 2, none⟩ = some (.slice (some ⟨bs, 0, none⟩) n cp) := s4.cell HLB.out.2.1 HLB.out.2.2 (cell_of HLB.out.1 rfl)
        have HK : Hid (StsIn wr hi bs t B n ks Ls es rs S1 ∧ Fr S w wr ∧ es k = false ∧ 2 * (Ls k).length ≤ 1099511627776 ∧ (∀ x, S1 x → S x ∨ w.heap.size ≤ x) ∧ (∀ x, S x → S1 x)) := ⟨s3, s4, s5, s6, s1, s2⟩
        obtain ⟨R1, hR1⟩ : ∃ R1, R1 = upd rs k (rs k ++ sortC clsOf (waitOf false (Ls k))) := ⟨_, rfl⟩
        rw [← hR1] at s7 s9 s10
        have HA : Hid (AllV Ls R1) := s7
        have H8 : Hid (∀ j, k < j → j < n → upd es k true j = false) := s8
        have H9 : Hid (∀ m, m ≤ n - 1 - k → ∀ j, j < n → 2 * ((passes ks k Ls R1 m).1 j).length ≤ 1099511627776) := s9
        have H10 : Hid (∀ w2, StsLeft w w2 hi bs t B n ks (passes ks k Ls R1 (n - 1 - k)).1 (upd es k true) (passes ks k Ls R1 (n - 1 - k)).2 S → EndAt w w2 hi bs t B n ks h R (k + 1) S) := s10
        have HR1 : Hid (R1 = upd rs k (rs k ++ sortC clsOf (waitOf false (Ls k)))) := hR1
        clear s1 s2 s3 s4 s5 s6 s7 s8 s9 s10 hR1 hh
        go_wp2_with (first
          | (go_at_call 120; refine (stRelease HK.out.1 k hlt HK.out.2.2.1 HK.out.2.2.2.1 _ (Nat.mul_comm _ _)).mono ?_; rintro e w1 ⟨rfl, hl1⟩; rw [← HR1.out] at hl1; have HL1 : Hid (StsLeft w w1 hi bs t B n ks Ls (upd es k true) R1 S) := StsLeft.trans HK.out.2.1 ⟨hl1.1.mono (fun x h => h.elim (fun h => .inl (HK.out.2.2.2.2.1 x h)) (fun h => .inr h)), hl1.2.mono (fun x _ h => HK.out.2.2.2.2.1 x h)⟩; clear hl1)
          | (go_at_call 79; refine (handOn_calls HL1.out.1 bl cp (fun h => h.elim HLB.out.2.1 (fun h => absurd HLB.out.2.2 (by omega))) (Nat.lt_of_lt_of_le HLB.out.2.2 HL1.out.2.size) (HL1.out.2.cell HLB.out.2.1 HLB.out.2.2 (cell_of HLB.out.1 rfl)) k hlt hn H8.out HA.out H9.out).mono ?_; rintro e w2 ⟨rfl, hl2⟩))
        exact ⟨⟨k + 1, by go_num, by omega, H10.out _ (.trans HL1.out.2 hl2)⟩, by simp [intOf]; omega⟩
      · obtain rfl : k = n := by omega
        go_wp2
        go_end0
        exact ⟨rfl, hh.out.done⟩

end Go.Proofs.YtmhaknejeobfgabGreatDoor

/- Line6. -/
namespace Go.Proofs.YtmhaknejeobfgabGreatDoor
open Go.RowKit Go.Proofs.YtmhaknejeobfgabGreatDoor.Stable Go.Proofs.YtmhaknejeobfgabGreatDoor.Order Go.Proofs.YtmhaknejeobfgabGreatDoor.Points
attribute [local go_sem ↓] Go.wp_at_zero Go.wp_at_succ

theorem Hid.to {p : Prop} (h : p) : Hid p := h

set_option maxRecDepth 100000 in
set_option maxHeartbeats 800000 in
theorem lineTake_calls {w : World} {hi bs : Nat} {t : TypeId} {B n : Nat} {ks : Nat → Bool × Bool} {h R : List Int} {e : Bool} {S : Nat → Prop} {bl cp : Nat} (hst : StsIn w hi bs t B n ks (gotE ks (fun _ => e) h) (fun _ => e) (restR n R) S) (hblk : LineCell w bl bs n cp) (hbl : ¬ S bl) (hsl : Slim ks) (hn0 : 0 < n) (hn : n ≤ 3) (hb : 432 * h.length ≤ 1099511627776) :
    Calls Tryz.prog 73 #[.pointer (some ⟨bl, 0, none⟩)] w fun e' w' => ∃ x ok, e' = .returned (.tuple #[.int .i32 x, .bool ok]) ∧ MidAt (.int .i32 x) (.bool ok) R ∧ StsLeft w w' hi bs t B n ks (gotE ks (fun _ => e) h) (fun _ => e) (restR n R.tail) S := by
  have cL : w.cell? ⟨bl, 2, none⟩ = some (.slice (some ⟨bs, 0, none⟩) n cp) := hblk.1
  have hlen : 2 * (gotE ks (fun _ => e) h (n - 1)).length ≤ 1099511627776 := by
    have := gotE_small hsl (fun _ => e) h (i := n - 1) (by omega)
    omega
  have HST : Hid (StsIn w hi bs t B n ks (gotE ks (fun _ => e) h) (fun _ => e) (restR n R) S) := hst
  have HLB : Hid (LineCell w bl bs n cp ∧ ¬ S bl ∧ bl < w.heap.size) := ⟨hblk, hbl, hblk.2⟩
  have HLN : Hid (2 * (gotE ks (fun _ => e) h (n - 1)).length ≤ 1099511627776) := hlen
  have e1 : restR n R (n - 1) = R := restR_last R (by omega)
  have e2 : ∀ j, j < n → upd (restR n R) (n - 1) R.tail j = restR n R.tail j := fun j hj => by
    by_cases hjn : j = n - 1
    · rw [hjn, upd_same, restR_last _ (by omega)]
    · rw [upd_other _ _ hjn, restR_other _ (by omega), restR_other _ (by omega)]
  have HE : Hid (restR n R (n - 1) = R ∧ ∀ j, j < n → upd (restR n R) (n - 1) R.tail j = restR n R.tail j) := ⟨e1, e2⟩
  clear hst hblk hbl hsl hb hlen e1 e2
  have HTK : Hid (∀ q o, o = 8 * (n - 1) → Calls Tryz.prog 97 #[.pointer (some ⟨bs, o, none⟩)] (w.drewN q) fun e' w' => ∃ x ok, e' = .returned (.tuple #[.int .i32 x, .bool ok]) ∧ MidAt (.int .i32 x) (.bool ok) R ∧ StsLeft w w' hi bs t B n ks (gotE ks (fun _ => e) h) (fun _ => e) (restR n R.tail) S) := by
    refine Hid.to (fun q o ho => ?_)
    have hs := HST.out.none ((Fr.refl (fun _ => False) w).drewN q)
    refine (stTake (o := o) hs.1 (n - 1) (by omega) HLN.out ho).mono ?_
    rintro e w' ⟨x, ok, rfl, h1, h2⟩
    rw [HE.out.1] at h1 h2
    exact ⟨x, ok, rfl, h1, (StsLeft.trans hs.2 h2).congr (fun j hj => ⟨rfl, rfl, HE.out.2 j hj⟩)⟩
  obtain ⟨m, hm⟩ : ∃ m : Nat, m = n - 1 := ⟨_, rfl⟩
  have i0 : (0 : Int) ≤ (m : Int) := by omega
  have i1 : (m : Int) < (n : Int) := by omega
  have hw : IntKind.i64.wrap ((n : Int) - 1) = (m : Int) := by
    rcases (by omega : n = 1 ∨ n = 2 ∨ n = 3) with rfl | rfl | rfl <;> (subst hm; rfl)
  have HM : Hid (m = n - 1) := hm
  clear HST HLN HE hm
  go_enter Tryz.func73, Tryz.ntmps73
  go_wp2_with fail
  go_region_held3 (fun w' => w'.cell? ⟨bl, 2, none⟩ = some (.slice (some ⟨bs, 0, none⟩) n cp)) (go_keep)
    (first | (go_at_call 97; refine (HTK.out 1 _ (by rw [HM.out, Nat.mul_comm])).mono ?_; rintro e' w1 ⟨x, ok, rfl, hmid, hl⟩; have cL1 := hl.2.cell HLB.out.2.1 HLB.out.2.2 HLB.out.1.1))
  go_wp2
  go_ret2
  exact ⟨x, ok, rfl, hmid, hl⟩

end Go.Proofs.YtmhaknejeobfgabGreatDoor
