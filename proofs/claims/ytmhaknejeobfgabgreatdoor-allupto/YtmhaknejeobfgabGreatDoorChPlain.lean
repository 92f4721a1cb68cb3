/- What comes chunk by chunk, in plain lists: what is released behind so many reads; where a source gives up; the next code point; two sources compared. No program is named here. What Fetch gives of chunks, told whole; what is released is a beginning of the form. Plain lists. Two sources that do not give up compare as their forms do. Plain lists. Where two sources give up; what was not read does not matter. Plain lists. -/
import Derived.Test.YtmhaknejeobfgabGreatDoorChSure
import Derived.Test.YtmhaknejeobfgabGreatDoorBase
import Derived.Test.YtmhaknejeobfgabGreatDoorLining

/- Mach. -/
namespace Go.Proofs.YtmhaknejeobfgabGreatDoor
open Go.Proofs.YtmhaknejeobfgabGreatDoor.Stable Go.Proofs.YtmhaknejeobfgabGreatDoor.Order Go.Proofs.YtmhaknejeobfgabGreatDoor.Points

/-- A chunk: its kind, its bytes. -/
abbrev Chk := Int × List UInt8

/-- All bytes of chunks. -/
def bytesOf (L : List Chk) : List UInt8 := L.flatMap (fun c => c.2)

/-- How many chunks without a byte stand side by side at the end. -/
def idleOf (L : List Chk) : Nat := L.foldl (fun n c => if c.2 = [] then n + 1 else 0) 0

theorem idle_snoc (L : List Chk) (c : Chk) : idleOf (L ++ [c]) = if c.2 = [] then idleOf L + 1 else 0 := by
  unfold idleOf
  rw [List.foldl_append]
  rfl

theorem bytes_snoc (L : List Chk) (c : Chk) : bytesOf (L ++ [c]) = bytesOf L ++ c.2 := by simp [bytesOf]

theorem bytes_append (L M : List Chk) : bytesOf (L ++ M) = bytesOf L ++ bytesOf M := by simp [bytesOf]

theorem take_snoc {α : Type} {L : List α} {k : Nat} {c : α} (h : L[k]? = some c) : L.take (k + 1) = L.take k ++ [c] := by
  rw [List.take_add_one, h]
  rfl

/-- Why a source gives up at a chunk, given those ahead of it; 0: it doesn't. -/
def faultBy (L : List Chk) (c : Chk) : Int := if c.1 = 0 then (if idleOf (L ++ [c]) = 64 then 4 else 0) else if c.1 = 1 then 2 else 3

/-- Why a source gives up at the read k (from 0); 0: it doesn't. -/
def faultAt (L : List Chk) (k : Nat) : Int := match L[k]? with
  | none => 0
  | some c => faultBy (L.take k) c

theorem faultAt_some {L : List Chk} {k : Nat} {c : Chk} (h : L[k]? = some c) : faultAt L k = faultBy (L.take k) c := by
  unfold faultAt
  rw [h]

/-- The code points that have gone in behind k reads (e: it has ended). -/
def goneIn (L : List Chk) (k : Nat) (e : Bool) : List Int := if e = true then codes (bytesOf (L.take k)) else sure (bytesOf (L.take k))

/-- What is released then. -/
def relOf (m : Int) (L : List Chk) (k : Nat) (e : Bool) : List Int := inAt (kindAt m) e (goneIn L k e) (stagesOf m)

/-- The most marks that waited in one stage, of the first n. -/
def mostOf (ks : Nat → Bool × Bool) (e : Bool) (h : List Int) : Nat → Nat
  | 0 => 0
  | n + 1 => max (mostOf ks e h n) (heldOf (gotE ks (fun _ => e) h n))

def heldAt (m : Int) (L : List Chk) (k : Nat) (e : Bool) : Nat := mostOf (kindAt m) e (goneIn L k e) (stagesOf m)

/-- Where a source stands behind a Fetch: reads, has it ended, what was fetched, why it gave up. -/
structure Ft where
  k : Nat
  e : Bool
  c : Int
  err : Int

/-- The next code point (t were fetched), -1 behind the last; so many reads are left. -/
def fetchG (m : Int) (L : List Chk) (t : Nat) : Nat → Nat → Bool → Ft
  | 0, k, e => match (relOf m L k e)[t]? with
    | some c => ⟨k, e, c, 0⟩
    | none => ⟨k, e, -1, 0⟩
  | g + 1, k, e => match (relOf m L k e)[t]? with
    | some c => ⟨k, e, c, 0⟩
    | none => if e = true then ⟨k, e, -1, 0⟩ else if k = L.length then fetchG m L t g k true else if faultAt L k = 0 then fetchG m L t g (k + 1) false else ⟨k + 1, e, -1, faultAt L k⟩

/-- How many steps are left. -/
def stepsOf (L : List Chk) (k : Nat) (e : Bool) : Nat := L.length - k + (if e = true then 0 else 1)

def fetchP (m : Int) (L : List Chk) (t k : Nat) (e : Bool) : Ft := fetchG m L t (stepsOf L k e) k e

theorem fetchP_there {m : Int} {L : List Chk} {t k : Nat} {e : Bool} {c : Int} (h : (relOf m L k e)[t]? = some c) : fetchP m L t k e = ⟨k, e, c, 0⟩ := by
  unfold fetchP
  cases stepsOf L k e <;> (unfold fetchG; rw [h])

theorem fetchP_done {m : Int} {L : List Chk} {t k : Nat} (h : (relOf m L k true)[t]? = none) : fetchP m L t k true = ⟨k, true, -1, 0⟩ := by
  unfold fetchP
  cases stepsOf L k true <;> (unfold fetchG; rw [h])
  simp

theorem fetchP_end {m : Int} {L : List Chk} {t k : Nat} (h : (relOf m L k false)[t]? = none) (hk : k = L.length) : fetchP m L t k false = fetchP m L t k true := by
  have e1 : stepsOf L k false = stepsOf L k true + 1 := by simp [stepsOf]
  unfold fetchP
  rw [e1, fetchG, h]
  simp [hk]

theorem fetchP_read {m : Int} {L : List Chk} {t k : Nat} (h : (relOf m L k false)[t]? = none) (hk : k < L.length) (hf : faultAt L k = 0) : fetchP m L t k false = fetchP m L t (k + 1) false := by
  have e1 : stepsOf L k false = stepsOf L (k + 1) false + 1 := by simp [stepsOf]; omega
  unfold fetchP
  rw [e1, fetchG, h]
  have hne : ¬ k = L.length := by omega
  simp only [Bool.false_eq_true, if_false]
  rw [if_neg hne]
  simp [hf]

theorem fetchP_fault {m : Int} {L : List Chk} {t k : Nat} (h : (relOf m L k false)[t]? = none) (hk : k < L.length) (hf : faultAt L k ≠ 0) : fetchP m L t k false = ⟨k + 1, false, -1, faultAt L k⟩ := by
  have e1 : stepsOf L k false = stepsOf L (k + 1) false + 1 := by simp [stepsOf]; omega
  unfold fetchP
  rw [e1, fetchG, h]
  have hne : ¬ k = L.length := by omega
  simp only [Bool.false_eq_true, if_false]
  rw [if_neg hne]
  simp [hf]

/-- How two sources compare: the sign; what was read of each; the most marks that waited; the error. -/
structure Cmp where
  sign : Int
  ra : Nat
  rb : Nat
  ha : Nat
  hb : Nat
  err : Int

/-- The sign of two code points. -/
def signOf (c d : Int) : Int := if c < d then -1 else if d < c then 1 else 0

def strmG (m : Int) (A B : List Chk) : Nat → Nat → Bool → Nat → Bool → Nat → Cmp
  | 0, _, _, _, _, _ => ⟨0, 0, 0, 0, 0, 0⟩
  | g + 1, ka, ea, kb, eb, t =>
    if (fetchP m A t ka ea).err ≠ 0 then ⟨0, (fetchP m A t ka ea).k, kb, 0, 0, (fetchP m A t ka ea).err⟩
    else if (fetchP m B t kb eb).err ≠ 0 then ⟨0, (fetchP m A t ka ea).k, (fetchP m B t kb eb).k, 0, 0, (fetchP m B t kb eb).err⟩
    else if (fetchP m A t ka ea).c = (fetchP m B t kb eb).c ∧ (fetchP m A t ka ea).c ≠ -1 then strmG m A B g (fetchP m A t ka ea).k (fetchP m A t ka ea).e (fetchP m B t kb eb).k (fetchP m B t kb eb).e (t + 1)
    else ⟨signOf (fetchP m A t ka ea).c (fetchP m B t kb eb).c, (fetchP m A t ka ea).k, (fetchP m B t kb eb).k, heldAt m A (fetchP m A t ka ea).k (fetchP m A t ka ea).e, heldAt m B (fetchP m B t kb eb).k (fetchP m B t kb eb).e, 0⟩

/-- More code points than a source can release. -/
def roomOf (A : List Chk) : Nat := 216 * (bytesOf A).length

/-- Two sources compared. -/
def strm (m : Int) (A B : List Chk) : Cmp := strmG m A B (roomOf A + 1) 0 false 0 false 0

/-- The first chunk at which a source gives up, and why. -/
def faultG (L : List Chk) : Nat → Nat → Int
  | 0, _ => 0
  | g + 1, k => if faultAt L k ≠ 0 then faultAt L k else faultG L g (k + 1)

/-- Why a source gives up that is read to its end; 0: it doesn't. -/
def faultOf (L : List Chk) : Int := faultG L L.length 0

end Go.Proofs.YtmhaknejeobfgabGreatDoor

/- MachD. -/
namespace Go.Proofs.YtmhaknejeobfgabGreatDoor
open Go.Proofs.YtmhaknejeobfgabGreatDoor.Stable Go.Proofs.YtmhaknejeobfgabGreatDoor.Order Go.Proofs.YtmhaknejeobfgabGreatDoor.Points

/-- A state that can be. -/
def OkAt (L : List Chk) (k : Nat) (e : Bool) : Prop := k ≤ L.length ∧ (e = true → k = L.length)

/-- What Fetch gives: it reads on as long as nothing is there; then there is a code point, or the end, or a chunk at which the source gives up. -/
structure FetchIs (m : Int) (L : List Chk) (t k : Nat) (e : Bool) (F : Ft) : Prop where
  le : k ≤ F.k
  bare : ∀ j, k ≤ j → j < F.k → (relOf m L j false)[t]? = none ∧ e = false
  calm : ∀ j, k ≤ j → j + 1 < F.k → faultAt L j = 0
  give : (F.err = 0 ∧ OkAt L F.k F.e ∧ (e = true → F.e = true) ∧ (∀ j, k ≤ j → j < F.k → faultAt L j = 0) ∧ (F.e = true → e = false → (relOf m L F.k false)[t]? = none) ∧ ((relOf m L F.k F.e)[t]? = some F.c ∨ (F.e = true ∧ (relOf m L F.k true)[t]? = none ∧ F.c = -1))) ∨ (F.err ≠ 0 ∧ F.c = -1 ∧ F.e = false ∧ k < F.k ∧ F.k ≤ L.length ∧ F.err = faultAt L (F.k - 1))

theorem fetch_is {m : Int} {L : List Chk} {t : Nat} : ∀ (g k : Nat) (e : Bool), stepsOf L k e = g → OkAt L k e → FetchIs m L t k e (fetchP m L t k e) := by
  intro g
  induction g with
  | zero =>
    intro k e hg ho
    have he : e = true := by
      cases e with
      | true => rfl
      | false => simp [stepsOf] at hg
    subst he
    cases hr : (relOf m L k true)[t]? with
    | some c =>
      rw [fetchP_there hr]
      exact ⟨Nat.le_refl _, fun j h1 h2 => absurd h2 (by dsimp only; omega), fun j h1 h2 => absurd h2 (by dsimp only; omega), .inl ⟨rfl, ho, fun _ => rfl, fun j h1 h2 => absurd h2 (by dsimp only; omega), fun _ h => (by cases h), .inl hr⟩⟩
    | none =>
      rw [fetchP_done hr]
      exact ⟨Nat.le_refl _, fun j h1 h2 => absurd h2 (by dsimp only; omega), fun j h1 h2 => absurd h2 (by dsimp only; omega), .inl ⟨rfl, ho, fun _ => rfl, fun j h1 h2 => absurd h2 (by dsimp only; omega), fun _ h => (by cases h), .inr ⟨rfl, hr, rfl⟩⟩⟩
  | succ g ih =>
    intro k e hg ho
    cases hr : (relOf m L k e)[t]? with
    | some c =>
      rw [fetchP_there hr]
      refine ⟨Nat.le_refl _, fun j h1 h2 => absurd h2 (by dsimp only; omega), fun j h1 h2 => absurd h2 (by dsimp only; omega), .inl ⟨rfl, ho, fun h => h, fun j h1 h2 => absurd h2 (by dsimp only; omega), fun h1 h2 => ?_, .inl hr⟩⟩
      dsimp only at h1
      rw [h1] at h2
      cases h2
    | none =>
      cases e with
      | true =>
        rw [fetchP_done hr]
        exact ⟨Nat.le_refl _, fun j h1 h2 => absurd h2 (by dsimp only; omega), fun j h1 h2 => absurd h2 (by dsimp only; omega), .inl ⟨rfl, ho, fun _ => rfl, fun j h1 h2 => absurd h2 (by dsimp only; omega), fun _ h => (by cases h), .inr ⟨rfl, hr, rfl⟩⟩⟩
      | false =>
        by_cases hk : k = L.length
        · rw [fetchP_end hr hk]
          have h1 := ih k true (by simp [stepsOf] at hg ⊢; omega) ⟨by omega, fun _ => hk⟩
          have hle := h1.le
          have hFk : (fetchP m L t k true).k = k := by
            rcases h1.give with ⟨_, h3, _⟩ | ⟨_, _, h3, _, h4, _⟩
            · have := h3.1; omega
            · have := h1.le; omega
          refine ⟨h1.le, fun j a b => absurd b (by omega), h1.calm, ?_⟩
          rcases h1.give with ⟨a1, a2, a3, a4, a5, a6⟩ | ⟨a1, a2, a3, a4, a5, a6⟩
          · exact .inl ⟨a1, a2, fun h => (by cases h), a4, fun _ _ => by rw [hFk]; exact hr, a6⟩
          · omega
        · have hkl : k < L.length := by have := ho.1; omega
          by_cases hf : faultAt L k = 0
          · rw [fetchP_read hr hkl hf]
            have h1 := ih (k + 1) false (by simp [stepsOf] at hg ⊢; omega) ⟨hkl, fun h => by cases h⟩
            have hle := h1.le
            refine ⟨by omega, fun j a b => ?_, fun j a b => ?_, ?_⟩
            · by_cases hj : j = k
              · subst hj; exact ⟨hr, rfl⟩
              · exact h1.bare j (by omega) b
            · by_cases hj : j = k
              · subst hj; exact hf
              · exact h1.calm j (by omega) b
            · rcases h1.give with ⟨a1, a2, a3, a4, a5, a6⟩ | ⟨a1, a2, a3, a4, a5, a6⟩
              · refine .inl ⟨a1, a2, a3, fun j a b => ?_, a5, a6⟩
                by_cases hj : j = k
                · subst hj; exact hf
                · exact a4 j (by omega) b
              · exact .inr ⟨a1, a2, a3, by omega, a5, a6⟩
          · rw [fetchP_fault hr hkl hf]
            refine ⟨by dsimp only; omega, fun j a b => ?_, fun j a b => ?_, .inr ⟨hf, rfl, rfl, by dsimp only; omega, hkl, rfl⟩⟩
            · dsimp only at b
              obtain rfl : j = k := by omega
              exact ⟨hr, rfl⟩
            · dsimp only at b
              omega

theorem fetch_is' {m : Int} {L : List Chk} {t k : Nat} {e : Bool} (h : OkAt L k e) : FetchIs m L t k e (fetchP m L t k e) := fetch_is _ k e rfl h

/-- The form of all that the chunks hold. -/
def fullOf (m : Int) (L : List Chk) : List Int := relOf m L L.length true

theorem full_form {m : Int} (h0 : 0 ≤ m) (h3 : m ≤ 3) (L : List Chk) : fullOf m L = form m (codes (bytesOf L)) := by
  unfold fullOf relOf goneIn
  rw [if_pos rfl, List.take_length, form_line h0 h3]

theorem rel_prefix (m : Int) (L : List Chk) {k : Nat} {e : Bool} (h : OkAt L k e) : ∃ t, fullOf m L = relOf m L k e ++ t := by
  cases e with
  | true =>
    rw [h.2 rfl]
    exact ⟨[], by rw [List.append_nil]; rfl⟩
  | false =>
    unfold fullOf relOf goneIn
    simp only [if_true, Bool.false_eq_true, if_false]
    have e1 : bytesOf (L.take L.length) = bytesOf (L.take k) ++ bytesOf (L.drop k) := by rw [List.take_length, ← bytes_append, List.take_append_drop]
    rw [e1, codes_sure]
    exact in_prefix _ _ _ true _

theorem rel_more (m : Int) (L : List Chk) {k j : Nat} (h : k ≤ j) : ∃ t, relOf m L j false = relOf m L k false ++ t := by
  unfold relOf goneIn
  simp only [Bool.false_eq_true, if_false]
  have e1 : bytesOf (L.take j) = bytesOf (L.take k) ++ bytesOf ((L.take j).drop k) := by
    rw [← bytes_append]
    congr 1
    have := List.take_append_drop k (L.take j)
    rw [List.take_take, Nat.min_eq_left h] at this
    exact this.symm
  rw [e1, sure_app]
  exact in_prefix _ _ _ false _

theorem full_valid (m : Int) (L : List Chk) : ∀ c ∈ fullOf m L, Valid c := by
  unfold fullOf relOf goneIn
  rw [if_pos rfl]
  exact inAt_valid (codes_valid _) _

theorem at_prefix {l p r : List Int} {t : Nat} {c : Int} (h : l = p ++ r) (hc : p[t]? = some c) : l[t]? = some c := by
  rw [h, List.getElem?_append_left (List.getElem?_eq_some_iff.1 hc).1]
  exact hc

/-- Without a fault: the next code point of the form, or its end. -/
theorem fetch_calm {m : Int} {L : List Chk} {t k : Nat} {e : Bool} (h : OkAt L k e) (hc : ∀ j, j < L.length → faultAt L j = 0) :
    (fetchP m L t k e).err = 0 ∧ OkAt L (fetchP m L t k e).k (fetchP m L t k e).e ∧ ((fullOf m L)[t]? = some (fetchP m L t k e).c ∨ ((fullOf m L)[t]? = none ∧ (fetchP m L t k e).c = -1 ∧ (fetchP m L t k e).e = true)) := by
  have hf := fetch_is' (m := m) (t := t) h
  rcases hf.give with ⟨a1, a2, a3, a4, a5, a6⟩ | ⟨a1, a2, a3, a4, a5, a6⟩
  · refine ⟨a1, a2, ?_⟩
    rcases a6 with h1 | ⟨h1, h2, h3⟩
    · obtain ⟨r, hr⟩ := rel_prefix m L a2
      exact .inl (at_prefix hr h1)
    · rw [a2.2 h1] at h2
      exact .inr ⟨h2, h3, h1⟩
  · rw [hc _ (by omega)] at a6
    exact absurd a6 a1

end Go.Proofs.YtmhaknejeobfgabGreatDoor

/- MachE. -/
namespace Go.Proofs.YtmhaknejeobfgabGreatDoor
open Go.Proofs.YtmhaknejeobfgabGreatDoor.Stable Go.Proofs.YtmhaknejeobfgabGreatDoor.Order Go.Proofs.YtmhaknejeobfgabGreatDoor.Points

/-- What is to be said of a comparison without a fault. -/
def CalmCmp (m : Int) (A B : List Chk) (G : Cmp) : Prop := G.err = 0 ∧ G.sign = signL (fullOf m A) (fullOf m B) ∧ G.ra ≤ A.length ∧ G.rb ≤ B.length ∧ (G.sign = 0 → G.ra = A.length ∧ G.rb = B.length)

theorem sign_app : ∀ (p a b : List Int), signL (p ++ a) (p ++ b) = signL a b
  | [], _, _ => rfl
  | t :: p, a, b => by
    rw [List.cons_append, List.cons_append]
    conv => lhs; unfold signL
    rw [if_neg (by omega), if_neg (by omega)]
    exact sign_app p a b

theorem getElem_append {p r : List Int} {t : Nat} (h : p.length = t) : (p ++ r)[t]? = r[0]? := by
  rw [List.getElem?_append_right (by omega), h, Nat.sub_self]

theorem strmG_calm {m : Int} {A B : List Chk} (hA : ∀ j, j < A.length → faultAt A j = 0) (hB : ∀ j, j < B.length → faultAt B j = 0) : ∀ (g : Nat) (ka : Nat) (ea : Bool) (kb : Nat) (eb : Bool) (tk a b : List Int), OkAt A ka ea → OkAt B kb eb → fullOf m A = tk ++ a → fullOf m B = tk ++ b → a.length < g → CalmCmp m A B (strmG m A B g ka ea kb eb tk.length)
  | 0, _, _, _, _, _, _, _, _, _, _, _, h => absurd h (by omega)
  | g + 1, ka, ea, kb, eb, tk, a, b, oa, ob, fa, fb, hg => by
    obtain ⟨x1, x2, x3⟩ := fetch_calm (m := m) (t := tk.length) oa hA
    obtain ⟨y1, y2, y3⟩ := fetch_calm (m := m) (t := tk.length) ob hB
    have va := full_valid m A
    have vb := full_valid m B
    unfold strmG
    rw [if_neg (by rw [x1]; simp), if_neg (by rw [y1]; simp)]
    rw [fa, getElem_append rfl] at x3
    rw [fb, getElem_append rfl] at y3
    rw [fa] at va
    rw [fb] at vb
    have hs : signL (fullOf m A) (fullOf m B) = signL a b := by rw [fa, fb, sign_app]
    cases a with
    | nil =>
      rcases x3 with h | ⟨_, h, he⟩
      · cases h
      · have hka := x2.2 he
        rw [if_neg (by rw [h]; exact fun k => k.2 rfl)]
        cases b with
        | nil =>
          rcases y3 with h2 | ⟨_, h2, he2⟩
          · cases h2
          · have hkb := y2.2 he2
            refine ⟨rfl, ?_, x2.1, y2.1, fun _ => ⟨hka, hkb⟩⟩
            rw [hs]
            show signOf _ _ = _
            rw [h, h2]
            rfl
        | cons d r =>
          rcases y3 with h2 | ⟨h2, _⟩
          · have hd : (fetchP m B tk.length kb eb).c = d := by
              have h3 : some d = some (fetchP m B tk.length kb eb).c := h2
              cases h3; rfl
            have hv := vb d (by simp)
            unfold Valid at hv
            have hsg : signOf (fetchP m A tk.length ka ea).c (fetchP m B tk.length kb eb).c = -1 := by
              rw [h, hd]
              unfold signOf
              rw [if_pos (by omega)]
            refine ⟨rfl, ?_, x2.1, y2.1, fun h0 => ?_⟩
            · rw [hs]
              show signOf _ _ = _
              rw [hsg]
              rfl
            · have h0' : signOf (fetchP m A tk.length ka ea).c (fetchP m B tk.length kb eb).c = 0 := h0
              rw [hsg] at h0'
              cases h0'
          · cases h2
    | cons c r =>
      have hvc := va c (by simp)
      unfold Valid at hvc
      rcases x3 with h | ⟨h, _⟩
      · have hc : (fetchP m A tk.length ka ea).c = c := by
          have h3 : some c = some (fetchP m A tk.length ka ea).c := h
          cases h3; rfl
        cases b with
        | nil =>
          rcases y3 with h2 | ⟨_, h2, he2⟩
          · cases h2
          · rw [if_neg (by rw [hc, h2]; exact fun k => by omega)]
            have hsg : signOf (fetchP m A tk.length ka ea).c (fetchP m B tk.length kb eb).c = 1 := by
              rw [hc, h2]
              unfold signOf
              rw [if_neg (by omega), if_pos (by omega)]
            refine ⟨rfl, ?_, x2.1, y2.1, fun h0 => ?_⟩
            · rw [hs]
              show signOf _ _ = _
              rw [hsg]
              rfl
            · have h0' : signOf (fetchP m A tk.length ka ea).c (fetchP m B tk.length kb eb).c = 0 := h0
              rw [hsg] at h0'
              cases h0'
        | cons d r' =>
          rcases y3 with h2 | ⟨h2, _⟩
          · have hd : (fetchP m B tk.length kb eb).c = d := by
              have h3 : some d = some (fetchP m B tk.length kb eb).c := h2
              cases h3; rfl
            by_cases hcd : c = d
            · rw [if_pos (by rw [hc, hd]; exact ⟨hcd, by omega⟩)]
              have := strmG_calm hA hB g _ _ _ _ (tk ++ [c]) r r' x2 y2 (by rw [fa]; simp) (by rw [fb, ← hcd]; simp) (by simp at hg; omega)
              rw [List.length_append, List.length_singleton] at this
              exact this
            · rw [if_neg (by rw [hc, hd]; exact fun k => hcd k.1)]
              have hsg : signOf (fetchP m A tk.length ka ea).c (fetchP m B tk.length kb eb).c = signL (c :: r) (d :: r') := by
                rw [hc, hd]
                unfold signOf signL
                by_cases h1 : c < d
                · rw [if_pos h1, if_pos h1]
                · rw [if_neg h1, if_neg h1, if_pos (by omega), if_pos (by omega)]
              have hne : signL (c :: r) (d :: r') ≠ 0 := by
                unfold signL
                by_cases h1 : c < d
                · rw [if_pos h1]; omega
                · rw [if_neg h1, if_pos (by omega)]; omega
              refine ⟨rfl, ?_, x2.1, y2.1, fun h0 => ?_⟩
              · rw [hs]
                exact hsg
              · have h0' : signOf (fetchP m A tk.length ka ea).c (fetchP m B tk.length kb eb).c = 0 := h0
                rw [hsg] at h0'
                exact absurd h0' hne
          · cases h2
      · cases h

theorem strm_calm {m : Int} {A B : List Chk} (hA : ∀ j, j < A.length → faultAt A j = 0) (hB : ∀ j, j < B.length → faultAt B j = 0) (hr : (fullOf m A).length ≤ roomOf A) : CalmCmp m A B (strm m A B) :=
  strmG_calm hA hB (roomOf A + 1) 0 false 0 false [] (fullOf m A) (fullOf m B) ⟨Nat.zero_le _, fun h => by cases h⟩ ⟨Nat.zero_le _, fun h => by cases h⟩ rfl rfl (by omega)

end Go.Proofs.YtmhaknejeobfgabGreatDoor

/- MachF. -/
namespace Go.Proofs.YtmhaknejeobfgabGreatDoor
open Go.Proofs.YtmhaknejeobfgabGreatDoor.Stable Go.Proofs.YtmhaknejeobfgabGreatDoor.Order Go.Proofs.YtmhaknejeobfgabGreatDoor.Points

theorem faultG_spec (L : List Chk) : ∀ (g k : Nat), (faultG L g k = 0 ∧ ∀ j, k ≤ j → j < k + g → faultAt L j = 0) ∨ ∃ j, k ≤ j ∧ j < k + g ∧ faultAt L j ≠ 0 ∧ faultG L g k = faultAt L j ∧ ∀ i, k ≤ i → i < j → faultAt L i = 0
  | 0, k => .inl ⟨rfl, fun j h1 h2 => absurd h2 (by omega)⟩
  | g + 1, k => by
    unfold faultG
    by_cases h : faultAt L k = 0
    · rw [if_neg (by rw [h]; simp)]
      rcases faultG_spec L g (k + 1) with ⟨h1, h2⟩ | ⟨j, h1, h2, h3, h4, h5⟩
      · refine .inl ⟨h1, fun j a b => ?_⟩
        by_cases hj : j = k
        · subst hj; exact h
        · exact h2 j (by omega) (by omega)
      · refine .inr ⟨j, by omega, by omega, h3, h4, fun i a b => ?_⟩
        by_cases hi : i = k
        · subst hi; exact h
        · exact h5 i (by omega) b
    · rw [if_pos h]
      exact .inr ⟨k, Nat.le_refl _, by omega, h, rfl, fun i a b => absurd b (by omega)⟩

theorem fault_spec (L : List Chk) : (faultOf L = 0 ∧ ∀ j, j < L.length → faultAt L j = 0) ∨ ∃ j, j < L.length ∧ faultAt L j ≠ 0 ∧ faultOf L = faultAt L j ∧ ∀ i, i < j → faultAt L i = 0 := by
  rcases faultG_spec L L.length 0 with ⟨h1, h2⟩ | ⟨j, h1, h2, h3, h4, h5⟩
  · exact .inl ⟨h1, fun j hj => h2 j (by omega) (by omega)⟩
  · exact .inr ⟨j, by omega, h3, h4, fun i hi => h5 i (by omega) hi⟩

/-- Why it stops here, if it does. -/
def lastG (m : Int) (A B : List Chk) (ka : Nat) (ea : Bool) (kb : Nat) (eb : Bool) (t : Nat) : Cmp :=
  if (fetchP m A t ka ea).err ≠ 0 then ⟨0, (fetchP m A t ka ea).k, kb, 0, 0, (fetchP m A t ka ea).err⟩
  else if (fetchP m B t kb eb).err ≠ 0 then ⟨0, (fetchP m A t ka ea).k, (fetchP m B t kb eb).k, 0, 0, (fetchP m B t kb eb).err⟩
  else ⟨signOf (fetchP m A t ka ea).c (fetchP m B t kb eb).c, (fetchP m A t ka ea).k, (fetchP m B t kb eb).k, heldAt m A (fetchP m A t ka ea).k (fetchP m A t ka ea).e, heldAt m B (fetchP m B t kb eb).k (fetchP m B t kb eb).e, 0⟩

/-- Both go on. -/
def goesOn (m : Int) (A B : List Chk) (ka : Nat) (ea : Bool) (kb : Nat) (eb : Bool) (t : Nat) : Prop :=
  (fetchP m A t ka ea).err = 0 ∧ (fetchP m B t kb eb).err = 0 ∧ (fetchP m A t ka ea).c = (fetchP m B t kb eb).c ∧ (fetchP m A t ka ea).c ≠ -1

/-- A comparison, from where both stand. -/
def Runs (m : Int) (A B : List Chk) (ka : Nat) (ea : Bool) (kb : Nat) (eb : Bool) (t : Nat) (G : Cmp) : Prop :=
  ∀ P : Nat → Bool → Nat → Bool → Nat → Cmp → Prop, (∀ ka ea kb eb t, ¬ goesOn m A B ka ea kb eb t → P ka ea kb eb t (lastG m A B ka ea kb eb t)) →
    (∀ ka ea kb eb t G, goesOn m A B ka ea kb eb t → P (fetchP m A t ka ea).k (fetchP m A t ka ea).e (fetchP m B t kb eb).k (fetchP m B t kb eb).e (t + 1) G → P ka ea kb eb t G) → P ka ea kb eb t G

theorem Runs.stop {m : Int} {A B : List Chk} {ka : Nat} {ea : Bool} {kb : Nat} {eb : Bool} {t : Nat} (h : ¬ goesOn m A B ka ea kb eb t) : Runs m A B ka ea kb eb t (lastG m A B ka ea kb eb t) := fun _ s _ => s _ _ _ _ _ h

theorem Runs.step {m : Int} {A B : List Chk} {ka : Nat} {ea : Bool} {kb : Nat} {eb : Bool} {t : Nat} {G : Cmp} (h : goesOn m A B ka ea kb eb t) (r : Runs m A B (fetchP m A t ka ea).k (fetchP m A t ka ea).e (fetchP m B t kb eb).k (fetchP m B t kb eb).e (t + 1) G) : Runs m A B ka ea kb eb t G := fun P s k => k _ _ _ _ _ _ h (r P s k)

theorem Runs.ind {m : Int} {A B : List Chk} {motive : (ka : Nat) → (ea : Bool) → (kb : Nat) → (eb : Bool) → (t : Nat) → (G : Cmp) → Runs m A B ka ea kb eb t G → Prop}
    (stop : ∀ {ka : Nat} {ea : Bool} {kb : Nat} {eb : Bool} {t : Nat} (h : ¬ goesOn m A B ka ea kb eb t), motive ka ea kb eb t (lastG m A B ka ea kb eb t) (Runs.stop h))
    (step : ∀ {ka : Nat} {ea : Bool} {kb : Nat} {eb : Bool} {t : Nat} {G : Cmp} (h : goesOn m A B ka ea kb eb t) (r : Runs m A B (fetchP m A t ka ea).k (fetchP m A t ka ea).e (fetchP m B t kb eb).k (fetchP m B t kb eb).e (t + 1) G), motive _ _ _ _ _ _ r → motive ka ea kb eb t G (Runs.step h r))
    {ka : Nat} {ea : Bool} {kb : Nat} {eb : Bool} {t : Nat} {G : Cmp} (h : Runs m A B ka ea kb eb t G) : motive ka ea kb eb t G h :=
  (h (fun ka ea kb eb t G => ∃ h : Runs m A B ka ea kb eb t G, motive ka ea kb eb t G h) (fun _ _ _ _ _ h => ⟨_, stop h⟩) (fun _ _ _ _ _ _ h ⟨r, k⟩ => ⟨_, step h r k⟩)).elim fun _ k => k

theorem Runs.inv {m : Int} {A B : List Chk} {ka : Nat} {ea : Bool} {kb : Nat} {eb : Bool} {t : Nat} {G : Cmp} (h : Runs m A B ka ea kb eb t G) : (goesOn m A B ka ea kb eb t ∧ Runs m A B (fetchP m A t ka ea).k (fetchP m A t ka ea).e (fetchP m B t kb eb).k (fetchP m B t kb eb).e (t + 1) G) ∨ (¬ goesOn m A B ka ea kb eb t ∧ G = lastG m A B ka ea kb eb t) := by
  induction h using Runs.ind with
  | stop h => exact .inr ⟨h, rfl⟩
  | step h r _ => exact .inl ⟨h, r⟩

theorem Runs.same {m : Int} {A B : List Chk} {ka : Nat} {ea : Bool} {kb : Nat} {eb : Bool} {t : Nat} {G G' : Cmp} (h : Runs m A B ka ea kb eb t G) (h' : Runs m A B ka ea kb eb t G') : G = G' := by
  induction h using Runs.ind with
  | stop h =>
    rcases h'.inv with ⟨h2, _⟩ | ⟨_, h2⟩
    · exact absurd h2 h
    · exact h2.symm
  | step h _ ih =>
    rcases h'.inv with ⟨_, r⟩ | ⟨h2, _⟩
    · exact ih r
    · exact absurd h h2

theorem strmG_step (m : Int) (A B : List Chk) (g ka : Nat) (ea : Bool) (kb : Nat) (eb : Bool) (t : Nat) (h : goesOn m A B ka ea kb eb t) : strmG m A B (g + 1) ka ea kb eb t = strmG m A B g (fetchP m A t ka ea).k (fetchP m A t ka ea).e (fetchP m B t kb eb).k (fetchP m B t kb eb).e (t + 1) := by
  obtain ⟨h1, h2, h3, h4⟩ := h
  have n1 : ¬ (fetchP m A t ka ea).err ≠ 0 := fun k => k h1
  have n2 : ¬ (fetchP m B t kb eb).err ≠ 0 := fun k => k h2
  rw [strmG, if_neg n1, if_neg n2, if_pos ⟨h3, h4⟩]

theorem last_calm {m : Int} {A B : List Chk} {ka : Nat} {ea : Bool} {kb : Nat} {eb : Bool} {t : Nat} (h1 : (fetchP m A t ka ea).err = 0) (h2 : (fetchP m B t kb eb).err = 0) : lastG m A B ka ea kb eb t = ⟨signOf (fetchP m A t ka ea).c (fetchP m B t kb eb).c, (fetchP m A t ka ea).k, (fetchP m B t kb eb).k, heldAt m A (fetchP m A t ka ea).k (fetchP m A t ka ea).e, heldAt m B (fetchP m B t kb eb).k (fetchP m B t kb eb).e, 0⟩ := by
  have n1 : ¬ (fetchP m A t ka ea).err ≠ 0 := fun k => k h1
  have n2 : ¬ (fetchP m B t kb eb).err ≠ 0 := fun k => k h2
  rw [lastG, if_neg n1, if_neg n2]

theorem last_a {m : Int} {A B : List Chk} {ka : Nat} {ea : Bool} {kb : Nat} {eb : Bool} {t : Nat} (h1 : (fetchP m A t ka ea).err ≠ 0) : lastG m A B ka ea kb eb t = ⟨0, (fetchP m A t ka ea).k, kb, 0, 0, (fetchP m A t ka ea).err⟩ := by
  rw [lastG, if_pos h1]

theorem last_b {m : Int} {A B : List Chk} {ka : Nat} {ea : Bool} {kb : Nat} {eb : Bool} {t : Nat} (h1 : (fetchP m A t ka ea).err = 0) (h2 : (fetchP m B t kb eb).err ≠ 0) : lastG m A B ka ea kb eb t = ⟨0, (fetchP m A t ka ea).k, (fetchP m B t kb eb).k, 0, 0, (fetchP m B t kb eb).err⟩ := by
  have n1 : ¬ (fetchP m A t ka ea).err ≠ 0 := fun k => k h1
  rw [lastG, if_neg n1, if_pos h2]

theorem strmG_stop (m : Int) (A B : List Chk) (g ka : Nat) (ea : Bool) (kb : Nat) (eb : Bool) (t : Nat) (h : ¬ goesOn m A B ka ea kb eb t) : strmG m A B (g + 1) ka ea kb eb t = lastG m A B ka ea kb eb t := by
  unfold goesOn at h
  by_cases h1 : (fetchP m A t ka ea).err = 0
  · have n1 : ¬ (fetchP m A t ka ea).err ≠ 0 := fun k => k h1
    by_cases h2 : (fetchP m B t kb eb).err = 0
    · have n2 : ¬ (fetchP m B t kb eb).err ≠ 0 := fun k => k h2
      have n3 : ¬ ((fetchP m A t ka ea).c = (fetchP m B t kb eb).c ∧ (fetchP m A t ka ea).c ≠ -1) := fun k => h ⟨h1, h2, k.1, k.2⟩
      rw [last_calm h1 h2, strmG, if_neg n1, if_neg n2, if_neg n3]
    · rw [last_b h1 h2, strmG, if_neg n1, if_pos h2]
  · rw [last_a h1, strmG, if_pos h1]

/-- A state behind a Fetch that went well. -/
theorem fetch_ok {m : Int} {L : List Chk} {t k : Nat} {e : Bool} (h : OkAt L k e) (he : (fetchP m L t k e).err = 0) : OkAt L (fetchP m L t k e).k (fetchP m L t k e).e := by
  rcases (fetch_is' (m := m) (t := t) h).give with ⟨_, a2, _⟩ | ⟨a1, _⟩
  · exact a2
  · exact absurd he a1

theorem fetch_lt {m : Int} {L : List Chk} {t k : Nat} {e : Bool} (h : OkAt L k e) (he : (fetchP m L t k e).err = 0) (hc : (fetchP m L t k e).c ≠ -1) : t < (fullOf m L).length := by
  rcases (fetch_is' (m := m) (t := t) h).give with ⟨_, a2, _, _, _, a6⟩ | ⟨a1, _⟩
  · rcases a6 with a6 | ⟨_, _, a6⟩
    · obtain ⟨r, hr⟩ := rel_prefix m L a2
      exact (List.getElem?_eq_some_iff.1 (at_prefix hr a6)).1
    · exact absurd a6 hc
  · exact absurd he a1

theorem runs_of {m : Int} {A B : List Chk} : ∀ (g ka : Nat) (ea : Bool) (kb : Nat) (eb : Bool) (t : Nat), OkAt A ka ea → OkAt B kb eb → t ≤ (fullOf m A).length → (fullOf m A).length < t + g → Runs m A B ka ea kb eb t (strmG m A B g ka ea kb eb t)
  | 0, _, _, _, _, _, _, _, h1, h2 => absurd h2 (by omega)
  | g + 1, ka, ea, kb, eb, t, oa, ob, h1, h2 => by
    by_cases h : goesOn m A B ka ea kb eb t
    · rw [strmG_step _ _ _ _ _ _ _ _ _ h]
      have := fetch_lt oa h.1 h.2.2.2
      exact .step h (runs_of g _ _ _ _ _ (fetch_ok oa h.1) (fetch_ok ob h.2.1) (by omega) (by omega))
    · rw [strmG_stop _ _ _ _ _ _ _ _ _ h]
      exact .stop h

theorem strm_runs {m : Int} {A B : List Chk} (hr : (fullOf m A).length ≤ roomOf A) : Runs m A B 0 false 0 false 0 (strm m A B) :=
  runs_of _ _ _ _ _ _ ⟨Nat.zero_le _, fun h => by cases h⟩ ⟨Nat.zero_le _, fun h => by cases h⟩ (Nat.zero_le _) (by omega)

/-- No fault below. -/
def NoF (L : List Chk) (r : Nat) : Prop := ∀ j, j < r → faultAt L j = 0

/-- The read r met the first fault. -/
def FirstF (L : List Chk) (r : Nat) (err : Int) : Prop := ∃ j, r = j + 1 ∧ j < L.length ∧ err = faultAt L j ∧ NoF L j

/-- What is to be said of any comparison. -/
structure AnyCmp (A B : List Chk) (G : Cmp) : Prop where
  ra : G.ra ≤ A.length
  rb : G.rb ≤ B.length
  calm : G.err = 0 → NoF A G.ra ∧ NoF B G.rb ∧ -1 ≤ G.sign ∧ G.sign ≤ 1
  bad : G.err ≠ 0 → G.sign = 0 ∧ G.ha = 0 ∧ G.hb = 0 ∧ ((FirstF A G.ra G.err ∧ NoF B G.rb) ∨ (FirstF B G.rb G.err ∧ NoF A G.ra))

theorem fetch_noF {m : Int} {L : List Chk} {t k : Nat} {e : Bool} (h : OkAt L k e) (hn : NoF L k) (he : (fetchP m L t k e).err = 0) : NoF L (fetchP m L t k e).k := fun j hj => by
  rcases (fetch_is' (m := m) (t := t) h).give with ⟨_, _, _, a4, _⟩ | ⟨a1, _⟩
  · by_cases hk : j < k
    · exact hn j hk
    · exact a4 j (by omega) hj
  · exact absurd he a1

theorem fetch_firstF {m : Int} {L : List Chk} {t k : Nat} {e : Bool} (h : OkAt L k e) (hn : NoF L k) (he : (fetchP m L t k e).err ≠ 0) : FirstF L (fetchP m L t k e).k (fetchP m L t k e).err := by
  have hf := fetch_is' (m := m) (t := t) h
  rcases hf.give with ⟨a1, _⟩ | ⟨_, _, _, a4, a5, a6⟩
  · exact absurd a1 he
  · refine ⟨(fetchP m L t k e).k - 1, by omega, by omega, a6, fun j hj => ?_⟩
    by_cases hk : j < k
    · exact hn j hk
    · exact hf.calm j (by omega) (by omega)

theorem FirstF.le {L : List Chk} {r : Nat} {err : Int} (h : FirstF L r err) : r ≤ L.length := by
  obtain ⟨j, h1, h2, _⟩ := h
  omega

theorem sign_range (c d : Int) : -1 ≤ signOf c d ∧ signOf c d ≤ 1 := by
  unfold signOf
  split
  · omega
  · split <;> omega

theorem Runs.any {m : Int} {A B : List Chk} {ka : Nat} {ea : Bool} {kb : Nat} {eb : Bool} {t : Nat} {G : Cmp} (h : Runs m A B ka ea kb eb t G) (oa : OkAt A ka ea) (ob : OkAt B kb eb) (na : NoF A ka) (nb : NoF B kb) : AnyCmp A B G := by
  induction h using Runs.ind with
  | step h _ ih => exact ih (fetch_ok oa h.1) (fetch_ok ob h.2.1) (fetch_noF oa na h.1) (fetch_noF ob nb h.2.1)
  | @stop ka ea kb eb t h =>
    by_cases h1 : (fetchP m A t ka ea).err = 0
    · by_cases h2 : (fetchP m B t kb eb).err = 0
      · rw [last_calm h1 h2]
        exact ⟨(fetch_ok oa h1).1, (fetch_ok ob h2).1, fun _ => ⟨fetch_noF oa na h1, fetch_noF ob nb h2, sign_range _ _⟩, fun k => absurd rfl k⟩
      · rw [last_b h1 h2]
        have hF := fetch_firstF ob nb h2
        exact ⟨(fetch_ok oa h1).1, hF.le, fun k => absurd k h2, fun _ => ⟨rfl, rfl, rfl, .inr ⟨hF, fetch_noF oa na h1⟩⟩⟩
    · rw [last_a h1]
      have hF := fetch_firstF oa na h1
      exact ⟨hF.le, ob.1, fun k => absurd k h1, fun _ => ⟨rfl, rfl, rfl, .inl ⟨hF, nb⟩⟩⟩

theorem strm_any {m : Int} {A B : List Chk} (hr : (fullOf m A).length ≤ roomOf A) : AnyCmp A B (strm m A B) :=
  (strm_runs hr).any ⟨Nat.zero_le _, fun h => by cases h⟩ ⟨Nat.zero_le _, fun h => by cases h⟩ (fun j hj => by omega) (fun j hj => by omega)

/-- No more is read behind than at the end. -/
theorem Runs.le {m : Int} {A B : List Chk} {ka : Nat} {ea : Bool} {kb : Nat} {eb : Bool} {t : Nat} {G : Cmp} (h : Runs m A B ka ea kb eb t G) (oa : OkAt A ka ea) (ob : OkAt B kb eb) (he : G.err = 0) : (fetchP m A t ka ea).k ≤ G.ra ∧ (fetchP m B t kb eb).k ≤ G.rb ∧ (fetchP m A t ka ea).err = 0 ∧ (fetchP m B t kb eb).err = 0 := by
  induction h using Runs.ind with
  | @step ka ea kb eb t G h _ ih =>
    have h1 := ih (fetch_ok oa h.1) (fetch_ok ob h.2.1) he
    have h2 := (fetch_is' (m := m) (t := t + 1) (fetch_ok oa h.1)).le
    have h3 := (fetch_is' (m := m) (t := t + 1) (fetch_ok ob h.2.1)).le
    exact ⟨by omega, by omega, h.1, h.2.1⟩
  | @stop ka ea kb eb t h =>
    by_cases h1 : (fetchP m A t ka ea).err = 0
    · by_cases h2 : (fetchP m B t kb eb).err = 0
      · rw [last_calm h1 h2]
        exact ⟨Nat.le_refl _, Nat.le_refl _, h1, h2⟩
      · rw [last_b h1 h2] at he
        exact absurd he h2
    · rw [last_a h1] at he
      exact absurd he h1

/-- Two lists of chunks whose first r are the same; the first list goes on there. -/
structure Same (A A' : List Chk) (r : Nat) : Prop where
  lt : r < A.length
  le : r ≤ A'.length
  eq : A'.take r = A.take r

theorem Same.take {A A' : List Chk} {r k : Nat} (h : Same A A' r) (hk : k ≤ r) : A'.take k = A.take k := by
  have := congrArg (List.take k) h.eq
  rwa [List.take_take, List.take_take, Nat.min_eq_left hk] at this

theorem Same.gone {A A' : List Chk} {r k : Nat} {e : Bool} (h : Same A A' r) (hk : k ≤ r) : goneIn A' k e = goneIn A k e := by
  unfold goneIn
  rw [h.take hk]

theorem Same.rel {A A' : List Chk} {r k : Nat} {e : Bool} (m : Int) (h : Same A A' r) (hk : k ≤ r) : relOf m A' k e = relOf m A k e := by
  unfold relOf
  rw [h.gone hk]

theorem Same.held {A A' : List Chk} {r k : Nat} {e : Bool} (m : Int) (h : Same A A' r) (hk : k ≤ r) : heldAt m A' k e = heldAt m A k e := by
  unfold heldAt
  rw [h.gone hk]

theorem Same.fault {A A' : List Chk} {r k : Nat} (h : Same A A' r) (hk : k < r) : faultAt A' k = faultAt A k := by
  unfold faultAt
  have e1 : A'[k]? = A[k]? := by
    have := congrArg (fun l => l[k]?) h.eq
    simp only [List.getElem?_take, if_pos hk] at this
    exact this
  rw [e1, h.take (by omega)]

/-- What is not read does not matter to a Fetch. -/
theorem fetch_same {m : Int} {A A' : List Chk} {r t : Nat} (h : Same A A' r) : ∀ (n k : Nat), r - k = n → k ≤ r → (fetchP m A t k false).k ≤ r → fetchP m A' t k false = fetchP m A t k false := by
  intro n
  induction n with
  | zero =>
    intro k hn hk hF
    obtain rfl : k = r := by omega
    cases hr : (relOf m A k false)[t]? with
    | some c => rw [fetchP_there hr, fetchP_there (by rw [h.rel m hk]; exact hr)]
    | none =>
      have hl := h.lt
      by_cases hf : faultAt A k = 0
      · rw [fetchP_read hr hl hf] at hF
        have := (fetch_is' (m := m) (t := t) (L := A) (k := k + 1) (e := false) ⟨hl, fun h => by cases h⟩).le
        omega
      · rw [fetchP_fault hr hl hf] at hF
        dsimp only at hF
        omega
  | succ n ih =>
    intro k hn hk hF
    have hl := h.lt
    have hl' := h.le
    cases hr : (relOf m A k false)[t]? with
    | some c => rw [fetchP_there hr, fetchP_there (by rw [h.rel m hk]; exact hr)]
    | none =>
      have hr' : (relOf m A' k false)[t]? = none := by rw [h.rel m hk]; exact hr
      by_cases hf : faultAt A k = 0
      · rw [fetchP_read hr (by omega) hf] at hF ⊢
        rw [fetchP_read hr' (by omega) (by rw [h.fault (by omega)]; exact hf)]
        exact ih (k + 1) (by omega) (by omega) hF
      · rw [fetchP_fault hr (by omega) hf, fetchP_fault hr' (by omega) (by rw [h.fault (by omega)]; exact hf), h.fault (by omega)]

/-- The side of a comparison that may be changed behind r reads. -/
def Side (A A' : List Chk) (r : Nat) : Prop := A' = A ∨ Same A A' r

theorem Side.fetch {m : Int} {A A' : List Chk} {r t k : Nat} {e : Bool} (h : Side A A' r) (o : OkAt A k e) (hF : (fetchP m A t k e).k ≤ r) : fetchP m A' t k e = fetchP m A t k e := by
  rcases h with rfl | h
  · rfl
  · have h1 := (fetch_is' (m := m) (t := t) o).le
    cases e with
    | true => have := o.2 rfl; have := h.lt; omega
    | false => exact fetch_same h _ k rfl (by omega) hF

theorem Side.held {A A' : List Chk} {r k : Nat} {e : Bool} (m : Int) (h : Side A A' r) (hk : k ≤ r) : heldAt m A' k e = heldAt m A k e := by
  rcases h with rfl | h
  · rfl
  · exact h.held m hk

/-- What was not read does not matter. -/
theorem Runs.side {m : Int} {A B A' B' : List Chk} {ka : Nat} {ea : Bool} {kb : Nat} {eb : Bool} {t : Nat} {G : Cmp} (h : Runs m A B ka ea kb eb t G) (oa : OkAt A ka ea) (ob : OkAt B kb eb) (he : G.err = 0) (sa : Side A A' G.ra) (sb : Side B B' G.rb) : Runs m A' B' ka ea kb eb t G := by
  induction h using Runs.ind with
  | @step ka ea kb eb t G h r ih =>
    have hl := (Runs.step h r).le oa ob he
    have e1 := sa.fetch oa hl.1
    have e2 := sb.fetch ob hl.2.1
    have h' : goesOn m A' B' ka ea kb eb t := by
      unfold goesOn
      rw [e1, e2]
      exact h
    refine .step h' ?_
    rw [e1, e2]
    exact ih (fetch_ok oa h.1) (fetch_ok ob h.2.1) he sa sb
  | @stop ka ea kb eb t h =>
    have hl := (Runs.stop h).le oa ob he
    have e1 := sa.fetch oa hl.1
    have e2 := sb.fetch ob hl.2.1
    have h' : ¬ goesOn m A' B' ka ea kb eb t := by
      unfold goesOn
      rw [e1, e2]
      exact h
    have e3 : lastG m A' B' ka ea kb eb t = lastG m A B ka ea kb eb t := by
      have q1 := sa.held (e := (fetchP m A t ka ea).e) m hl.1
      have q2 := sb.held (e := (fetchP m B t kb eb).e) m hl.2.1
      unfold lastG
      rw [e1, e2, q1, q2]
    rw [← e3]
    exact .stop h'

/-- A source that fails at the read r. -/
theorem fetch_fail {m : Int} {A A' : List Chk} {r t : Nat} (h : Same A A' r) (hc : A'[r]? = some ((1 : Int), [])) : ∀ (n k : Nat), r - k = n → k ≤ r → r < (fetchP m A t k false).k → (fetchP m A t k false).err = 0 → (fetchP m A' t k false).err = 2 := by
  intro n
  induction n with
  | zero =>
    intro k hn hk hF _
    obtain rfl : k = r := by omega
    cases hr : (relOf m A k false)[t]? with
    | some c =>
      rw [fetchP_there hr] at hF
      dsimp only at hF
      omega
    | none =>
      have hr' : (relOf m A' k false)[t]? = none := by rw [h.rel m hk]; exact hr
      have hf : faultAt A' k = 2 := by
        rw [faultAt_some hc]
        unfold faultBy
        simp
      rw [fetchP_fault hr' (List.getElem?_eq_some_iff.1 hc).1 (by rw [hf]; simp), hf]
  | succ n ih =>
    intro k hn hk hF he
    have hl := h.lt
    have hl' := h.le
    cases hr : (relOf m A k false)[t]? with
    | some c =>
      rw [fetchP_there hr] at hF
      dsimp only at hF
      omega
    | none =>
      have hr' : (relOf m A' k false)[t]? = none := by rw [h.rel m hk]; exact hr
      by_cases hf : faultAt A k = 0
      · rw [fetchP_read hr (by omega) hf] at hF he
        rw [fetchP_read hr' (by omega) (by rw [h.fault (by omega)]; exact hf)]
        exact ih (k + 1) (by omega) (by omega) hF he
      · rw [fetchP_fault hr (by omega) hf] at he
        exact absurd he hf

/-- Without the last chunk that was read of the first it fails. -/
theorem Runs.needA {m : Int} {A B A' : List Chk} {ka : Nat} {ea : Bool} {kb : Nat} {eb : Bool} {t : Nat} {G : Cmp} {r : Nat} (h : Runs m A B ka ea kb eb t G) (oa : OkAt A ka ea) (ob : OkAt B kb eb) (he : G.err = 0) (hr : G.ra = r + 1) (hk : ka ≤ r) (sa : Same A A' r) (hc : A'[r]? = some ((1 : Int), [])) : ∃ G', Runs m A' B ka ea kb eb t G' ∧ G'.err = 2 := by
  induction h using Runs.ind with
  | @step ka ea kb eb t G h r' ih =>
    have hl := (Runs.step h r').le oa ob he
    have hea : ea = false := by
      cases ea with
      | false => rfl
      | true => have := oa.2 rfl; have := sa.lt; omega
    subst hea
    by_cases hF : (fetchP m A t ka false).k ≤ r
    · have e1 := (Side.fetch (m := m) (t := t) (.inr sa) oa hF)
      have h' : goesOn m A' B ka false kb eb t := by
        unfold goesOn
        rw [e1]
        exact h
      obtain ⟨G', g1, g2⟩ := ih (fetch_ok oa h.1) (fetch_ok ob h.2.1) he hr hF
      refine ⟨G', .step h' ?_, g2⟩
      rw [e1]
      exact g1
    · have e2 := fetch_fail sa hc _ ka rfl hk (by omega) h.1
      refine ⟨_, .stop (fun k => by have := k.1; omega), ?_⟩
      rw [last_a (by rw [e2]; simp)]
      exact e2
  | @stop ka ea kb eb t h =>
    have hl := (Runs.stop h).le oa ob he
    have hea : ea = false := by
      cases ea with
      | false => rfl
      | true => have := oa.2 rfl; have := sa.lt; omega
    subst hea
    have hra : (lastG m A B ka false kb eb t).ra = (fetchP m A t ka false).k := by
      rw [last_calm hl.2.2.1 hl.2.2.2]
    have e2 := fetch_fail (m := m) (t := t) sa hc _ ka rfl hk (by omega) hl.2.2.1
    refine ⟨_, .stop (fun k => by have := k.1; omega), ?_⟩
    rw [last_a (by rw [e2]; simp)]
    exact e2

/-- Without the last chunk that was read of the second it fails. -/
theorem Runs.needB {m : Int} {A B B' : List Chk} {ka : Nat} {ea : Bool} {kb : Nat} {eb : Bool} {t : Nat} {G : Cmp} {r : Nat} (h : Runs m A B ka ea kb eb t G) (oa : OkAt A ka ea) (ob : OkAt B kb eb) (he : G.err = 0) (hr : G.rb = r + 1) (hk : kb ≤ r) (sb : Same B B' r) (hc : B'[r]? = some ((1 : Int), [])) : ∃ G', Runs m A B' ka ea kb eb t G' ∧ G'.err = 2 := by
  induction h using Runs.ind with
  | @step ka ea kb eb t G h r' ih =>
    have hl := (Runs.step h r').le oa ob he
    have heb : eb = false := by
      cases eb with
      | false => rfl
      | true => have := ob.2 rfl; have := sb.lt; omega
    subst heb
    by_cases hF : (fetchP m B t kb false).k ≤ r
    · have e1 := (Side.fetch (m := m) (t := t) (.inr sb) ob hF)
      have h' : goesOn m A B' ka ea kb false t := by
        unfold goesOn
        rw [e1]
        exact h
      obtain ⟨G', g1, g2⟩ := ih (fetch_ok oa h.1) (fetch_ok ob h.2.1) he hr hF
      refine ⟨G', .step h' ?_, g2⟩
      rw [e1]
      exact g1
    · have e2 := fetch_fail sb hc _ kb rfl hk (by omega) h.2.1
      refine ⟨_, .stop (fun k => by have := k.2.1; omega), ?_⟩
      rw [last_b h.1 (by rw [e2]; simp)]
      exact e2
  | @stop ka ea kb eb t h =>
    have hl := (Runs.stop h).le oa ob he
    have heb : eb = false := by
      cases eb with
      | false => rfl
      | true => have := ob.2 rfl; have := sb.lt; omega
    subst heb
    have hrb : (lastG m A B ka ea kb false t).rb = (fetchP m B t kb false).k := by
      rw [last_calm hl.2.2.1 hl.2.2.2]
    have e2 := fetch_fail (m := m) (t := t) sb hc _ kb rfl hk (by omega) hl.2.2.2
    refine ⟨_, .stop (fun k => by have := k.2.1; omega), ?_⟩
    rw [last_b hl.2.2.1 (by rw [e2]; simp)]
    exact e2

/-- The whole of Lazy, for two sources. -/
theorem strm_side {m : Int} {A B A' B' : List Chk} (hr : (fullOf m A).length ≤ roomOf A) (hr' : (fullOf m A').length ≤ roomOf A') (he : (strm m A B).err = 0) (sa : Side A A' (strm m A B).ra) (sb : Side B B' (strm m A B).rb) : strm m A' B' = strm m A B :=
  (strm_runs hr').same ((strm_runs hr).side ⟨Nat.zero_le _, fun h => by cases h⟩ ⟨Nat.zero_le _, fun h => by cases h⟩ he sa sb)

theorem strm_needA {m : Int} {A B A' : List Chk} {r : Nat} (hr : (fullOf m A).length ≤ roomOf A) (hr' : (fullOf m A').length ≤ roomOf A') (he : (strm m A B).err = 0) (h : (strm m A B).ra = r + 1) (sa : Same A A' r) (hc : A'[r]? = some ((1 : Int), [])) : (strm m A' B).err = 2 := by
  obtain ⟨G', h1, h2⟩ := (strm_runs hr).needA ⟨Nat.zero_le _, fun h => by cases h⟩ ⟨Nat.zero_le _, fun h => by cases h⟩ he h (Nat.zero_le _) sa hc
  rw [(strm_runs hr').same h1]
  exact h2

theorem strm_needB {m : Int} {A B B' : List Chk} {r : Nat} (hr : (fullOf m A).length ≤ roomOf A) (he : (strm m A B).err = 0) (h : (strm m A B).rb = r + 1) (sb : Same B B' r) (hc : B'[r]? = some ((1 : Int), [])) : (strm m A B').err = 2 := by
  obtain ⟨G', h1, h2⟩ := (strm_runs hr).needB ⟨Nat.zero_le _, fun h => by cases h⟩ ⟨Nat.zero_le _, fun h => by cases h⟩ he h (Nat.zero_le _) sb hc
  rw [(strm_runs hr).same h1]
  exact h2

end Go.Proofs.YtmhaknejeobfgabGreatDoor
