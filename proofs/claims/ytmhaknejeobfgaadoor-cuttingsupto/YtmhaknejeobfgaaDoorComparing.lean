/- Compare: the order of two forms. Compare: what it tells of two texts. -/
import Derived.Test.YtmhaknejeobfgaaDoorKeys

/- Compare1. -/
namespace Go.Proofs.YtmhaknejeobfgaaDoor
open Go.RowKit Go.Proofs.YtmhaknejeobfgaaDoor.Stable Go.Proofs.YtmhaknejeobfgaaDoor.Order Go.Proofs.YtmhaknejeobfgaaDoor.Points
attribute [local go_sem ↓] Go.wp_at_zero Go.wp_at_succ

/-- -1, 0, 1. -/
def sgn (x y : Int) : Int := if x < y then -1 else if y < x then 1 else 0

theorem NoBytes.lt {w : World} {T : Nat → Prop} (h : NoBytes w T) {x : Nat} (hx : T x) : x < w.heap.size := by
  obtain ⟨cs, t, h, _⟩ := h x hx
  exact lt_of h

/-- The next code point, or -1. -/
def headE (l : List Int) : Int := l.headD (-1)

theorem sgn_sign {x y : Int} {a b : List Int} (h : x ≠ y) : sgn x y = signL (x :: a) (y :: b) := by
  unfold sgn signL
  by_cases h1 : x < y
  · rw [if_pos h1, if_pos h1]
  · rw [if_neg h1, if_neg h1, if_pos (by omega), if_pos (by omega)]

theorem sign_drop : ∀ (tk a b : List Int), signL (tk ++ a) (tk ++ b) = signL a b
  | [], _, _ => rfl
  | t :: tk, a, b => by
    rw [List.cons_append, List.cons_append]
    conv => lhs; unfold signL
    rw [if_neg (by omega), if_neg (by omega)]
    exact sign_drop tk a b

theorem sgn_heads {a b : List Int} (ha : ∀ c ∈ a, Valid c) (hb : ∀ c ∈ b, Valid c) (h : headE a ≠ headE b ∨ headE a = -1) : sgn (headE a) (headE b) = signL a b := by
  cases a with
  | nil =>
    cases b with
    | nil => rfl
    | cons y r' =>
      have := hb y (by simp)
      unfold Valid at this
      show sgn (-1) y = -1
      unfold sgn
      rw [if_pos (by omega)]
  | cons x r =>
    have hx := ha x (by simp)
    unfold Valid at hx
    cases b with
    | nil =>
      show sgn x (-1) = 1
      unfold sgn
      rw [if_neg (by omega), if_pos (by omega)]
    | cons y r' =>
      rcases h with h | h
      · exact sgn_sign h
      · have : x = -1 := h
        omega

theorem heads_go {a b : List Int} (ha : ∀ c ∈ a, Valid c) (hb : ∀ c ∈ b, Valid c) (h1 : headE a = headE b) (h2 : headE a ≠ -1) : ∃ x r r', a = x :: r ∧ b = x :: r' := by
  cases a with
  | nil => exact absurd rfl h2
  | cons x r =>
    cases b with
    | nil => exact absurd h1 h2
    | cons y r' =>
      have : x = y := h1
      subst this
      exact ⟨x, r, r', rfl, rfl⟩


end Go.Proofs.YtmhaknejeobfgaaDoor

/- Compare2. -/
namespace Go.Proofs.YtmhaknejeobfgaaDoor
open Go.RowKit Go.Proofs.YtmhaknejeobfgaaDoor.Stable Go.Proofs.YtmhaknejeobfgaaDoor.Order Go.Proofs.YtmhaknejeobfgaaDoor.Points
attribute [local go_sem ↓] Go.wp_at_zero Go.wp_at_succ

/-- The order of two texts in a mode. -/
def cmpL (m : Int) (a b : List UInt8) : Int := signL (form m (codes a)) (form m (codes b))

/-- The stages that Of has made, still there. -/
def Made (w0 w : World) (m : Int) (b0 B n : Nat) (cs : Array Value) : Prop :=
  w0.heap.size ≤ b0 ∧ w.heap[b0]? = some (.cells cs 49 (0, 0)) ∧ cs.size = 8 * n ∧ Fresh cs B m n ∧ TabIn w b0 B ∧ Fr (fun _ => False) w0 w

theorem Made.kept {w0 w w' : World} {m : Int} {b0 B n : Nat} {cs : Array Value} (h : Made w0 w m b0 B n cs) (f : Fr (fun _ => False) w w') : Made w0 w' m b0 B n cs := by
  obtain ⟨p1, p2, p3, p4, p5, p6⟩ := h
  exact ⟨p1, (f.block b0 (lt_of p2) id).trans p2, p3, p4, p5.kept f (fun _ _ => id), p6.trans f (fun _ _ h => h)⟩


end Go.Proofs.YtmhaknejeobfgaaDoor
