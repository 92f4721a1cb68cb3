/- Compare: the order of two forms. Compare: what it tells of two texts. -/
import Derived.Test.YtmhaknejeobfgabGreatDoorKeys

/- Compare1. -/
namespace Go.Proofs.YtmhaknejeobfgabGreatDoor
open Go.RowKit Go.Proofs.YtmhaknejeobfgabGreatDoor.Stable Go.Proofs.YtmhaknejeobfgabGreatDoor.Order Go.Proofs.YtmhaknejeobfgabGreatDoor.Points
attribute [local go_sem ↓] Go.wp_at_zero Go.wp_at_succ

set_option maxRecDepth 100000 in
theorem nan_calls (x : Int) (w : World) : Calls Tryz.prog 90 #[.int .i32 x] w fun e w' => e = .returned (.bool false) ∧ w' = w := by
  go_enter Tryz.func90, Tryz.ntmps90
  go_wp2
  go_ret
  exact ⟨by simp, rfl⟩

/-- -1, 0, 1. -/
def sgn (x y : Int) : Int := if x < y then -1 else if y < x then 1 else 0

set_option maxRecDepth 100000 in
theorem cmpRune_calls (x y : Int) (w : World) : Calls Tryz.prog 64 #[.int .i32 x, .int .i32 y] w fun e w' => e = .returned (.int .i64 (sgn x y)) ∧ w' = w := by
  rcases (by omega : x < y ∨ (y ≤ x ∧ y < x) ∨ (y ≤ x ∧ x ≤ y)) with h | ⟨h, h'⟩ | ⟨h, h'⟩
  · have hs : sgn x y = -1 := by unfold sgn; rw [if_pos h]
    have HS : Hid (sgn x y = -1) := hs
    clear hs
    go_enter Tryz.func64, Tryz.ntmps64
    go_wp2_with (first
      | (go_at_call_of 90 (Value.int .i32 x); refine (nan_calls x _).mono ?_; rintro e w' ⟨rfl, hw⟩; have hw' := hw.symm; subst hw'; clear hw)
      | (go_at_call_of 90 (Value.int .i32 y); refine (nan_calls y _).mono ?_; rintro e w' ⟨rfl, hw⟩; have hw' := hw.symm; subst hw'; clear hw))
    go_ret
    rw [HS.out]
    exact ⟨rfl, rfl⟩
  · have hs : sgn x y = 1 := by unfold sgn; rw [if_neg (by omega), if_pos h']
    have HS : Hid (sgn x y = 1) := hs
    clear hs
    go_enter Tryz.func64, Tryz.ntmps64
    go_wp2_with (first
      | (go_at_call_of 90 (Value.int .i32 x); refine (nan_calls x _).mono ?_; rintro e w' ⟨rfl, hw⟩; have hw' := hw.symm; subst hw'; clear hw)
      | (go_at_call_of 90 (Value.int .i32 y); refine (nan_calls y _).mono ?_; rintro e w' ⟨rfl, hw⟩; have hw' := hw.symm; subst hw'; clear hw))
    go_ret
    rw [HS.out]
    exact ⟨rfl, rfl⟩
  · have hs : sgn x y = 0 := by unfold sgn; rw [if_neg (by omega), if_neg (by omega)]
    have HS : Hid (sgn x y = 0) := hs
    clear hs
    go_enter Tryz.func64, Tryz.ntmps64
    go_wp2_with (first
      | (go_at_call_of 90 (Value.int .i32 x); refine (nan_calls x _).mono ?_; rintro e w' ⟨rfl, hw⟩; have hw' := hw.symm; subst hw'; clear hw)
      | (go_at_call_of 90 (Value.int .i32 y); refine (nan_calls y _).mono ?_; rintro e w' ⟨rfl, hw⟩; have hw' := hw.symm; subst hw'; clear hw))
    go_ret
    rw [HS.out]
    exact ⟨rfl, rfl⟩

theorem Fetched.cons {w w' : World} {hi br : Nat} {F tk r : List Int} {T : Nat → Prop} {x c : Int} (h : Fetched w w' hi br F tk T c) (hF : F = tk ++ x :: r) : c = x ∧ RdIs w' hi br F (tk ++ [x]) (fun x => T x ∨ w.heap.size ≤ x) ∧ Fr T w w' := by
  obtain ⟨h1, h2⟩ := h
  rcases h1 with ⟨r', e, h1⟩ | ⟨e, _, _⟩
  · rw [hF] at e
    have := List.append_cancel_left e
    cases this
    exact ⟨rfl, h1, h2⟩
  · rw [hF] at e
    have := congrArg List.length e
    simp at this

theorem Fetched.nil {w w' : World} {hi br : Nat} {F tk : List Int} {T : Nat → Prop} {c : Int} (h : Fetched w w' hi br F tk T c) (hF : F = tk) : c = -1 ∧ RdIs w' hi br F tk (fun x => T x ∨ w.heap.size ≤ x) ∧ Fr T w w' := by
  obtain ⟨h1, h2⟩ := h
  rcases h1 with ⟨r', e, h1⟩ | ⟨e, e2, h1⟩
  · rw [hF] at e
    have := congrArg List.length e
    simp at this
  · exact ⟨e2, h1, h2⟩

/-- Two readers, of which none touches the other's memory. -/
def Pair (w wr : World) (hi ba bb : Nat) (F G ta tb : List Int) : Prop :=
  ∃ Ta Tb, RdIs wr hi ba F ta Ta ∧ RdIs wr hi bb G tb Tb ∧ (∀ x, Ta x → ¬ Tb x) ∧ (∀ x, Ta x ∨ Tb x → x < wr.heap.size ∧ w.heap.size ≤ x ∧ hi ≤ x) ∧ Fr (fun _ => False) w wr ∧ hi ≤ wr.heap.size

theorem NoBytes.lt {w : World} {T : Nat → Prop} (h : NoBytes w T) {x : Nat} (hx : T x) : x < w.heap.size := by
  obtain ⟨cs, t, h, _⟩ := h x hx
  exact lt_of h

theorem Pair.swap {w wr : World} {hi ba bb : Nat} {F G ta tb : List Int} (h : Pair w wr hi ba bb F G ta tb) : Pair w wr hi bb ba G F tb ta := by
  obtain ⟨Ta, Tb, p1, p2, p3, p4, p5, p6⟩ := h
  exact ⟨Tb, Ta, p2, p1, fun x hx hy => p3 x hy hx, fun x hx => p4 x hx.symm, p5, p6⟩

/-- The next code point, or -1. -/
def headE (l : List Int) : Int := l.headD (-1)

theorem Pair.fetch {w wr w1 : World} {hi ba bb : Nat} {F G tb ta' : List Int} {Ta Tb : Nat → Prop} (hb : RdIs wr hi bb G tb Tb) (hd : ∀ x, Ta x → ¬ Tb x) (hl : ∀ x, Ta x ∨ Tb x → x < wr.heap.size ∧ w.heap.size ≤ x ∧ hi ≤ x) (hf : Fr (fun _ => False) w wr) (hh : hi ≤ wr.heap.size) (ha : RdIs w1 hi ba F ta' (fun x => Ta x ∨ wr.heap.size ≤ x)) (f : Fr Ta wr w1) : Pair w w1 hi ba bb F G ta' tb := by
  obtain ⟨T1, k1, k2, k3⟩ := ha.tight
  have hs := f.size
  have hw := hf.size
  refine ⟨T1, Tb, k1, hb.kept f (fun x hx h => hd x h hx) (fun x hx h => by have := (hl x (.inl h)).2.2; omega), fun x hx hy => ?_, fun x hx => ?_, hf.trans f (fun i hi h => by have := (hl i (.inl h)).2.1; omega), by omega⟩
  · rcases k2 x hx with h | h
    · exact hd x h hy
    · have := (hl x (.inr hy)).1; omega
  · rcases hx with hx | hx
    · refine ⟨k3.lt hx, ?_⟩
      rcases k2 x hx with h | h
      · exact (hl x (.inl h)).2
      · exact ⟨by omega, by omega⟩
    · have := hl x (.inr hx)
      exact ⟨by omega, this.2⟩

theorem fetchA {w wr : World} {hi ba bb : Nat} {F G ta tb : List Int} (F' : List Int) (H : Pair w wr hi ba bb F G ta tb) (hF : F = ta ++ F') :
    Calls Tryz.prog 49 #[.pointer (some ⟨ba, 0, none⟩)] wr fun e w1 => e = .returned (.int .i32 (headE F')) ∧ Pair w w1 hi ba bb F G (ta ++ F'.take 1) tb := by
  obtain ⟨Ta, Tb, p1, p2, p3, p4, p5, p6⟩ := H
  refine (fetch_calls p1).mono ?_
  rintro e w1 ⟨c, rfl, hFe⟩
  cases F' with
  | nil =>
    rw [List.append_nil] at hF
    obtain ⟨rfl, k1, k2⟩ := hFe.nil hF
    refine ⟨rfl, ?_⟩
    rw [List.take_nil, List.append_nil]
    exact Pair.fetch p2 p3 p4 p5 p6 k1 k2
  | cons x r =>
    obtain ⟨rfl, k1, k2⟩ := hFe.cons hF
    exact ⟨rfl, Pair.fetch p2 p3 p4 p5 p6 k1 k2⟩

theorem fetchB {w wr : World} {hi ba bb : Nat} {F G ta tb : List Int} (G' : List Int) (H : Pair w wr hi ba bb F G ta tb) (hG : G = tb ++ G') :
    Calls Tryz.prog 49 #[.pointer (some ⟨bb, 0, none⟩)] wr fun e w1 => e = .returned (.int .i32 (headE G')) ∧ Pair w w1 hi ba bb F G ta (tb ++ G'.take 1) := by
  refine (fetchA G' H.swap hG).mono ?_
  rintro e w1 ⟨rfl, h⟩
  exact ⟨rfl, h.swap⟩

theorem sgn_sign {x y : Int} {a b : List Int} (h : x ≠ y) : sgn x y = signL (x :: a) (y :: b) := by
  unfold sgn signL
  by_cases h1 : x < y
  · rw [if_pos h1, if_pos h1]
  · rw [if_neg h1, if_neg h1, if_pos (by omega), if_pos (by omega)]

theorem sign_drop : ∀ (tk a b : List Int), signL (tk ++ a) (tk ++ b) = signL a b
  | [], _, _ => rfl
  | t :: tk, a, b => by
    rw [List.cons_append, List.cons_append]
    conv => lhs; unfold signL
    rw [if_neg (by omega), if_neg (by omega)]
    exact sign_drop tk a b

theorem sgn_heads {a b : List Int} (ha : ∀ c ∈ a, Valid c) (hb : ∀ c ∈ b, Valid c) (h : headE a ≠ headE b ∨ headE a = -1) : sgn (headE a) (headE b) = signL a b := by
  cases a with
  | nil =>
    cases b with
    | nil => rfl
    | cons y r' =>
      have := hb y (by simp)
      unfold Valid at this
      show sgn (-1) y = -1
      unfold sgn
      rw [if_pos (by omega)]
  | cons x r =>
    have hx := ha x (by simp)
    unfold Valid at hx
    cases b with
    | nil =>
      show sgn x (-1) = 1
      unfold sgn
      rw [if_neg (by omega), if_pos (by omega)]
    | cons y r' =>
      rcases h with h | h
      · exact sgn_sign h
      · have : x = -1 := h
        omega

theorem heads_go {a b : List Int} (ha : ∀ c ∈ a, Valid c) (hb : ∀ c ∈ b, Valid c) (h1 : headE a = headE b) (h2 : headE a ≠ -1) : ∃ x r r', a = x :: r ∧ b = x :: r' := by
  cases a with
  | nil => exact absurd rfl h2
  | cons x r =>
    cases b with
    | nil => exact absurd h1 h2
    | cons y r' =>
      have : x = y := h1
      subst this
      exact ⟨x, r, r', rfl, rfl⟩

set_option maxRecDepth 100000 in
set_option maxHeartbeats 1600000 in
theorem order_calls {w0 w : World} {hi ba bb : Nat} {F G : List Int} (hF : ∀ c ∈ F, Valid c) (hG : ∀ c ∈ G, Valid c) (H : Pair w0 w hi ba bb F G [] []) :
    Calls Tryz.prog 35 #[.pointer (some ⟨ba, 0, none⟩), .pointer (some ⟨bb, 0, none⟩)] w fun e w' => e = .returned (.int .i64 (signL F G)) ∧ Fr (fun _ => False) w0 w' := by
  have HF : Hid ((∀ c ∈ F, Valid c) ∧ ∀ c ∈ G, Valid c) := ⟨hF, hG⟩
  have HP : Hid (Pair w0 w hi ba bb F G [] []) := H
  clear hF hG H
  go_enter Tryz.func35, Tryz.ntmps35
  go_wp2
  go_loopg [5, 6] F.length (fun g _ _ wr => ∃ tk F' G', g = F'.length ∧ F = tk ++ F' ∧ G = tk ++ G' ∧ Hid (Pair w0 wr hi ba bb F G tk tk))
  case atStart => exact ⟨[], F, G, rfl, rfl, rfl, HP.out⟩
  case round =>
    obtain ⟨tk, F', G', eg, eF, eG, hh⟩ := hrel
    have hvF : ∀ c ∈ F', Valid c := fun c hc => HF.out.1 c (by rw [eF]; simp [hc])
    have hvG : ∀ c ∈ G', Valid c := fun c hc => HF.out.2 c (by rw [eG]; simp [hc])
    have hsg : signL F G = signL F' G' := by rw [eF, eG, sign_drop]
    have HEQ : Hid (F = tk ++ F' ∧ G = tk ++ G' ∧ gk = F'.length ∧ signL F G = signL F' G' ∧ (∀ c ∈ F', Valid c) ∧ ∀ c ∈ G', Valid c) := ⟨eF, eG, eg, hsg, hvF, hvG⟩
    obtain ⟨c, hc⟩ : ∃ c, c = headE F' := ⟨_, rfl⟩
    obtain ⟨d, hd⟩ : ∃ d, d = headE G' := ⟨_, rfl⟩
    have HCD : Hid (c = headE F' ∧ d = headE G') := ⟨hc, hd⟩
    clear eF eG eg hsg hvF hvG hc hd
    by_cases hgo : c = d ∧ c ≠ -1
    · have b1 : (c != d) = false := by rw [bne_eq_false_iff_eq]; exact hgo.1
      have b2 : (c == -1) = false := by rw [beq_eq_false_iff_ne]; exact hgo.2
      have HGO : Hid (c = d ∧ c ≠ -1) := hgo
      clear hgo
      go_wp2_with (first
        | (go_at_call_of 49 (Value.pointer (some ⟨ba, 0, none⟩)); refine (fetchA F' hh.out HEQ.out.1).mono ?_; rw [← HCD.out.1]; rintro e w1 ⟨rfl, h1⟩; have H1 : Hid (Pair w0 w1 hi ba bb F G (tk ++ F'.take 1) tk) := h1; clear h1)
        | (go_at_call_of 49 (Value.pointer (some ⟨bb, 0, none⟩)); refine (fetchB G' H1.out HEQ.out.2.1).mono ?_; rw [← HCD.out.2]; rintro e w2 ⟨rfl, h2⟩; have H2 : Hid (Pair w0 w2 hi ba bb F G (tk ++ F'.take 1) (tk ++ G'.take 1)) := h2; clear h2))
      obtain ⟨x, r, r', e1, e2⟩ := heads_go HEQ.out.2.2.2.2.1 HEQ.out.2.2.2.2.2 (by rw [← HCD.out.1, ← HCD.out.2]; exact HGO.out.1) (by rw [← HCD.out.1]; exact HGO.out.2)
      go_roundg r.length
      case measure =>
        have := HEQ.out.2.2.1
        rw [e1] at this
        simp at this
        omega
      case rel =>
        refine ⟨tk ++ [x], r, r', rfl, by rw [HEQ.out.1, e1]; simp, by rw [HEQ.out.2.1, e2]; simp, ?_⟩
        have := H2.out
        rw [e1, e2] at this
        exact this
    · have hcd : c ≠ d ∨ c = -1 := by
        by_cases h : c = d
        · right
          by_cases h2 : c = -1
          · exact h2
          · exact absurd ⟨h, h2⟩ hgo
        · exact .inl h
      have HS : Hid (sgn c d = signL F G) := by
        rw [HEQ.out.2.2.2.1, HCD.out.1, HCD.out.2]
        exact sgn_heads HEQ.out.2.2.2.2.1 HEQ.out.2.2.2.2.2 (by rw [← HCD.out.1, ← HCD.out.2]; exact hcd)
      by_cases hne : c = d
      · have b1 : (c != d) = false := by rw [bne_eq_false_iff_eq]; exact hne
        have b2 : (c == -1) = true := by
          rw [beq_iff_eq]
          rcases hcd with h | h
          · exact absurd hne h
          · exact h
        clear hne hcd hgo
        go_wp2_with (first
          | (go_at_call_of 49 (Value.pointer (some ⟨ba, 0, none⟩)); refine (fetchA F' hh.out HEQ.out.1).mono ?_; rw [← HCD.out.1]; rintro e w1 ⟨rfl, h1⟩; have H1 : Hid (Pair w0 w1 hi ba bb F G (tk ++ F'.take 1) tk) := h1; clear h1)
          | (go_at_call_of 49 (Value.pointer (some ⟨bb, 0, none⟩)); refine (fetchB G' H1.out HEQ.out.2.1).mono ?_; rw [← HCD.out.2]; rintro e w2 ⟨rfl, h2⟩; have H2 : Hid (Pair w0 w2 hi ba bb F G (tk ++ F'.take 1) (tk ++ G'.take 1)) := h2; clear h2)
          | (go_at_call 64; refine (cmpRune_calls c d _).mono ?_; rw [HS.out]; rintro e w3 ⟨rfl, hw⟩; have hw' := hw.symm; subst hw'; clear hw))
        go_ret
        obtain ⟨_, _, _, _, _, _, hf, _⟩ := H2.out
        exact ⟨rfl, hf⟩
      · have b1 : (c != d) = true := by rw [bne_iff_ne]; exact hne
        clear hne hcd hgo
        go_wp2_with (first
          | (go_at_call_of 49 (Value.pointer (some ⟨ba, 0, none⟩)); refine (fetchA F' hh.out HEQ.out.1).mono ?_; rw [← HCD.out.1]; rintro e w1 ⟨rfl, h1⟩; have H1 : Hid (Pair w0 w1 hi ba bb F G (tk ++ F'.take 1) tk) := h1; clear h1)
          | (go_at_call_of 49 (Value.pointer (some ⟨bb, 0, none⟩)); refine (fetchB G' H1.out HEQ.out.2.1).mono ?_; rw [← HCD.out.2]; rintro e w2 ⟨rfl, h2⟩; have H2 : Hid (Pair w0 w2 hi ba bb F G (tk ++ F'.take 1) (tk ++ G'.take 1)) := h2; clear h2)
          | (go_at_call 64; refine (cmpRune_calls c d _).mono ?_; rw [HS.out]; rintro e w3 ⟨rfl, hw⟩; have hw' := hw.symm; subst hw'; clear hw))
        go_ret
        obtain ⟨_, _, _, _, _, _, hf, _⟩ := H2.out
        exact ⟨rfl, hf⟩

end Go.Proofs.YtmhaknejeobfgabGreatDoor

/- Compare2. -/
namespace Go.Proofs.YtmhaknejeobfgabGreatDoor
open Go.RowKit Go.Proofs.YtmhaknejeobfgabGreatDoor.Stable Go.Proofs.YtmhaknejeobfgabGreatDoor.Order Go.Proofs.YtmhaknejeobfgabGreatDoor.Points
attribute [local go_sem ↓] Go.wp_at_zero Go.wp_at_succ

/-- The order of two texts in a mode. -/
def cmpL (m : Int) (a b : List UInt8) : Int := signL (form m (codes a)) (form m (codes b))

set_option maxRecDepth 100000 in
theorem compare_none (m : Int) (a b : ByteArray) (w : World) (h : m < 0 ∨ 3 < m) :
    Calls Tryz.prog 15 #[.int .i64 m, .string a, .string b] w fun e w' => e = .returned (.tuple #[.int .i64 0, .int .i64 1]) ∧ w' = w := by
  have HM : Hid (m < 0 ∨ 3 < m) := h
  clear h
  go_enter Tryz.func15, Tryz.ntmps15
  go_wp2_with (go_at_call 24; refine (of_none m _ HM.out).mono ?_; rintro e w' ⟨rfl, hw⟩; have hw' := hw.symm; subst hw'; clear hw)
  go_ret2
  exact ⟨rfl, rfl⟩

/-- The stages that Of has made, still there. -/
def Made (w0 w : World) (m : Int) (b0 B n : Nat) (cs : Array Value) : Prop :=
  w0.heap.size ≤ b0 ∧ w.heap[b0]? = some (.cells cs 108 (0, 0)) ∧ cs.size = 8 * n ∧ Fresh cs B m n ∧ TabIn w b0 B ∧ Fr (fun _ => False) w0 w

theorem Made.kept {w0 w w' : World} {m : Int} {b0 B n : Nat} {cs : Array Value} (h : Made w0 w m b0 B n cs) (f : Fr (fun _ => False) w w') : Made w0 w' m b0 B n cs := by
  obtain ⟨p1, p2, p3, p4, p5, p6⟩ := h
  exact ⟨p1, (f.block b0 (lt_of p2) id).trans p2, p3, p4, p5.kept f (fun _ _ => id), p6.trans f (fun _ _ h => h)⟩

/-- Begin over what Of has made. -/
theorem begin_made {w0 w : World} {m : Int} {b0 B n bw : Nat} {cs : Array Value} {s : ByteArray} (h0 : 0 ≤ m) (h3 : m ≤ 3) (hn : (kindL m).length = n) (hE : Env w0) (H : Made w0 w m b0 B n cs) (hbw : b0 ≤ bw) (hw : w.heap[bw]? = some (.cells #[.string s] 126 (0, 0))) (hbd : 432 * s.data.toList.length ≤ 1099511627776) :
    Calls Tryz.prog 25 #[.slice (some ⟨b0, 0, none⟩) n n, .iface 83 (.pointer (some ⟨bw, 0, none⟩))] w fun e w' => ∃ br, e = .returned (.pointer (some ⟨br, 0, none⟩)) ∧ (∃ T, RdIs w' b0 br (form m (codes s.data.toList)) [] T ∧ (∀ x, T x → x < w'.heap.size ∧ (x = bw ∨ w.heap.size ≤ x))) ∧ Fr (fun _ => False) w w' := by
  obtain ⟨p1, p2, p3, p4, p5, p6⟩ := H
  refine (begin_calls h0 h3 hn (hE.kept p6 (fun _ _ => id)) (by have := hE.size; omega) hbw hw p5 p4 hbd p2 p3).mono ?_
  rintro e w' ⟨br, rfl, q1, q2⟩
  obtain ⟨T, k1, k2, k3⟩ := q1.tight
  exact ⟨br, rfl, ⟨T, k1, fun x hx => ⟨k3.lt hx, k2 x hx⟩⟩, q2⟩

set_option maxRecDepth 100000 in
set_option maxHeartbeats 1600000 in
theorem compare_calls (m : Int) (a b : ByteArray) (w : World) (h0 : 0 ≤ m) (h3 : m ≤ 3) (hE : Env w) (ha : 432 * a.data.toList.length ≤ 1099511627776) (hb : 432 * b.data.toList.length ≤ 1099511627776) :
    Calls Tryz.prog 15 #[.int .i64 m, .string a, .string b] w fun e w' => e = .returned (.tuple #[.int .i64 (cmpL m a.data.toList b.data.toList), .int .i64 0]) ∧ Fr (fun _ => False) w w' := by
  have hFv : ∀ c ∈ form m (codes a.data.toList), Valid c := form_valid (codes_valid _)
  have hGv : ∀ c ∈ form m (codes b.data.toList), Valid c := form_valid (codes_valid _)
  have HM : Hid (0 ≤ m ∧ m ≤ 3 ∧ 432 * a.data.toList.length ≤ 1099511627776 ∧ 432 * b.data.toList.length ≤ 1099511627776) := ⟨h0, h3, ha, hb⟩
  have HE : Hid (Env w) := hE
  have HV : Hid ((∀ c ∈ form m (codes a.data.toList), Valid c) ∧ ∀ c ∈ form m (codes b.data.toList), Valid c) := ⟨hFv, hGv⟩
  obtain ⟨n, hn⟩ : ∃ n, (kindL m).length = n := ⟨_, rfl⟩
  have HN : Hid ((kindL m).length = n) := hn
  clear hE h0 h3 ha hb hFv hGv hn
  go_enter Tryz.func15, Tryz.ntmps15
  go_wp2_with (first
    | (go_at_call 24; refine (of_calls m _ HM.out.1 HM.out.2.1 HE.out).mono ?_; rintro e w1 ⟨b0, B, cs, rfl, p1, p2, p3, p4, p5, p6⟩; rw [HN.out] at p3 p4 ⊢; have HP : Hid (Made w w1 m b0 B n cs) := ⟨p1, p2, p3, p4, p5, p6⟩; clear p1 p2 p3 p4 p5 p6)
    | (go_at_call_of 36 (Value.string a); refine (newWhole_calls w1 a).mono ?_; rintro e w2 ⟨rfl, hw2⟩; have HW2 : Hid (w2.heap[w1.heap.size]? = some (.cells #[.string a] 126 (0, 0)) ∧ Fr (fun _ => False) w1 w2 ∧ w2.heap.size = w1.heap.size + 1) := ⟨hw2 ▸ heap_alloc_new w1 _, hw2 ▸ (Fr.refl _ _).alloc _, hw2 ▸ (by simp)⟩; clear hw2)
    | (go_at_call 25; refine (begin_made HM.out.1 HM.out.2.1 HN.out HE.out (HP.out.kept HW2.out.2.1) (Nat.le_of_lt (lt_of HP.out.2.1)) HW2.out.1 HM.out.2.2.1).mono ?_; rintro e w3 ⟨ba, rfl, q1, q2⟩; have HQ : Hid ((∃ T, RdIs w3 b0 ba (form m (codes a.data.toList)) [] T ∧ (∀ x, T x → x < w3.heap.size ∧ (x = w1.heap.size ∨ w2.heap.size ≤ x))) ∧ Fr (fun _ => False) w2 w3) := ⟨q1, q2⟩; clear q1 q2))
  go_wp2_with (first
    | (go_at_call_of 36 (Value.string b); refine (newWhole_calls w3 b).mono ?_; rintro e w4 ⟨rfl, hw4⟩; have HW4 : Hid (w4.heap[w3.heap.size]? = some (.cells #[.string b] 126 (0, 0)) ∧ Fr (fun _ => False) w3 w4 ∧ w4.heap.size = w3.heap.size + 1) := ⟨hw4 ▸ heap_alloc_new w3 _, hw4 ▸ (Fr.refl _ _).alloc _, hw4 ▸ (by simp)⟩; clear hw4)
    | (go_at_call 25; refine (begin_made HM.out.1 HM.out.2.1 HN.out HE.out (((HP.out.kept HW2.out.2.1).kept HQ.out.2).kept HW4.out.2.1) (Nat.le_of_lt (lt_of ((HP.out.kept HW2.out.2.1).kept HQ.out.2).2.1)) HW4.out.1 HM.out.2.2.2).mono ?_; rintro e w5 ⟨bb, rfl, q1, q2⟩; have HQ5 : Hid ((∃ T, RdIs w5 b0 bb (form m (codes b.data.toList)) [] T ∧ (∀ x, T x → x < w5.heap.size ∧ (x = w3.heap.size ∨ w4.heap.size ≤ x))) ∧ Fr (fun _ => False) w4 w5) := ⟨q1, q2⟩; clear q1 q2))
  have HPR : Hid (Pair w w5 b0 ba bb (form m (codes a.data.toList)) (form m (codes b.data.toList)) [] []) := by
    obtain ⟨⟨Ta, a1, a2⟩, a3⟩ := HQ.out
    obtain ⟨⟨Tb, b1, b2⟩, b3⟩ := HQ5.out
    have m5 := (((HP.out.kept HW2.out.2.1).kept HQ.out.2).kept HW4.out.2.1).kept b3
    have hb0 := lt_of HP.out.2.1
    have s1 := HP.out.2.2.2.2.2.size
    have s2 := HW2.out.2.2
    have s3 := a3.size
    have s4 := HW4.out.2.2
    have s5 := b3.size
    have f35 : Fr (fun _ => False) w3 w5 := HW4.out.2.1.trans b3 (fun _ _ h => h)
    refine ⟨Ta, Tb, a1.kept f35 (fun _ _ => id) (fun _ _ => id), b1, fun x hx hy => ?_, fun x hx => ?_, m5.2.2.2.2.2, by omega⟩
    · have := a2 x hx
      have := b2 x hy
      omega
    · rcases hx with hx | hx
      · have := a2 x hx
        omega
      · have := b2 x hx
        omega
  go_wp2_with (go_at_call 35; refine (order_calls (w0 := w) (hi := b0) HV.out.1 HV.out.2 HPR.out).mono ?_; rintro e w6 ⟨rfl, hf6⟩)
  go_ret2
  exact ⟨rfl, hf6⟩

end Go.Proofs.YtmhaknejeobfgabGreatDoor
