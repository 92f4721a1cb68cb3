/- A stage in memory, and its Release: the marks that wait go, ordered by class, behind what is released. A stage's Release. A stage's place: a mark waits, a starter is released behind the marks that wait. A stage's foldingOf, and takeApart: what a code point is taken apart into is placed, one behind the other. A stage's Put and Take. -/
import Derived.Test.YtmhaknejeobfgaaDoorSorts
import Derived.Test.YtmhaknejeobfgaaDoorQueues
import Derived.Test.YtmhaknejeobfgaaDoorBase
import Derived.Test.YtmhaknejeobfgaaDoorTables
import Derived.Deep.RegionHeld3
import Derived.Deep.RegionWith

/- Stage1. -/
namespace Go.Proofs.YtmhaknejeobfgaaDoor
open Go.RowKit Go.Proofs.YtmhaknejeobfgaaDoor.Stable
attribute [local go_sem ↓] Go.wp_at_zero Go.wp_at_succ
variable {mo : Nat}

/-- A stage at os of the block bs, whose cells are cs: its table, its two switches, the marks that wait and what is released; mo: the most marks that waited at one time. -/
structure StageIs (mo : Nat) (w : World) (hi bs : Nat) (cs : Array Value) (os B : Nat) (compat folds : Bool) (gm gr : Option Nat) (ms rs : List Int) (N : Nat) : Prop where
  tab : TabIn w hi B
  c0 : cs[os]? = some (.map (some B))
  c1 : cs[os + 1]? = some (.bool compat)
  c2 : cs[os + 2]? = some (.bool folds)
  qm : QIs w .i32 21 cs (os + 3) gm ms N
  c5 : cs[os + 5]? = some (.int .i64 mo)
  qr : QIs w .i32 21 cs (os + 6) gr rs N
  gmb : gm ≠ some bs
  grb : gr ≠ some bs
  gmr : ∀ x, gm = some x → gr ≠ some x
  him : ∀ x, gm = some x → hi ≤ x
  hir : ∀ x, gr = some x → hi ≤ x
  hib : hi ≤ bs

/-- The row of a queue behind the sort. -/
theorem SO.queue {w W : World} {cs : Array Value} {o g c : Nat} {pre xs ys : List Int} {N : Nat} (h0 : cs[o]? = some (.slice (some ⟨g, 0, none⟩) (pre.length + xs.length) c)) (h1 : cs[o + 1]? = some (.int .i64 pre.length))
    (hr : w.ownsRow 0 21 1 (.slice (some ⟨g, 0, none⟩) (pre.length + xs.length) c) (pre.length + xs.length) ((pre ++ xs).map (Value.int .i32))) (hl : ys.length = xs.length) (hn : pre.length + xs.length ≤ N) (he : xs = [] → pre = []) (S : SO w g pre.length ys W) :
    QIs W .i32 21 cs o (some g) ys N := by
  obtain ⟨_, cur0, cur, e, k0, k1, k2, k3, k4⟩ := S
  rcases row_cases hr with ⟨h, _⟩ | ⟨g', cap, cur', h, hgg, q1, q2, q3, q4, q5⟩
  · cases h
  · cases h
    rw [hgg] at k0
    cases k0
    refine ⟨.slice (some ⟨g, 0, none⟩) (pre.length + xs.length) c, pre, h0, h1, ?_, rfl, by omega, fun h => he (List.length_eq_zero_iff.1 (by rw [← hl, h]; rfl))⟩
    rw [hl]
    refine row_mk (cur := cur) k1 q1 q2 (by omega) (by simp; omega) (fun j hj => ?_)
    by_cases hjp : j < pre.length
    · rw [k3 j (.inl hjp), q5 j hj, List.getElem?_append_left hjp, List.getElem?_append_left hjp]
    · obtain ⟨i, rfl⟩ : ∃ i, j = pre.length + i := ⟨j - pre.length, by omega⟩
      rw [k4 i (by omega), List.getElem?_append_right (by omega), show pre.length + i - pre.length = i by omega]

/-- The row's block: as it was, or new. -/
def NewOr (w : World) (g g' : Option Nat) : Prop := g' = g ∨ ∃ y, g' = some y ∧ w.heap.size ≤ y

/-- What a stage's method leaves. -/
def StageLeft (mo : Nat) (w w' : World) (hi bs : Nat) (cs : Array Value) (t : TypeId) (os B : Nat) (compat folds : Bool) (gm gr : Option Nat) (ms rs : List Int) (N : Nat) : Prop :=
  ∃ cs' gm' gr', w'.heap[bs]? = some (.cells cs' t (0, 0)) ∧ cs'.size = cs.size ∧ (∀ i, i < os + 3 ∨ os + 8 ≤ i → cs'[i]? = cs[i]?) ∧ StageIs mo w' hi bs cs' os B compat folds gm' gr' ms rs N ∧ NewOr w gm gm' ∧ NewOr w gr gr' ∧ Fr (fun x => x = bs ∨ some x = gm ∨ some x = gr) w w'

theorem StageIs.kept {w w' : World} {hi bs : Nat} {cs : Array Value} {os B : Nat} {compat folds : Bool} {gm gr : Option Nat} {ms rs : List Int} {N : Nat} (h : StageIs mo w hi bs cs os B compat folds gm gr ms rs N) {S : Nat → Prop} (hf : Fr S w w') (hS : ∀ x, x < hi → ¬ S x) (hm : ∀ x, gm = some x → ¬ S x) (hr : ∀ x, gr = some x → ¬ S x) : StageIs mo w' hi bs cs os B compat folds gm gr ms rs N :=
  { h with tab := h.tab.kept hf hS, qm := h.qm.kept hf hm, qr := h.qr.kept hf hr }


end Go.Proofs.YtmhaknejeobfgaaDoor

/- Stage2. -/
namespace Go.Proofs.YtmhaknejeobfgaaDoor
open Go.RowKit Go.Proofs.YtmhaknejeobfgaaDoor.Stable
attribute [local go_sem ↓] Go.wp_at_zero Go.wp_at_succ
variable {mo : Nat}

theorem StageLeft.to {w w' : World} {hi bs : Nat} {cs : Array Value} {t : TypeId} {os B : Nat} {compat folds : Bool} {gm gr : Option Nat} {ms rs : List Int} {N : Nat} {o : Obj} (h : StageLeft mo (w.alloc o) w' hi bs cs t os B compat folds gm gr ms rs N) : StageLeft mo w w' hi bs cs t os B compat folds gm gr ms rs N := by
  obtain ⟨cs', gm', gr', h1, h2, h3, h4, h5, h6, h7⟩ := h
  have up : ∀ {g g' : Option Nat}, NewOr (w.alloc o) g g' → NewOr w g g' := fun h => by
    rcases h with h | ⟨y, h, hy⟩
    · exact .inl h
    · exact .inr ⟨y, h, by simp at hy; omega⟩
  exact ⟨cs', gm', gr', h1, h2, h3, h4, up h5, up h6, ((Fr.refl _ w).alloc o).trans h7 (fun _ _ h => h)⟩


end Go.Proofs.YtmhaknejeobfgaaDoor

/- Stage3. -/
namespace Go.Proofs.YtmhaknejeobfgaaDoor
open Go.RowKit Go.Proofs.YtmhaknejeobfgaaDoor.Stable Go.Proofs.YtmhaknejeobfgaaDoor.Order
attribute [local go_sem ↓] Go.wp_at_zero Go.wp_at_succ
variable {mo : Nat}

/-- What a stage's method leaves that placed l; M bounds what ever went into its queues. -/
def Fed (mo : Nat) (w w' : World) (hi bs : Nat) (cs : Array Value) (t : TypeId) (os B : Nat) (compat folds : Bool) (gm gr : Option Nat) (ms rs l : List Int) (M : Nat) : Prop :=
  ∃ N, StageLeft (heldF mo ms l) w w' hi bs cs t os B compat folds gm gr (feed clsOf ms l).1 (rs ++ (feed clsOf ms l).2) N ∧ N + (feed clsOf ms l).1.length ≤ M + 2 * l.length

theorem NewOr.trans {w w1 : World} {g g1 g2 : Option Nat} (hs : w.heap.size ≤ w1.heap.size) (h : NewOr w g g1) (k : NewOr w1 g1 g2) : NewOr w g g2 := by
  rcases k with k | ⟨y, k, hy⟩
  · rw [k]; exact h
  · exact .inr ⟨y, k, by omega⟩

theorem StageLeft.comp {w w1 w2 : World} {hi bs : Nat} {cs cs1 : Array Value} {t : TypeId} {os B : Nat} {compat folds : Bool} {gm gr gm1 gr1 : Option Nat} {ms rs : List Int} {N : Nat} (p2 : cs1.size = cs.size) (p3 : ∀ i, i < os + 3 ∨ os + 8 ≤ i → cs1[i]? = cs[i]?) (p5 : NewOr w gm gm1) (p6 : NewOr w gr gr1) (p7 : Fr (fun x => x = bs ∨ some x = gm ∨ some x = gr) w w1)
    (h : StageLeft mo w1 w2 hi bs cs1 t os B compat folds gm1 gr1 ms rs N) : StageLeft mo w w2 hi bs cs t os B compat folds gm gr ms rs N := by
  obtain ⟨cs2, gm2, gr2, q1, q2, q3, q4, q5, q6, q7⟩ := h
  refine ⟨cs2, gm2, gr2, q1, by omega, fun i hi => (q3 i hi).trans (p3 i hi), q4, p5.trans p7.size q5, p6.trans p7.size q6, p7.trans q7 (fun i hi h => ?_)⟩
  rcases h with h | h | h
  · exact .inl h
  · rcases p5 with p | ⟨y, p, hy⟩
    · rw [p] at h; exact .inr (.inl h)
    · rw [p] at h; cases h; omega
  · rcases p6 with p | ⟨y, p, hy⟩
    · rw [p] at h; exact .inr (.inr h)
    · rw [p] at h; cases h; omega

theorem Fed.comp {w w1 w2 : World} {hi bs : Nat} {cs cs1 : Array Value} {t : TypeId} {os B : Nat} {compat folds : Bool} {gm gr gm1 gr1 : Option Nat} {ms rs l l' : List Int} {M : Nat} (p2 : cs1.size = cs.size) (p3 : ∀ i, i < os + 3 ∨ os + 8 ≤ i → cs1[i]? = cs[i]?) (p5 : NewOr w gm gm1) (p6 : NewOr w gr gr1) (p7 : Fr (fun x => x = bs ∨ some x = gm ∨ some x = gr) w w1)
    (h : Fed (heldF mo ms l) w1 w2 hi bs cs1 t os B compat folds gm1 gr1 (feed clsOf ms l).1 (rs ++ (feed clsOf ms l).2) l' (M + 2 * l.length)) : Fed mo w w2 hi bs cs t os B compat folds gm gr ms rs (l ++ l') M := by
  obtain ⟨N, h1, h2⟩ := h
  refine ⟨N, ?_, ?_⟩
  · have := StageLeft.comp p2 p3 p5 p6 p7 h1
    rw [feed_append, ← List.append_assoc, heldF_append]
    exact this
  · rw [feed_append, List.length_append]
    dsimp only
    omega

/-- Nothing was placed. -/
theorem Fed.none {w w' : World} {hi bs : Nat} {cs : Array Value} {t : TypeId} {os B : Nat} {compat folds : Bool} {gm gr : Option Nat} {ms rs : List Int} {N M : Nat} (hb : w.heap[bs]? = some (.cells cs t (0, 0))) (hS : StageIs mo w hi bs cs os B compat folds gm gr ms rs N) (hM : N + ms.length ≤ M) (hf : Fr (fun _ => False) w w') : Fed mo w w' hi bs cs t os B compat folds gm gr ms rs [] M := by
  refine ⟨N, ⟨cs, gm, gr, (hf.block bs (lt_of hb) id).trans hb, rfl, fun _ _ => rfl, ?_, .inl rfl, .inl rfl, hf.mono (fun _ _ h => h.elim)⟩, by simpa [feed] using hM⟩
  simp only [feed, List.append_nil]
  exact hS.kept hf (fun _ _ => id) (fun _ _ => id) (fun _ _ => id)

theorem mark_inRange {ms : List Int} (h : ∀ z ∈ ms, clsOf z ≠ 0) : ∀ z ∈ ms, inRange z := fun z hz => by
  have := mark_range (h z hz)
  unfold inRange
  omega

theorem shows_new (w : World) (c : Int) : Shows (w.alloc (.cells #[.int .i32 c] 21)) .i32 (.slice (some ⟨w.heap.size, 0, none⟩) 1 1) (some w.heap.size) [c] := by
  refine .inr ⟨w.heap.size, 0, 1, _, _, rfl, rfl, heap_alloc_new w _, fun j hj => ?_⟩
  have hj0 : j = 0 := by simpa using hj
  subst hj0
  rfl

theorem put_mark {w w' : World} {hi bs : Nat} {cs cs' : Array Value} {t : TypeId} {os B : Nat} {compat folds : Bool} {gm gr g' : Option Nat} {ms rs : List Int} {N M : Nat} {c : Int} (hb : w.heap[bs]? = some (.cells cs t (0, 0))) (hS : StageIs mo w hi bs cs os B compat folds gm gr ms rs N) (hM : N + ms.length ≤ M) (hc : clsOf c ≠ 0)
    (h1 : w'.heap[bs]? = some (.cells cs' t (0, 0))) (h2 : cs'.size = cs.size) (h3 : ∀ i, i ≠ os + 3 → i ≠ os + 3 + 1 → cs'[i]? = cs[i]?) (h4 : QIs w' .i32 21 cs' (os + 3) g' (ms ++ [c]) (N + 1)) (h5 : g' = gm ∨ ∃ y, g' = some y ∧ w.heap.size ≤ y) (h6 : Fr (fun x => x = bs ∨ some x = gm) w w') {W : World} (hW : Fr (fun _ => False) w' W) (v : Value) (hv : v = .int .i64 (max mo (ms.length + 1) : Nat)) :
    Fed mo w (W.setCell ⟨bs, os + 5, none⟩ v) hi bs cs t os B compat folds gm gr ms rs [c] M := by
  have e : feed clsOf ms [c] = (ms ++ [c], []) := by simp [feed, hc]
  have eh : heldF mo ms [c] = max mo (ms.length + 1) := by simp [heldF, hc]
  have hblt := lt_of hb
  have hnew : ∀ x, g' = some x → hi ≤ x ∧ x ≠ bs ∧ gr ≠ some x := by
    intro x hx
    rcases h5 with h | ⟨y, h, hy⟩
    · rw [h] at hx
      exact ⟨hS.him x hx, fun e => hS.gmb (by rw [hx, e]), hS.gmr x hx⟩
    · rw [h] at hx
      cases hx
      have h2 := hS.hib
      refine ⟨by omega, by omega, fun e => ?_⟩
      have := hS.qr.lt e
      omega
  obtain ⟨w2, hw2⟩ : ∃ w2, w2 = W.setCell ⟨bs, os + 5, none⟩ v := ⟨_, rfl⟩
  obtain ⟨cs2, hcs2⟩ : ∃ cs2, cs2 = cs'.setIfInBounds (os + 5) v := ⟨_, rfl⟩
  have k1 : w2.heap[bs]? = some (.cells cs2 t (0, 0)) := by
    rw [hw2, hcs2]
    exact set_of ((hW.block bs (lt_of h1) id).trans h1) _ _
  have k2 : cs2.size = cs.size := by rw [hcs2, Array.size_setIfInBounds, h2]
  have ks : os + 5 < cs'.size := by
    rw [h2]
    exact (Array.getElem?_eq_some_iff.1 hS.c5).1
  have kv : cs2[os + 5]? = some v := by rw [hcs2, Array.getElem?_setIfInBounds_self, if_pos ks]
  have k3' : ∀ i, i ≠ os + 5 → cs2[i]? = cs'[i]? := fun i hi => by rw [hcs2, Array.getElem?_setIfInBounds_ne (Ne.symm hi)]
  have k3 : ∀ i, i ≠ os + 3 → i ≠ os + 3 + 1 → i ≠ os + 5 → cs2[i]? = cs[i]? := fun i a b c => (k3' i c).trans (h3 i a b)
  have f2 : Fr (fun x => x = bs) w' w2 := by
    rw [hw2]
    exact (hW.mono (fun _ _ h => h.elim)).setCell _ _ (fun _ => rfl)
  have k4 : QIs w2 .i32 21 cs2 (os + 3) g' (ms ++ [c]) (N + 1) := (h4.kept f2 (fun x hx h => (hnew x hx).2.1 h)).cells (k3' _ (by omega)) (k3' _ (by omega))
  have k6 : Fr (fun x => x = bs ∨ some x = gm) w w2 := h6.trans f2 (fun _ _ h => .inl h)
  rw [← hw2]
  refine ⟨N + 1, ⟨cs2, g', gr, k1, k2, fun i hi => k3 i (by omega) (by omega) (by omega), ?_, h5, .inl rfl, k6.mono (fun _ _ h => ?_)⟩, ?_⟩
  · rw [e, eh]
    dsimp only
    rw [List.append_nil]
    refine ⟨hS.tab.kept k6 (fun x hx h => ?_), ?_, ?_, ?_, k4, kv.trans (by rw [hv]), ((hS.qr.kept k6 (fun x hx h => ?_)).cells (k3 _ (by omega) (by omega) (by omega)) (k3 _ (by omega) (by omega) (by omega))).mono (by omega), fun e => (hnew bs e).2.1 rfl, hS.grb, fun x hx => (hnew x hx).2.2, fun x hx => (hnew x hx).1, hS.hir, hS.hib⟩
    · rcases h with h | h
      · have := hS.hib; omega
      · have := hS.him x h.symm; omega
    · rw [k3 _ (by omega) (by omega) (by omega)]; exact hS.c0
    · rw [k3 _ (by omega) (by omega) (by omega)]; exact hS.c1
    · rw [k3 _ (by omega) (by omega) (by omega)]; exact hS.c2
    · rcases h with h | h
      · exact hS.grb (by rw [hx, h])
      · exact hS.gmr x h.symm hx
  · rcases h with h | h
    · exact .inl h
    · exact .inr (.inl h)
  · rw [e]
    simp
    omega

theorem Hid.mk0 {p : Prop} (h : p) : Hid p := h

theorem put_starter {w w' : World} {hi bs : Nat} {cs cs' : Array Value} {t : TypeId} {os B : Nat} {compat folds : Bool} {gm gr g' : Option Nat} {rs : List Int} {N : Nat} {c : Int} (hb : w.heap[bs]? = some (.cells cs t (0, 0))) (hS : StageIs mo w hi bs cs os B compat folds gm gr [] rs N)
    (h1 : w'.heap[bs]? = some (.cells cs' t (0, 0))) (h2 : cs'.size = cs.size) (h3 : ∀ i, i ≠ os + 6 → i ≠ os + 6 + 1 → cs'[i]? = cs[i]?) (h4 : QIs w' .i32 21 cs' (os + 6) g' (rs ++ [c]) (N + 1)) (h5 : g' = gr ∨ ∃ y, g' = some y ∧ w.heap.size ≤ y) (h6 : Fr (fun x => x = bs ∨ some x = gr) w w') :
    StageLeft mo w w' hi bs cs t os B compat folds gm gr [] (rs ++ [c]) (N + 1) := by
  have hblt := lt_of hb
  have hnew : ∀ x, g' = some x → hi ≤ x ∧ x ≠ bs ∧ gm ≠ some x := by
    intro x hx
    rcases h5 with h | ⟨y, h, hy⟩
    · rw [h] at hx
      exact ⟨hS.hir x hx, fun e => hS.grb (by rw [hx, e]), fun e => hS.gmr x e hx⟩
    · rw [h] at hx
      cases hx
      have h2 := hS.hib
      refine ⟨by omega, by omega, fun e => ?_⟩
      have := hS.qm.lt e
      omega
  refine ⟨cs', gm, g', h1, h2, fun i hi => h3 i (by omega) (by omega), ?_, .inl rfl, h5, h6.mono (fun _ _ h => ?_)⟩
  · refine ⟨hS.tab.kept h6 (fun x hx h => ?_), ?_, ?_, ?_, ((hS.qm.kept h6 (fun x hx h => ?_)).cells (h3 _ (by omega) (by omega)) (h3 _ (by omega) (by omega))).mono (by omega), ?_, h4, hS.gmb, fun e => (hnew bs e).2.1 rfl, fun x hx e => (hnew x e).2.2 hx, hS.him, fun x hx => (hnew x hx).1, hS.hib⟩
    · rcases h with h | h
      · have := hS.hib; omega
      · have := hS.hir x h.symm; omega
    · rw [h3 _ (by omega) (by omega)]; exact hS.c0
    · rw [h3 _ (by omega) (by omega)]; exact hS.c1
    · rw [h3 _ (by omega) (by omega)]; exact hS.c2
    · rcases h with h | h
      · exact hS.gmb (by rw [hx, h])
      · exact hS.gmr x hx h.symm
    · rw [h3 _ (by omega) (by omega)]; exact hS.c5
  · rcases h with h | h
    · exact .inl h
    · exact .inr (.inr h)


end Go.Proofs.YtmhaknejeobfgaaDoor

/- Stage4. -/
namespace Go.Proofs.YtmhaknejeobfgaaDoor
open Go.RowKit Go.Proofs.YtmhaknejeobfgaaDoor.Stable Go.Proofs.YtmhaknejeobfgaaDoor.Order
attribute [local go_sem ↓] Go.wp_at_zero Go.wp_at_succ
variable {mo : Nat}

/-- The folding that a stage looks up. -/
def foldS (folds : Bool) (c : Int) : List Int := if folds = true then foldOf c else []

set_option maxRecDepth 100000 in
theorem foldingOf_calls {w : World} {hi bs : Nat} {cs : Array Value} {t : TypeId} {os B : Nat} {compat folds : Bool} {gm gr : Option Nat} {ms rs : List Int} {N : Nat} (c : Int) (hb : w.heap[bs]? = some (.cells cs t (0, 0))) (hS : StageIs mo w hi bs cs os B compat folds gm gr ms rs N) (h0 : -2147483648 ≤ c) (h1 : c ≤ 2147483647) :
    Calls Tryd.prog 21 #[.pointer (some ⟨bs, os, none⟩), .int .i32 c] w fun e w' => ∃ a m, e = .returned (.slice a (foldS folds c).length m) ∧ Given w w' hi (.slice a (foldS folds c).length m) (foldS folds c) := by
  have cT := cell_of hb hS.c0
  have cF := cell_of hb hS.c2
  have hnot : ∀ (x : Bool) (w : World), (Op.unary .not (.bool x)).run Tryd.prog w = .ok (.bool (!x)) w := fun _ _ => rfl
  have HS : Hid (StageIs mo w hi bs cs os B compat folds gm gr ms rs N) := hS
  clear hS hb
  cases folds with
  | false =>
    go_enter Tryd.func21, Tryd.ntmps21
    go_wp2
    go_ret
    exact ⟨none, 0, rfl, none, .inl ⟨rfl, .inl rfl⟩, fun x hx => (by cases hx), Fr.refl _ _⟩
  | true =>
    go_enter Tryd.func21, Tryd.ntmps21
    go_wp2_with (go_at_call 36; refine (folding_calls HS.out.tab c h0 h1).mono ?_; rintro e w' ⟨a, m, rfl, hG⟩)
    go_ret
    exact ⟨a, m, rfl, hG⟩

/-- Taken apart in n steps at most. -/
def Flat (k : Bool) : Nat → Int → Prop
  | 0, c => partsOf k c = []
  | n + 1, c => ∀ p ∈ partsOf k c, Flat k n p

/-- What is to be seen of each row's parts and folding. -/
def partOk (c : Int) : Bool :=
  both (fun k => decide ((partsOf k c).length ≤ 18) && (partsOf k c).all (fun p => decide (0 ≤ p ∧ p ≤ 1114111) && (partsOf k p).all (fun q => (partsOf k q).isEmpty))) &&
  decide ((rawFold c).length ≤ 18) && (rawFold c).all (fun p => decide (0 ≤ p ∧ p ≤ 1114111))

theorem parts_ok : facts.all (fun r => partOk r.cp) = true := by decide +kernel

theorem parts_are (k : Bool) (c : Int) : (partsOf k c).length ≤ 18 ∧ (∀ p ∈ partsOf k c, 0 ≤ p ∧ p ≤ 1114111) ∧ Flat k 2 c := by
  rcases look_cases c with h | ⟨r, hr, rfl⟩
  · by_cases hs : 44032 ≤ c ∧ c ≤ 55203
    · have hP : partsOf k c = sylOf c := by unfold partsOf; rw [if_pos hs]
      have hR := syl_parts hs.1 hs.2
      refine ⟨?_, fun p hp => ?_, fun p hp q hq => ?_⟩
      · rw [hP]
        unfold sylOf
        split <;> simp
      · rw [hP] at hp
        have := hR p hp
        omega
      · rw [hP] at hp
        rw [syl_atom k (hR p hp)] at hq
        cases hq
    · have hP := parts_none k h hs
      refine ⟨by rw [hP]; simp, fun p hp => ?_, fun p hp => ?_⟩
      · rw [hP] at hp; cases hp
      · rw [hP] at hp; cases hp
  · have h := List.all_eq_true.1 parts_ok r hr
    unfold partOk at h
    rw [Bool.and_eq_true, Bool.and_eq_true] at h
    have h := both_all h.1.1 k
    rw [Bool.and_eq_true, decide_eq_true_eq] at h
    refine ⟨h.1, fun p hp => ?_, fun p hp q hq => ?_⟩
    · have := List.all_eq_true.1 h.2 p hp
      rw [Bool.and_eq_true, decide_eq_true_eq] at this
      exact this.1
    · have := List.all_eq_true.1 h.2 p hp
      rw [Bool.and_eq_true] at this
      exact List.isEmpty_iff.1 (List.all_eq_true.1 this.2 q hq)

theorem fold_are (c : Int) : (foldOf c).length ≤ 18 ∧ ∀ p ∈ foldOf c, 0 ≤ p ∧ p ≤ 1114111 := by
  unfold foldOf
  by_cases hz : 65 ≤ c ∧ c ≤ 90
  · rw [if_pos hz]
    refine ⟨by simp, fun p hp => ?_⟩
    rw [List.mem_singleton.1 hp]
    omega
  · rw [if_neg hz]
    rcases look_cases c with h | ⟨r, hr, rfl⟩
    · rw [fold_none h]
      exact ⟨by simp, fun p hp => by cases hp⟩
    · have h := List.all_eq_true.1 parts_ok r hr
      unfold partOk at h
      rw [Bool.and_eq_true, Bool.and_eq_true, decide_eq_true_eq] at h
      refine ⟨h.1.2, fun p hp => ?_⟩
      have := List.all_eq_true.1 h.2 p hp
      rwa [decide_eq_true_eq] at this

theorem apartN_nil {k : Bool} {c : Int} (h : partsOf k c = []) : ∀ n, apartN n k c = [c]
  | 0 => rfl
  | _ + 1 => by rw [apartN, if_pos h]

/-- From a world in which nothing has turned. -/
theorem Fed.of_fr {w w1 w2 : World} {hi bs : Nat} {cs : Array Value} {t : TypeId} {os B : Nat} {compat folds : Bool} {gm gr : Option Nat} {ms rs l : List Int} {M : Nat} (hf : Fr (fun _ => False) w w1) (h : Fed mo w1 w2 hi bs cs t os B compat folds gm gr ms rs l M) : Fed mo w w2 hi bs cs t os B compat folds gm gr ms rs l M := by
  obtain ⟨N, h1, h2⟩ := h
  exact ⟨N, StageLeft.comp rfl (fun _ _ => rfl) (.inl rfl) (.inl rfl) (hf.mono (fun _ _ h => h.elim)) h1, h2⟩

theorem Fed.to_fr {w w1 w2 : World} {hi bs : Nat} {cs : Array Value} {t : TypeId} {os B : Nat} {compat folds : Bool} {gm gr : Option Nat} {ms rs l : List Int} {M : Nat} (hf : Fr (fun _ => False) w1 w2) (h : Fed mo w w1 hi bs cs t os B compat folds gm gr ms rs l M) : Fed mo w w2 hi bs cs t os B compat folds gm gr ms rs l M := by
  obtain ⟨N, ⟨cs', gm', gr', q1, q2, q3, q4, q5, q6, q7⟩, h2⟩ := h
  exact ⟨N, ⟨cs', gm', gr', (hf.block bs (lt_of q1) id).trans q1, q2, q3, q4.kept hf (fun _ _ => id) (fun _ _ => id) (fun _ _ => id), q5, q6, q7.trans hf (fun _ _ h => h.elim)⟩, h2⟩

theorem take_flat {f : Int → List Int} {ps : List Int} {k : Nat} {p : Int} (h : ps[k]? = some p) : (ps.take (k + 1)).flatMap f = (ps.take k).flatMap f ++ f p := by
  rw [List.take_add_one, h]
  simp

theorem take_flat_le {f : Int → List Int} {ps : List Int} {k : Nat} {p : Int} (h : ps[k]? = some p) : ((ps.take k).flatMap f).length + (f p).length ≤ (ps.flatMap f).length := by
  have e : ps.flatMap f = (ps.take (k + 1)).flatMap f ++ (ps.drop (k + 1)).flatMap f := by rw [← List.flatMap_append, List.take_append_drop]
  rw [e, take_flat h]
  simp only [List.length_append]
  omega


end Go.Proofs.YtmhaknejeobfgaaDoor

/- Stage5. -/
namespace Go.Proofs.YtmhaknejeobfgaaDoor
open Go.RowKit Go.Proofs.YtmhaknejeobfgaaDoor.Stable Go.Proofs.YtmhaknejeobfgaaDoor.Order
attribute [local go_sem ↓] Go.wp_at_zero Go.wp_at_succ
variable {mo : Nat}

theorem pieces_nil {compat folds : Bool} {c : Int} (h : foldS folds c = []) : pieces compat folds c = apart compat c := by
  unfold pieces foldL
  unfold foldS at h
  cases folds with
  | false => simp
  | true =>
    simp only [if_true] at h ⊢
    rw [if_pos h]
    simp

theorem pieces_fold {compat folds : Bool} {c : Int} (h : foldS folds c ≠ []) : pieces compat folds c = (foldS folds c).flatMap (apart compat) := by
  unfold pieces foldL
  unfold foldS at h ⊢
  cases folds with
  | false => exact absurd rfl h
  | true =>
    simp only [if_true] at h ⊢
    rw [if_neg h]

theorem foldS_are (folds : Bool) (c : Int) : (foldS folds c).length ≤ 18 ∧ ∀ p ∈ foldS folds c, 0 ≤ p ∧ p ≤ 1114111 := by
  unfold foldS
  cases folds with
  | false => simp
  | true =>
    simp only [if_true]
    exact fold_are c

/-- What a stage's Take leaves. -/
def Took (mo : Nat) (w w' : World) (hi bs : Nat) (cs : Array Value) (t : TypeId) (os B : Nat) (compat folds : Bool) (gm gr : Option Nat) (ms rs : List Int) (N : Nat) : Prop :=
  ∃ cs', w'.heap[bs]? = some (.cells cs' t (0, 0)) ∧ cs'.size = cs.size ∧ (∀ i, i < os + 6 ∨ os + 8 ≤ i → cs'[i]? = cs[i]?) ∧ StageIs mo w' hi bs cs' os B compat folds gm gr ms rs N ∧ Fr (fun x => x = bs) w w'


end Go.Proofs.YtmhaknejeobfgaaDoor
