/- A stage in memory, and its Release: the marks that wait go, ordered by class, behind what is released. A stage's Release. A stage's place: a mark waits, a starter is released behind the marks that wait. A stage's foldingOf, and takeApart: what a code point is taken apart into is placed, one behind the other. A stage's Put and Take. -/
import Derived.Test.YtmhaknejeobfgabGreatDoorSorts
import Derived.Test.YtmhaknejeobfgabGreatDoorQueues
import Derived.Test.YtmhaknejeobfgabGreatDoorBase
import Derived.Test.YtmhaknejeobfgabGreatDoorTables
import Derived.Deep.RegionHeld3
import Derived.Deep.RegionWith

/- Stage1. -/
namespace Go.Proofs.YtmhaknejeobfgabGreatDoor
open Go.RowKit Go.Proofs.YtmhaknejeobfgabGreatDoor.Stable
attribute [local go_sem ↓] Go.wp_at_zero Go.wp_at_succ
variable {mo : Nat}

/-- A stage at os of the block bs, whose cells are cs: its table, its two switches, the marks that wait and what is released; mo: the most marks that waited at one time. -/
structure StageIs (mo : Nat) (w : World) (hi bs : Nat) (cs : Array Value) (os B : Nat) (compat folds : Bool) (gm gr : Option Nat) (ms rs : List Int) (N : Nat) : Prop where
  tab : TabIn w hi B
  c0 : cs[os]? = some (.map (some B))
  c1 : cs[os + 1]? = some (.bool compat)
  c2 : cs[os + 2]? = some (.bool folds)
  qm : QIs w .i32 21 cs (os + 3) gm ms N
  c5 : cs[os + 5]? = some (.int .i64 mo)
  qr : QIs w .i32 21 cs (os + 6) gr rs N
  gmb : gm ≠ some bs
  grb : gr ≠ some bs
  gmr : ∀ x, gm = some x → gr ≠ some x
  him : ∀ x, gm = some x → hi ≤ x
  hir : ∀ x, gr = some x → hi ≤ x
  hib : hi ≤ bs

/-- The row of a queue behind the sort. -/
theorem SO.queue {w W : World} {cs : Array Value} {o g c : Nat} {pre xs ys : List Int} {N : Nat} (h0 : cs[o]? = some (.slice (some ⟨g, 0, none⟩) (pre.length + xs.length) c)) (h1 : cs[o + 1]? = some (.int .i64 pre.length))
    (hr : w.ownsRow 0 21 1 (.slice (some ⟨g, 0, none⟩) (pre.length + xs.length) c) (pre.length + xs.length) ((pre ++ xs).map (Value.int .i32))) (hl : ys.length = xs.length) (hn : pre.length + xs.length ≤ N) (he : xs = [] → pre = []) (S : SO w g pre.length ys W) :
    QIs W .i32 21 cs o (some g) ys N := by
  obtain ⟨_, cur0, cur, e, k0, k1, k2, k3, k4⟩ := S
  rcases row_cases hr with ⟨h, _⟩ | ⟨g', cap, cur', h, hgg, q1, q2, q3, q4, q5⟩
  · cases h
  · cases h
    rw [hgg] at k0
    cases k0
    refine ⟨.slice (some ⟨g, 0, none⟩) (pre.length + xs.length) c, pre, h0, h1, ?_, rfl, by omega, fun h => he (List.length_eq_zero_iff.1 (by rw [← hl, h]; rfl))⟩
    rw [hl]
    refine row_mk (cur := cur) k1 q1 q2 (by omega) (by simp; omega) (fun j hj => ?_)
    by_cases hjp : j < pre.length
    · rw [k3 j (.inl hjp), q5 j hj, List.getElem?_append_left hjp, List.getElem?_append_left hjp]
    · obtain ⟨i, rfl⟩ : ∃ i, j = pre.length + i := ⟨j - pre.length, by omega⟩
      rw [k4 i (by omega), List.getElem?_append_right (by omega), show pre.length + i - pre.length = i by omega]

/-- The row's block: as it was, or new. -/
def NewOr (w : World) (g g' : Option Nat) : Prop := g' = g ∨ ∃ y, g' = some y ∧ w.heap.size ≤ y

/-- What a stage's method leaves. -/
def StageLeft (mo : Nat) (w w' : World) (hi bs : Nat) (cs : Array Value) (t : TypeId) (os B : Nat) (compat folds : Bool) (gm gr : Option Nat) (ms rs : List Int) (N : Nat) : Prop :=
  ∃ cs' gm' gr', w'.heap[bs]? = some (.cells cs' t (0, 0)) ∧ cs'.size = cs.size ∧ (∀ i, i < os + 3 ∨ os + 8 ≤ i → cs'[i]? = cs[i]?) ∧ StageIs mo w' hi bs cs' os B compat folds gm' gr' ms rs N ∧ NewOr w gm gm' ∧ NewOr w gr gr' ∧ Fr (fun x => x = bs ∨ some x = gm ∨ some x = gr) w w'

theorem StageIs.kept {w w' : World} {hi bs : Nat} {cs : Array Value} {os B : Nat} {compat folds : Bool} {gm gr : Option Nat} {ms rs : List Int} {N : Nat} (h : StageIs mo w hi bs cs os B compat folds gm gr ms rs N) {S : Nat → Prop} (hf : Fr S w w') (hS : ∀ x, x < hi → ¬ S x) (hm : ∀ x, gm = some x → ¬ S x) (hr : ∀ x, gr = some x → ¬ S x) : StageIs mo w' hi bs cs os B compat folds gm gr ms rs N :=
  { h with tab := h.tab.kept hf hS, qm := h.qm.kept hf hm, qr := h.qr.kept hf hr }

/-- The marks stand sorted: released and gone. -/
theorem release_tail {w W2 : World} {hi bs : Nat} {cs : Array Value} {t : TypeId} {os B : Nat} {compat folds : Bool} {gm gr : Option Nat} {ms ss rs : List Int} {N : Nat} {v : Value} (hb : W2.heap[bs]? = some (.cells cs t (0, 0))) (hS : StageIs mo W2 hi bs cs os B compat folds gm gr ss rs N) (hv : Shows W2 .i32 v gm ss) (hl : ss.length = ms.length) (hN : N + ms.length ≤ 1099511627776) (hf : Fr (fun x => some x = gm) w W2) :
    Calls Tryz.prog 137 #[.pointer (some ⟨bs, os + 6, none⟩), v] W2 fun e w3 => e = .returned (.tuple #[]) ∧ Fr (fun x => x = bs ∨ some x = gr) W2 w3 ∧
      ∀ W4, Fr (fun _ => False) w3 W4 → Calls Tryz.prog 132 #[.pointer (some ⟨bs, os + 3, none⟩), .int .i64 ms.length] W4 fun e w5 => e = .returned (.tuple #[]) ∧ StageLeft mo w w5 hi bs cs t os B compat folds gm gr [] (rs ++ ss) (N + ms.length) := by
  refine (Q_put_R (tv := v) hb hS.qr hS.grb hv (fun x hx => ⟨fun e => hS.gmb (by rw [hx, e]), fun e => hS.gmr x hx e.symm⟩) (by omega)).mono ?_
  rintro e w3 ⟨rfl, cs3, gr3, p1, p2, p3, p4, p5, p6⟩
  refine ⟨rfl, p6, fun W4 h4 => ?_⟩
  have fA : Fr (fun x => x = bs ∨ some x = gr) W2 W4 := p6.trans h4 (fun _ _ h => h.elim)
  have hb4 : W4.heap[bs]? = some (.cells cs3 t (0, 0)) := (h4.block bs (lt_of p1) id).trans p1
  have qm4 : QIs W4 .i32 21 cs3 (os + 3) gm ss N := (hS.qm.kept fA (fun x hx h => by
    rcases h with h | h
    · exact hS.gmb (by rw [hx, h])
    · exact hS.gmr x hx h.symm)).cells (p3 _ (by omega) (by omega)) (p3 _ (by omega) (by omega))
  rw [← hl]
  refine (Q_drop_R ss.length hb4 qm4 (Nat.le_refl _) hS.gmb).mono ?_
  rintro e w5 ⟨rfl, cs5, r1, r2, r3, r4, r5⟩
  refine ⟨rfl, cs5, gm, gr3, r1, by omega, ?_, ?_, .inl rfl, ?_, ?_⟩
  · intro i hi
    rw [r3 i (by omega) (by omega), p3 i (by omega) (by omega)]
  · have hnew : ∀ x, gr3 = some x → hi ≤ x ∧ x ≠ bs ∧ gm ≠ some x := by
      intro x hx
      rcases p5 with h | ⟨y, h, hy⟩
      · rw [h] at hx
        exact ⟨hS.hir x hx, fun e => hS.grb (by rw [hx, e]), fun e => hS.gmr x e hx⟩
      · rw [h] at hx
        cases hx
        have h1 := lt_of hb
        have h2 := hS.hib
        refine ⟨by omega, by omega, fun e => ?_⟩
        have := hS.qm.lt e
        omega
    have hq5 : QIs w5 .i32 21 cs5 (os + 6) gr3 (rs ++ ss) (N + ss.length) := (((p4.kept h4 (fun _ _ => id))).kept r5 (fun x hx h => (hnew x hx).2.1 h)).cells (r3 _ (by omega) (by omega)) (r3 _ (by omega) (by omega))
    refine ⟨(hS.tab.kept fA (fun x hx h => ?_)).kept r5 (fun x hx h => ?_), ?_, ?_, ?_, ?_, ?_, hq5, hS.gmb, fun e => (hnew bs e).2.1 rfl, fun x hx e => (hnew x e).2.2 hx, hS.him, fun x hx => (hnew x hx).1, hS.hib⟩
    · rcases h with h | h
      · have := hS.hib; omega
      · have := hS.hir x h.symm; omega
    · have := hS.hib; omega
    · rw [r3 _ (by omega) (by omega), p3 _ (by omega) (by omega)]; exact hS.c0
    · rw [r3 _ (by omega) (by omega), p3 _ (by omega) (by omega)]; exact hS.c1
    · rw [r3 _ (by omega) (by omega), p3 _ (by omega) (by omega)]; exact hS.c2
    · rw [List.drop_length] at r4
      exact r4.mono (by omega)
    · rw [r3 _ (by omega) (by omega), p3 _ (by omega) (by omega)]; exact hS.c5
  · rcases p5 with h | ⟨y, h, hy⟩
    · exact .inl h
    · exact .inr ⟨y, h, by have := hf.size; omega⟩
  · have fB : Fr (fun x => x = bs ∨ some x = gm ∨ some x = gr) w W2 := hf.mono (fun _ _ h => .inr (.inl h))
    have fC : Fr (fun x => x = bs ∨ some x = gm ∨ some x = gr) w W4 := fB.trans fA (fun _ _ h => by
      rcases h with h | h
      · exact .inl h
      · exact .inr (.inr h))
    exact fC.trans r5 (fun _ _ h => .inl h)

end Go.Proofs.YtmhaknejeobfgabGreatDoor

/- Stage2. -/
namespace Go.Proofs.YtmhaknejeobfgabGreatDoor
open Go.RowKit Go.Proofs.YtmhaknejeobfgabGreatDoor.Stable
attribute [local go_sem ↓] Go.wp_at_zero Go.wp_at_succ
variable {mo : Nat}

theorem StageLeft.to {w w' : World} {hi bs : Nat} {cs : Array Value} {t : TypeId} {os B : Nat} {compat folds : Bool} {gm gr : Option Nat} {ms rs : List Int} {N : Nat} {o : Obj} (h : StageLeft mo (w.alloc o) w' hi bs cs t os B compat folds gm gr ms rs N) : StageLeft mo w w' hi bs cs t os B compat folds gm gr ms rs N := by
  obtain ⟨cs', gm', gr', h1, h2, h3, h4, h5, h6, h7⟩ := h
  have up : ∀ {g g' : Option Nat}, NewOr (w.alloc o) g g' → NewOr w g g' := fun h => by
    rcases h with h | ⟨y, h, hy⟩
    · exact .inl h
    · exact .inr ⟨y, h, by simp at hy; omega⟩
  exact ⟨cs', gm', gr', h1, h2, h3, h4, up h5, up h6, ((Fr.refl _ w).alloc o).trans h7 (fun _ _ h => h)⟩

set_option maxRecDepth 100000 in
set_option maxHeartbeats 1600000 in
theorem release_calls {w : World} {hi bs : Nat} {cs : Array Value} {t : TypeId} {os B : Nat} {compat folds : Bool} {gm gr : Option Nat} {ms rs : List Int} {N : Nat} (hb : w.heap[bs]? = some (.cells cs t (0, 0))) (hS : StageIs mo w hi bs cs os B compat folds gm gr ms rs N) (hN : N + ms.length ≤ 1099511627776) (hR : ∀ z ∈ ms, inRange z) :
    Calls Tryz.prog 120 #[.pointer (some ⟨bs, os, none⟩)] w fun e w' => e = .returned (.tuple #[]) ∧ StageLeft mo w w' hi bs cs t os B compat folds gm gr [] (rs ++ sortC clsOf ms) (N + ms.length) := by
  have hmf : ∀ (fn : Fn) (first cap : Array Value) (w : World), (Instr.makeFunc fn first cap).run Tryz.prog w = .ok (.func fn first cap) w := fun _ _ _ _ => rfl
  have f1 : Fr (fun _ => False) w (w.alloc (.cells #[.pointer (some ⟨bs, os, none⟩)] 176)) := (Fr.refl _ _).alloc _
  have hb1 : (w.alloc (.cells #[.pointer (some ⟨bs, os, none⟩)] 176)).heap[bs]? = some (.cells cs t (0, 0)) := (f1.block bs (lt_of hb) id).trans hb
  have hS1 : StageIs mo (w.alloc (.cells #[.pointer (some ⟨bs, os, none⟩)] 176)) hi bs cs os B compat folds gm gr ms rs N := hS.kept f1 (fun _ _ => id) (fun _ _ => id) (fun _ _ => id)
  have hbx : (w.alloc (.cells #[.pointer (some ⟨bs, os, none⟩)] 176)).heap[w.heap.size]? = some (.cells #[.pointer (some ⟨bs, os, none⟩)] 176 (0, 0)) := heap_alloc_new w _
  have hlt := lt_of hb
  have hmlt : ∀ x, gm = some x → x < w.heap.size := fun x hx => hS.qm.lt hx
  have hrlt : ∀ x, gr = some x → x < w.heap.size := fun x hx => hS.qr.lt hx
  by_cases hm0 : ms = []
  · subst hm0
    have HB1 : Hid _ := hb1
    have HS1 : Hid _ := hS1
    have HRL : Hid ((∀ x, gr = some x → x < w.heap.size) ∧ bs < w.heap.size) := ⟨hrlt, hlt⟩
    have HBX : Hid _ := hbx
    have HN : Hid (N + ([] : List Int).length ≤ 1099511627776) := hN
    clear hb hS hb1 hS1 hmlt hrlt hbx f1 hlt hN hR
    go_enter Tryz.func120, Tryz.ntmps120
    go_wp2_with fail
    refine (Q_wait_R (by exact HB1.out) (by exact HS1.out.qm)).mono ?_
    rintro e w' ⟨v, rfl, hv, q, rfl⟩
    obtain ⟨a, c, rfl⟩ : ∃ a c, v = .slice a 0 c := hv.form
    have HV : Hid (Shows (w.alloc (.cells #[.pointer (some ⟨bs, os, none⟩)] 176)) .i32 (.slice a 0 c) gm []) := hv
    clear hv
    go_wp2_with (go_at_call 134; refine (sort_empty a c _ _).mono ?_; rintro e w' ⟨rfl, rfl⟩)
    have hput := release_tail (w := w.alloc (.cells #[.pointer (some ⟨bs, os, none⟩)] 176)) (W2 := (w.alloc (.cells #[.pointer (some ⟨bs, os, none⟩)] 176)).drewN q) (ms := []) (ss := []) (rs := rs) HB1.out (HS1.out.kept ((Fr.refl (fun _ => False) _).drewN q) (fun _ _ => id) (fun _ _ => id) (fun _ _ => id)) HV.out rfl HN.out ((Fr.refl _ _).drewN q)
    refine hput.mono ?_
    rintro e w3 ⟨rfl, hf3, hdrop⟩
    have cbx : w3.cell? ⟨w.heap.size, 0, none⟩ = some (.pointer (some ⟨bs, os, none⟩)) := by
      refine (World.cell?_of_block (w := w.alloc (.cells #[.pointer (some ⟨bs, os, none⟩)] 176)) (hf3.block w.heap.size (lt_of HBX.out) (fun h => ?_))).trans (cell_of HBX.out rfl)
      rcases h with h | h
      · have := HRL.out.2; omega
      · have := HRL.out.1 _ h.symm; omega
    have HD : Hid _ := hdrop
    clear hdrop hput hf3
    go_wp2_with fail
    refine (HD.out _ (Fr.refl _ _)).mono ?_
    rintro e w5 ⟨rfl, hl⟩
    go_wp2
    go_end0
    exact ⟨rfl, hl.to⟩
  · obtain ⟨v0, pre, c0, c1, hr, hg, hn, he⟩ := hS1.qm
    have hpos : 0 < ms.length := List.length_pos_iff.2 hm0
    rcases row_cases hr with ⟨_, h0, _⟩ | ⟨g, cap, cur, rfl, hgg, q1, q2, q3, q4, q5⟩
    · omega
    · have hgm : gm = some g := by rw [← hg]; rfl
      subst hgm
      obtain ⟨n, hn2⟩ : ∃ n, n = pre.length + ms.length := ⟨_, rfl⟩
      have hglt := hmlt g rfl
      have cA := cell_of hb1 c0
      have cB := cell_of hb1 c1
      have hst : SO (w.alloc (.cells #[.pointer (some ⟨bs, os, none⟩)] 176)) g pre.length ms (w.alloc (.cells #[.pointer (some ⟨bs, os, none⟩)] 176)) := SO.start hgg (fun j hj => by
        rw [q5 (pre.length + j) (by omega), List.getElem?_append_right (by omega), show pre.length + j - pre.length = j by omega])
      have hcmp : CmpAt (w.alloc (.cells #[.pointer (some ⟨bs, os, none⟩)] 176)) g w.heap.size := ⟨⟨bs, os, B, hi, cell_of hbx rfl, cell_of hb1 hS1.c0, hS1.tab, hS1.him g rfl, by omega, fun e => hS1.gmb (by rw [e]), by simp, by simp; omega⟩⟩
      have hsortQ : ∀ W, SO (w.alloc (.cells #[.pointer (some ⟨bs, os, none⟩)] 176)) g pre.length (sortC clsOf ms) W → QIs W .i32 21 cs (os + 3) (some g) (sortC clsOf ms) N := fun W hW => hW.queue c0 c1 hr (sortC_length _ _) hn he
      have hshow : ∀ W, SO (w.alloc (.cells #[.pointer (some ⟨bs, os, none⟩)] 176)) g pre.length (sortC clsOf ms) W → Shows W .i32 (.slice (some ⟨g, pre.length, none⟩) ms.length (cap - pre.length)) (some g) (sortC clsOf ms) := fun W hW => by
        obtain ⟨_, cur0, cur', e, k0, k1, k2, k3, k4⟩ := hW
        exact .inr ⟨g, pre.length, cap - pre.length, cur', e, rfl, by rw [sortC_length], k1, k4⟩
      have hstage : ∀ W, SO (w.alloc (.cells #[.pointer (some ⟨bs, os, none⟩)] 176)) g pre.length (sortC clsOf ms) W → StageIs mo W hi bs cs os B compat folds (some g) gr (sortC clsOf ms) rs N ∧ W.heap[bs]? = some (.cells cs t (0, 0)) ∧ W.cell? ⟨w.heap.size, 0, none⟩ = some (.pointer (some ⟨bs, os, none⟩)) := fun W hW => by
        have hbne : bs ≠ g := fun e => hS1.gmb (by rw [e])
        refine ⟨{ hS1 with tab := hS1.tab.kept hW.1 (fun x hx e => ?_), qm := hsortQ W hW, qr := hS1.qr.kept hW.1 (fun x hx e => ?_) }, ?_, ?_⟩
        · have := hS1.him g rfl; omega
        · exact hS1.gmr g rfl (by rw [hx, e])
        · exact (hW.1.block bs (by simp; omega) hbne).trans hb1
        · exact (World.cell?_of_block (w := (w.alloc (.cells #[.pointer (some ⟨bs, os, none⟩)] 176))) (hW.1.block w.heap.size (by simp) (by omega))).trans (cell_of hbx rfl)
      have HST : Hid (SO (w.alloc (.cells #[.pointer (some ⟨bs, os, none⟩)] 176)) g pre.length ms (w.alloc (.cells #[.pointer (some ⟨bs, os, none⟩)] 176))) := hst
      have HCM : Hid (CmpAt (w.alloc (.cells #[.pointer (some ⟨bs, os, none⟩)] 176)) g w.heap.size) := hcmp
      have HSH : Hid (∀ W, SO (w.alloc (.cells #[.pointer (some ⟨bs, os, none⟩)] 176)) g pre.length (sortC clsOf ms) W → Shows W .i32 (.slice (some ⟨g, pre.length, none⟩) ms.length (cap - pre.length)) (some g) (sortC clsOf ms)) := hshow
      have HSG : Hid (∀ W, SO (w.alloc (.cells #[.pointer (some ⟨bs, os, none⟩)] 176)) g pre.length (sortC clsOf ms) W → StageIs mo W hi bs cs os B compat folds (some g) gr (sortC clsOf ms) rs N ∧ W.heap[bs]? = some (.cells cs t (0, 0)) ∧ W.cell? ⟨w.heap.size, 0, none⟩ = some (.pointer (some ⟨bs, os, none⟩))) := hstage
      have HRL : Hid ((∀ x, gr = some x → x < w.heap.size) ∧ bs < w.heap.size ∧ g < w.heap.size) := ⟨hrlt, hlt, hglt⟩
      have HN : Hid (N + ms.length ≤ 1099511627776) := hN
      have HR : Hid (∀ z ∈ ms, inRange z) := hR
      have HCA : Hid ((w.alloc (.cells #[.pointer (some ⟨bs, os, none⟩)] 176)).cell? ⟨bs, os + 3, none⟩ = some (.slice (some ⟨g, 0, none⟩) (pre.length + ms.length) cap) ∧ (w.alloc (.cells #[.pointer (some ⟨bs, os, none⟩)] 176)).cell? ⟨bs, os + 3 + 1, none⟩ = some (.int .i64 pre.length)) := ⟨cA, cB⟩
      have HQ : Hid (pre.length + ms.length ≤ cap ∧ cap ≤ maxLen ∧ pre.length ≤ pre.length + ms.length ∧ ms.length ≤ 1099511627776 ∧ 0 < ms.length) := ⟨q1, q2, by omega, by omega, hpos⟩
      clear hb hS hb1 hS1 hmlt hrlt hbx f1 hlt hN hR c0 c1 hr hg hn he hgg q1 q2 q3 q4 q5 cA cB hst hcmp hsortQ hshow hstage hglt hn2 hm0 hpos
      go_enter Tryz.func120, Tryz.ntmps120
      go_wp2_with fail
      refine (wait_R bs (os + 3) _ cap g pre.length _ (by exact HCA.out.1) (by exact HCA.out.2) HQ.out.2.2.1 HQ.out.1 HQ.out.2.1).mono ?_
      rintro e w' ⟨h', hh, rfl, q, rfl⟩
      obtain rfl := hh (by have := HQ.out; omega)
      rw [show pre.length + ms.length - pre.length = ms.length by omega]
      clear hh
      go_wp2_with (go_at_call 134; refine (sort_calls (w0 := (w.alloc (.cells #[.pointer (some ⟨bs, os, none⟩)] 176))) (W := (w.alloc (.cells #[.pointer (some ⟨bs, os, none⟩)] 176)).drewN q) (blk := g) (off := pre.length) HCM.out ms rfl HQ.out.2.2.2.1 HR.out (HST.out.drewN q)).mono ?_; rintro e W2 ⟨rfl, hW2⟩; obtain ⟨k1, k2, k3⟩ := HSG.out W2 hW2)
      have hf2 : Fr (fun x => some x = some g) (w.alloc (.cells #[.pointer (some ⟨bs, os, none⟩)] 176)) W2 := hW2.1.mono (fun _ _ h => by rw [h])
      have hput := release_tail (w := (w.alloc (.cells #[.pointer (some ⟨bs, os, none⟩)] 176))) (W2 := W2) (ms := ms) (ss := sortC clsOf ms) (rs := rs) k2 k1 (HSH.out W2 hW2) (sortC_length _ _) HN.out hf2
      refine hput.mono ?_
      rintro e w3 ⟨rfl, hf3, hdrop⟩
      have cbx : w3.cell? ⟨w.heap.size, 0, none⟩ = some (.pointer (some ⟨bs, os, none⟩)) := by
        refine (World.cell?_of_block (w := W2) (hf3.block w.heap.size (by have := hf2.size; simp at this; omega) (fun h => ?_))).trans k3
        rcases h with h | h
        · have := HRL.out.2.1; omega
        · have := HRL.out.1 _ h.symm; omega
      have HD : Hid (∀ W4, Fr (fun _ => False) w3 W4 → Calls Tryz.prog 132 #[.pointer (some ⟨bs, os + 3, none⟩), .int .i64 ms.length] W4 fun e w5 => e = .returned (.tuple #[]) ∧ StageLeft mo (w.alloc (.cells #[.pointer (some ⟨bs, os, none⟩)] 176)) w5 hi bs cs t os B compat folds (some g) gr [] (rs ++ sortC clsOf ms) (N + ms.length)) := hdrop
      clear hdrop hput hf3 k1 k2 k3 hW2 hf2
      go_wp2_with fail
      refine (HD.out _ (Fr.refl _ _)).mono ?_
      rintro e w5 ⟨rfl, hl⟩
      go_wp2
      go_end0
      exact ⟨rfl, hl.to⟩

end Go.Proofs.YtmhaknejeobfgabGreatDoor

/- Stage3. -/
namespace Go.Proofs.YtmhaknejeobfgabGreatDoor
open Go.RowKit Go.Proofs.YtmhaknejeobfgabGreatDoor.Stable Go.Proofs.YtmhaknejeobfgabGreatDoor.Order
attribute [local go_sem ↓] Go.wp_at_zero Go.wp_at_succ
variable {mo : Nat}

/-- What a stage's method leaves that placed l; M bounds what ever went into its queues. -/
def Fed (mo : Nat) (w w' : World) (hi bs : Nat) (cs : Array Value) (t : TypeId) (os B : Nat) (compat folds : Bool) (gm gr : Option Nat) (ms rs l : List Int) (M : Nat) : Prop :=
  ∃ N, StageLeft (heldF mo ms l) w w' hi bs cs t os B compat folds gm gr (feed clsOf ms l).1 (rs ++ (feed clsOf ms l).2) N ∧ N + (feed clsOf ms l).1.length ≤ M + 2 * l.length

theorem NewOr.trans {w w1 : World} {g g1 g2 : Option Nat} (hs : w.heap.size ≤ w1.heap.size) (h : NewOr w g g1) (k : NewOr w1 g1 g2) : NewOr w g g2 := by
  rcases k with k | ⟨y, k, hy⟩
  · rw [k]; exact h
  · exact .inr ⟨y, k, by omega⟩

theorem StageLeft.comp {w w1 w2 : World} {hi bs : Nat} {cs cs1 : Array Value} {t : TypeId} {os B : Nat} {compat folds : Bool} {gm gr gm1 gr1 : Option Nat} {ms rs : List Int} {N : Nat} (p2 : cs1.size = cs.size) (p3 : ∀ i, i < os + 3 ∨ os + 8 ≤ i → cs1[i]? = cs[i]?) (p5 : NewOr w gm gm1) (p6 : NewOr w gr gr1) (p7 : Fr (fun x => x = bs ∨ some x = gm ∨ some x = gr) w w1)
    (h : StageLeft mo w1 w2 hi bs cs1 t os B compat folds gm1 gr1 ms rs N) : StageLeft mo w w2 hi bs cs t os B compat folds gm gr ms rs N := by
  obtain ⟨cs2, gm2, gr2, q1, q2, q3, q4, q5, q6, q7⟩ := h
  refine ⟨cs2, gm2, gr2, q1, by omega, fun i hi => (q3 i hi).trans (p3 i hi), q4, p5.trans p7.size q5, p6.trans p7.size q6, p7.trans q7 (fun i hi h => ?_)⟩
  rcases h with h | h | h
  · exact .inl h
  · rcases p5 with p | ⟨y, p, hy⟩
    · rw [p] at h; exact .inr (.inl h)
    · rw [p] at h; cases h; omega
  · rcases p6 with p | ⟨y, p, hy⟩
    · rw [p] at h; exact .inr (.inr h)
    · rw [p] at h; cases h; omega

theorem Fed.comp {w w1 w2 : World} {hi bs : Nat} {cs cs1 : Array Value} {t : TypeId} {os B : Nat} {compat folds : Bool} {gm gr gm1 gr1 : Option Nat} {ms rs l l' : List Int} {M : Nat} (p2 : cs1.size = cs.size) (p3 : ∀ i, i < os + 3 ∨ os + 8 ≤ i → cs1[i]? = cs[i]?) (p5 : NewOr w gm gm1) (p6 : NewOr w gr gr1) (p7 : Fr (fun x => x = bs ∨ some x = gm ∨ some x = gr) w w1)
    (h : Fed (heldF mo ms l) w1 w2 hi bs cs1 t os B compat folds gm1 gr1 (feed clsOf ms l).1 (rs ++ (feed clsOf ms l).2) l' (M + 2 * l.length)) : Fed mo w w2 hi bs cs t os B compat folds gm gr ms rs (l ++ l') M := by
  obtain ⟨N, h1, h2⟩ := h
  refine ⟨N, ?_, ?_⟩
  · have := StageLeft.comp p2 p3 p5 p6 p7 h1
    rw [feed_append, ← List.append_assoc, heldF_append]
    exact this
  · rw [feed_append, List.length_append]
    dsimp only
    omega

/-- Nothing was placed. -/
theorem Fed.none {w w' : World} {hi bs : Nat} {cs : Array Value} {t : TypeId} {os B : Nat} {compat folds : Bool} {gm gr : Option Nat} {ms rs : List Int} {N M : Nat} (hb : w.heap[bs]? = some (.cells cs t (0, 0))) (hS : StageIs mo w hi bs cs os B compat folds gm gr ms rs N) (hM : N + ms.length ≤ M) (hf : Fr (fun _ => False) w w') : Fed mo w w' hi bs cs t os B compat folds gm gr ms rs [] M := by
  refine ⟨N, ⟨cs, gm, gr, (hf.block bs (lt_of hb) id).trans hb, rfl, fun _ _ => rfl, ?_, .inl rfl, .inl rfl, hf.mono (fun _ _ h => h.elim)⟩, by simpa [feed] using hM⟩
  simp only [feed, List.append_nil]
  exact hS.kept hf (fun _ _ => id) (fun _ _ => id) (fun _ _ => id)

theorem mark_inRange {ms : List Int} (h : ∀ z ∈ ms, clsOf z ≠ 0) : ∀ z ∈ ms, inRange z := fun z hz => by
  have := mark_range (h z hz)
  unfold inRange
  omega

theorem shows_new (w : World) (c : Int) : Shows (w.alloc (.cells #[.int .i32 c] 21)) .i32 (.slice (some ⟨w.heap.size, 0, none⟩) 1 1) (some w.heap.size) [c] := by
  refine .inr ⟨w.heap.size, 0, 1, _, _, rfl, rfl, heap_alloc_new w _, fun j hj => ?_⟩
  have hj0 : j = 0 := by simpa using hj
  subst hj0
  rfl

/-- A code point put into one of the two queues. -/
theorem put_one {w : World} {b o : Nat} {cs : Array Value} {t : TypeId} {g : Option Nat} {xs : List Int} {N : Nat} (c : Int) (hb : w.heap[b]? = some (.cells cs t (0, 0))) (hq : QIs w .i32 21 cs o g xs N) (hgb : g ≠ some b) (hN : N + 1 ≤ 1099511627776) :
    Calls Tryz.prog 137 #[.pointer (some ⟨b, o, none⟩), .slice (some ⟨w.heap.size, 0, none⟩) 1 1] (w.alloc (.cells #[.int .i32 c] 21)) fun e w' => e = .returned (.tuple #[]) ∧
      ∃ cs' g', w'.heap[b]? = some (.cells cs' t (0, 0)) ∧ cs'.size = cs.size ∧ (∀ i, i ≠ o → i ≠ o + 1 → cs'[i]? = cs[i]?) ∧ QIs w' .i32 21 cs' o g' (xs ++ [c]) (N + 1) ∧ (g' = g ∨ ∃ y, g' = some y ∧ w.heap.size ≤ y) ∧ Fr (fun x => x = b ∨ some x = g) w w' := by
  have f1 : Fr (fun x => x = b ∨ some x = g) w (w.alloc (.cells #[.int .i32 c] 21)) := (Fr.refl _ _).alloc _
  have f0 : Fr (fun _ => False) w (w.alloc (.cells #[.int .i32 c] 21)) := (Fr.refl _ _).alloc _
  have hlt := lt_of hb
  refine (Q_put_R (ys := [c]) ((f0.block b hlt id).trans hb) (hq.kept f0 (fun _ _ => id)) hgb (shows_new w c) (fun x hx => ?_) hN).mono ?_
  · cases hx
    refine ⟨by omega, fun e => ?_⟩
    have := hq.lt e.symm
    omega
  · rintro e w' ⟨rfl, cs', g', h1, h2, h3, h4, h5, h6⟩
    refine ⟨rfl, cs', g', h1, h2, h3, h4, ?_, f1.trans h6 (fun _ _ h => h)⟩
    rcases h5 with h | ⟨y, h, hy⟩
    · exact .inl h
    · exact .inr ⟨y, h, by simp at hy; omega⟩

theorem put_mark {w w' : World} {hi bs : Nat} {cs cs' : Array Value} {t : TypeId} {os B : Nat} {compat folds : Bool} {gm gr g' : Option Nat} {ms rs : List Int} {N M : Nat} {c : Int} (hb : w.heap[bs]? = some (.cells cs t (0, 0))) (hS : StageIs mo w hi bs cs os B compat folds gm gr ms rs N) (hM : N + ms.length ≤ M) (hc : clsOf c ≠ 0)
    (h1 : w'.heap[bs]? = some (.cells cs' t (0, 0))) (h2 : cs'.size = cs.size) (h3 : ∀ i, i ≠ os + 3 → i ≠ os + 3 + 1 → cs'[i]? = cs[i]?) (h4 : QIs w' .i32 21 cs' (os + 3) g' (ms ++ [c]) (N + 1)) (h5 : g' = gm ∨ ∃ y, g' = some y ∧ w.heap.size ≤ y) (h6 : Fr (fun x => x = bs ∨ some x = gm) w w') {W : World} (hW : Fr (fun _ => False) w' W) (v : Value) (hv : v = .int .i64 (max mo (ms.length + 1) : Nat)) :
    Fed mo w (W.setCell ⟨bs, os + 5, none⟩ v) hi bs cs t os B compat folds gm gr ms rs [c] M := by
  have e : feed clsOf ms [c] = (ms ++ [c], []) := by simp [feed, hc]
  have eh : heldF mo ms [c] = max mo (ms.length + 1) := by simp [heldF, hc]
  have hblt := lt_of hb
  have hnew : ∀ x, g' = some x → hi ≤ x ∧ x ≠ bs ∧ gr ≠ some x := by
    intro x hx
    rcases h5 with h | ⟨y, h, hy⟩
    · rw [h] at hx
      exact ⟨hS.him x hx, fun e => hS.gmb (by rw [hx, e]), hS.gmr x hx⟩
    · rw [h] at hx
      cases hx
      have h2 := hS.hib
      refine ⟨by omega, by omega, fun e => ?_⟩
      have := hS.qr.lt e
      omega
  obtain ⟨w2, hw2⟩ : ∃ w2, w2 = W.setCell ⟨bs, os + 5, none⟩ v := ⟨_, rfl⟩
  obtain ⟨cs2, hcs2⟩ : ∃ cs2, cs2 = cs'.setIfInBounds (os + 5) v := ⟨_, rfl⟩
  have k1 : w2.heap[bs]? = some (.cells cs2 t (0, 0)) := by
    rw [hw2, hcs2]
    exact set_of ((hW.block bs (lt_of h1) id).trans h1) _ _
  have k2 : cs2.size = cs.size := by rw [hcs2, Array.size_setIfInBounds, h2]
  have ks : os + 5 < cs'.size := by
    rw [h2]
    exact (Array.getElem?_eq_some_iff.1 hS.c5).1
  have kv : cs2[os + 5]? = some v := by rw [hcs2, Array.getElem?_setIfInBounds_self, if_pos ks]
  have k3' : ∀ i, i ≠ os + 5 → cs2[i]? = cs'[i]? := fun i hi => by rw [hcs2, Array.getElem?_setIfInBounds_ne (Ne.symm hi)]
  have k3 : ∀ i, i ≠ os + 3 → i ≠ os + 3 + 1 → i ≠ os + 5 → cs2[i]? = cs[i]? := fun i a b c => (k3' i c).trans (h3 i a b)
  have f2 : Fr (fun x => x = bs) w' w2 := by
    rw [hw2]
    exact (hW.mono (fun _ _ h => h.elim)).setCell _ _ (fun _ => rfl)
  have k4 : QIs w2 .i32 21 cs2 (os + 3) g' (ms ++ [c]) (N + 1) := (h4.kept f2 (fun x hx h => (hnew x hx).2.1 h)).cells (k3' _ (by omega)) (k3' _ (by omega))
  have k6 : Fr (fun x => x = bs ∨ some x = gm) w w2 := h6.trans f2 (fun _ _ h => .inl h)
  rw [← hw2]
  refine ⟨N + 1, ⟨cs2, g', gr, k1, k2, fun i hi => k3 i (by omega) (by omega) (by omega), ?_, h5, .inl rfl, k6.mono (fun _ _ h => ?_)⟩, ?_⟩
  · rw [e, eh]
    dsimp only
    rw [List.append_nil]
    refine ⟨hS.tab.kept k6 (fun x hx h => ?_), ?_, ?_, ?_, k4, kv.trans (by rw [hv]), ((hS.qr.kept k6 (fun x hx h => ?_)).cells (k3 _ (by omega) (by omega) (by omega)) (k3 _ (by omega) (by omega) (by omega))).mono (by omega), fun e => (hnew bs e).2.1 rfl, hS.grb, fun x hx => (hnew x hx).2.2, fun x hx => (hnew x hx).1, hS.hir, hS.hib⟩
    · rcases h with h | h
      · have := hS.hib; omega
      · have := hS.him x h.symm; omega
    · rw [k3 _ (by omega) (by omega) (by omega)]; exact hS.c0
    · rw [k3 _ (by omega) (by omega) (by omega)]; exact hS.c1
    · rw [k3 _ (by omega) (by omega) (by omega)]; exact hS.c2
    · rcases h with h | h
      · exact hS.grb (by rw [hx, h])
      · exact hS.gmr x h.symm hx
  · rcases h with h | h
    · exact .inl h
    · exact .inr (.inl h)
  · rw [e]
    simp
    omega

theorem Hid.mk0 {p : Prop} (h : p) : Hid p := h

theorem put_starter {w w' : World} {hi bs : Nat} {cs cs' : Array Value} {t : TypeId} {os B : Nat} {compat folds : Bool} {gm gr g' : Option Nat} {rs : List Int} {N : Nat} {c : Int} (hb : w.heap[bs]? = some (.cells cs t (0, 0))) (hS : StageIs mo w hi bs cs os B compat folds gm gr [] rs N)
    (h1 : w'.heap[bs]? = some (.cells cs' t (0, 0))) (h2 : cs'.size = cs.size) (h3 : ∀ i, i ≠ os + 6 → i ≠ os + 6 + 1 → cs'[i]? = cs[i]?) (h4 : QIs w' .i32 21 cs' (os + 6) g' (rs ++ [c]) (N + 1)) (h5 : g' = gr ∨ ∃ y, g' = some y ∧ w.heap.size ≤ y) (h6 : Fr (fun x => x = bs ∨ some x = gr) w w') :
    StageLeft mo w w' hi bs cs t os B compat folds gm gr [] (rs ++ [c]) (N + 1) := by
  have hblt := lt_of hb
  have hnew : ∀ x, g' = some x → hi ≤ x ∧ x ≠ bs ∧ gm ≠ some x := by
    intro x hx
    rcases h5 with h | ⟨y, h, hy⟩
    · rw [h] at hx
      exact ⟨hS.hir x hx, fun e => hS.grb (by rw [hx, e]), fun e => hS.gmr x e hx⟩
    · rw [h] at hx
      cases hx
      have h2 := hS.hib
      refine ⟨by omega, by omega, fun e => ?_⟩
      have := hS.qm.lt e
      omega
  refine ⟨cs', gm, g', h1, h2, fun i hi => h3 i (by omega) (by omega), ?_, .inl rfl, h5, h6.mono (fun _ _ h => ?_)⟩
  · refine ⟨hS.tab.kept h6 (fun x hx h => ?_), ?_, ?_, ?_, ((hS.qm.kept h6 (fun x hx h => ?_)).cells (h3 _ (by omega) (by omega)) (h3 _ (by omega) (by omega))).mono (by omega), ?_, h4, hS.gmb, fun e => (hnew bs e).2.1 rfl, fun x hx e => (hnew x e).2.2 hx, hS.him, fun x hx => (hnew x hx).1, hS.hib⟩
    · rcases h with h | h
      · have := hS.hib; omega
      · have := hS.hir x h.symm; omega
    · rw [h3 _ (by omega) (by omega)]; exact hS.c0
    · rw [h3 _ (by omega) (by omega)]; exact hS.c1
    · rw [h3 _ (by omega) (by omega)]; exact hS.c2
    · rcases h with h | h
      · exact hS.gmb (by rw [hx, h])
      · exact hS.gmr x hx h.symm
    · rw [h3 _ (by omega) (by omega)]; exact hS.c5
  · rcases h with h | h
    · exact .inl h
    · exact .inr (.inr h)

set_option maxRecDepth 100000 in
set_option maxHeartbeats 800000 in
theorem place_calls {w : World} {hi bs : Nat} {cs : Array Value} {t : TypeId} {os B : Nat} {compat folds : Bool} {gm gr : Option Nat} {ms rs : List Int} {N M : Nat} (c : Int) (hb : w.heap[bs]? = some (.cells cs t (0, 0))) (hS : StageIs mo w hi bs cs os B compat folds gm gr ms rs N) (hM : N + ms.length ≤ M) (hN : M + 2 ≤ 1099511627776) (hms : ∀ z ∈ ms, clsOf z ≠ 0) (h0 : -2147483648 ≤ c) (h1 : c ≤ 2147483647) :
    Calls Tryz.prog 128 #[.pointer (some ⟨bs, os, none⟩), .int .i32 c] w fun e w' => e = .returned (.tuple #[]) ∧ Fed mo w w' hi bs cs t os B compat folds gm gr ms rs [c] M := by
  have cT := cell_of hb hS.c0
  have hcls := (ok_all c).lo
  have hcls2 := (ok_all c).hi
  by_cases hc : clsOf c = 0
  · have hzb : (clsOf c != 0) = false := by simp [hc]
    have HB : Hid (w.heap[bs]? = some (.cells cs t (0, 0))) := hb
    have HS : Hid (StageIs mo w hi bs cs os B compat folds gm gr ms rs N) := hS
    have HM : Hid (N + ms.length ≤ M ∧ M + 2 ≤ 1099511627776) := ⟨hM, hN⟩
    have HMS : Hid (∀ z ∈ ms, clsOf z ≠ 0) := hms
    have HC : Hid (clsOf c = 0) := hc
    clear hb hS hM hN hms hc
    go_enter Tryz.func128, Tryz.ntmps128
    go_wp2_with (first | (go_at_call 93; refine (class_calls HS.out.tab c h0 h1).mono ?_; rintro e w' ⟨rfl, rfl⟩) | (go_at_call 120; refine (release_calls HB.out HS.out (by have := HM.out; omega) (mark_inRange HMS.out)).mono ?_; rintro e w1 ⟨rfl, cs1, gm1, gr1, p1, p2, p3, p4, p5, p6, p7⟩))
    refine (put_one c p1 p4.qr p4.grb (by have := HM.out; omega)).mono ?_
    rintro e w2 ⟨rfl, cs2, g2, q1, q2, q3, q4, q5, q6⟩
    go_wp2
    go_end0
    refine ⟨rfl, N + ms.length + 1, ?_, ?_⟩
    · have hl := put_starter p1 p4 q1 q2 q3 q4 q5 q6
      have := StageLeft.comp p2 p3 p5 p6 p7 hl
      simpa [feed, heldF, HC.out] using this
    · have := HM.out
      simp [feed, HC.out]
      omega
  · have hzb : (clsOf c != 0) = true := by simp [hc]
    have HB : Hid (w.heap[bs]? = some (.cells cs t (0, 0))) := hb
    have HS : Hid (StageIs mo w hi bs cs os B compat folds gm gr ms rs N) := hS
    have HM : Hid (N + ms.length ≤ M ∧ M + 2 ≤ 1099511627776) := ⟨hM, hN⟩
    have HC : Hid (¬ clsOf c = 0) := hc
    clear hb hS hM hN hms hc
    go_enter Tryz.func128, Tryz.ntmps128
    go_wp2_with (go_at_call 93; refine (class_calls HS.out.tab c h0 h1).mono ?_; rintro e w' ⟨rfl, hw⟩; have hw' := hw.symm; subst hw'; clear hw)
    refine (put_one c HB.out HS.out.qm HS.out.gmb (by have := HM.out; omega)).mono ?_
    rintro e w2 ⟨rfl, cs2, g2, q1, q2, q3, q4, q5, q6⟩
    have cH : w2.cell? ⟨bs, os + 5, none⟩ = some (.int .i64 mo) := cell_of q1 ((q3 _ (by omega) (by omega)).trans HS.out.c5)
    have fH := frozen_of q1 (os + 5)
    have HQ : Hid (w2.heap[bs]? = some (.cells cs2 t (0, 0)) ∧ QIs w2 .i32 21 cs2 (os + 3) g2 (ms ++ [c]) (N + 1)) := ⟨q1, q4⟩
    have HP : Hid (cs2.size = cs.size ∧ (∀ i, i ≠ os + 3 → i ≠ os + 3 + 1 → cs2[i]? = cs[i]?) ∧ (g2 = gm ∨ ∃ y, g2 = some y ∧ w.heap.size ≤ y) ∧ Fr (fun x => x = bs ∨ some x = gm) w w2) := ⟨q2, q3, q5, q6⟩
    clear q1 q2 q3 q4 q5 q6
    have HLN : Hid (∀ q, Calls Tryz.prog 131 #[.pointer (some ⟨bs, os + 3, none⟩)] (w2.drewN q) fun e w' => e = .returned (.int .i64 (ms.length + 1 : Nat)) ∧ ∃ q', w' = (w2.drewN q).drewN q') := Hid.mk0 (fun q => by
      refine (Q_len_R (w := w2.drewN q) HQ.out.1 (HQ.out.2.kept (S := fun _ => False) ((Fr.refl _ _).drewN q) (fun _ _ => id)) (by have := HM.out; omega)).mono ?_
      rintro e w' ⟨rfl, h⟩
      exact ⟨by simp, h⟩)
    go_wp2_with fail
    go_region_with (go_at_call 131; refine (HLN.out 1).mono ?_; rintro e w' ⟨rfl, q, rfl⟩)
    all_goals
      try simp only [Exit.then]
      go_wp2
      refine bodyPost_ret (results_none rfl _ _ _) rfl ?_
      refine ⟨rfl, ?_⟩
      exact put_mark HB.out HS.out HM.out.1 HC.out HQ.out.1 HP.out.1 HP.out.2.1 HQ.out.2 HP.out.2.2.1 HP.out.2.2.2 ((Fr.refl _ _).drewN _) _ (by congr 1; simp only [Int.max_def, Nat.max_def]; split <;> split <;> omega)

end Go.Proofs.YtmhaknejeobfgabGreatDoor

/- Stage4. -/
namespace Go.Proofs.YtmhaknejeobfgabGreatDoor
open Go.RowKit Go.Proofs.YtmhaknejeobfgabGreatDoor.Stable Go.Proofs.YtmhaknejeobfgabGreatDoor.Order
attribute [local go_sem ↓] Go.wp_at_zero Go.wp_at_succ
variable {mo : Nat}

/-- The folding that a stage looks up. -/
def foldS (folds : Bool) (c : Int) : List Int := if folds = true then foldOf c else []

set_option maxRecDepth 100000 in
theorem foldingOf_calls {w : World} {hi bs : Nat} {cs : Array Value} {t : TypeId} {os B : Nat} {compat folds : Bool} {gm gr : Option Nat} {ms rs : List Int} {N : Nat} (c : Int) (hb : w.heap[bs]? = some (.cells cs t (0, 0))) (hS : StageIs mo w hi bs cs os B compat folds gm gr ms rs N) (h0 : -2147483648 ≤ c) (h1 : c ≤ 2147483647) :
    Calls Tryz.prog 104 #[.pointer (some ⟨bs, os, none⟩), .int .i32 c] w fun e w' => ∃ a m, e = .returned (.slice a (foldS folds c).length m) ∧ Given w w' hi (.slice a (foldS folds c).length m) (foldS folds c) := by
  have cT := cell_of hb hS.c0
  have cF := cell_of hb hS.c2
  have hnot : ∀ (x : Bool) (w : World), (Op.unary .not (.bool x)).run Tryz.prog w = .ok (.bool (!x)) w := fun _ _ => rfl
  have HS : Hid (StageIs mo w hi bs cs os B compat folds gm gr ms rs N) := hS
  clear hS hb
  cases folds with
  | false =>
    go_enter Tryz.func104, Tryz.ntmps104
    go_wp2
    go_ret
    exact ⟨none, 0, rfl, none, .inl ⟨rfl, .inl rfl⟩, fun x hx => (by cases hx), Fr.refl _ _⟩
  | true =>
    go_enter Tryz.func104, Tryz.ntmps104
    go_wp2_with (go_at_call 127; refine (folding_calls HS.out.tab c h0 h1).mono ?_; rintro e w' ⟨a, m, rfl, hG⟩)
    go_ret
    exact ⟨a, m, rfl, hG⟩

/-- Taken apart in n steps at most. -/
def Flat (k : Bool) : Nat → Int → Prop
  | 0, c => partsOf k c = []
  | n + 1, c => ∀ p ∈ partsOf k c, Flat k n p

/-- What is to be seen of each row's parts and folding. -/
def partOk (c : Int) : Bool :=
  both (fun k => decide ((partsOf k c).length ≤ 18) && (partsOf k c).all (fun p => decide (0 ≤ p ∧ p ≤ 1114111) && (partsOf k p).all (fun q => (partsOf k q).isEmpty))) &&
  decide ((rawFold c).length ≤ 18) && (rawFold c).all (fun p => decide (0 ≤ p ∧ p ≤ 1114111))

theorem parts_ok : facts.all (fun r => partOk r.cp) = true := by decide +kernel

theorem parts_are (k : Bool) (c : Int) : (partsOf k c).length ≤ 18 ∧ (∀ p ∈ partsOf k c, 0 ≤ p ∧ p ≤ 1114111) ∧ Flat k 2 c := by
  rcases look_cases c with h | ⟨r, hr, rfl⟩
  · by_cases hs : 44032 ≤ c ∧ c ≤ 55203
    · have hP : partsOf k c = sylOf c := by unfold partsOf; rw [if_pos hs]
      have hR := syl_parts hs.1 hs.2
      refine ⟨?_, fun p hp => ?_, fun p hp q hq => ?_⟩
      · rw [hP]
        unfold sylOf
        split <;> simp
      · rw [hP] at hp
        have := hR p hp
        omega
      · rw [hP] at hp
        rw [syl_atom k (hR p hp)] at hq
        cases hq
    · have hP := parts_none k h hs
      refine ⟨by rw [hP]; simp, fun p hp => ?_, fun p hp => ?_⟩
      · rw [hP] at hp; cases hp
      · rw [hP] at hp; cases hp
  · have h := List.all_eq_true.1 parts_ok r hr
    unfold partOk at h
    rw [Bool.and_eq_true, Bool.and_eq_true] at h
    have h := both_all h.1.1 k
    rw [Bool.and_eq_true, decide_eq_true_eq] at h
    refine ⟨h.1, fun p hp => ?_, fun p hp q hq => ?_⟩
    · have := List.all_eq_true.1 h.2 p hp
      rw [Bool.and_eq_true, decide_eq_true_eq] at this
      exact this.1
    · have := List.all_eq_true.1 h.2 p hp
      rw [Bool.and_eq_true] at this
      exact List.isEmpty_iff.1 (List.all_eq_true.1 this.2 q hq)

theorem fold_are (c : Int) : (foldOf c).length ≤ 18 ∧ ∀ p ∈ foldOf c, 0 ≤ p ∧ p ≤ 1114111 := by
  unfold foldOf
  by_cases hz : 65 ≤ c ∧ c ≤ 90
  · rw [if_pos hz]
    refine ⟨by simp, fun p hp => ?_⟩
    rw [List.mem_singleton.1 hp]
    omega
  · rw [if_neg hz]
    rcases look_cases c with h | ⟨r, hr, rfl⟩
    · rw [fold_none h]
      exact ⟨by simp, fun p hp => by cases hp⟩
    · have h := List.all_eq_true.1 parts_ok r hr
      unfold partOk at h
      rw [Bool.and_eq_true, Bool.and_eq_true, decide_eq_true_eq] at h
      refine ⟨h.1.2, fun p hp => ?_⟩
      have := List.all_eq_true.1 h.2 p hp
      rwa [decide_eq_true_eq] at this

theorem apartN_nil {k : Bool} {c : Int} (h : partsOf k c = []) : ∀ n, apartN n k c = [c]
  | 0 => rfl
  | _ + 1 => by rw [apartN, if_pos h]

/-- From a world in which nothing has turned. -/
theorem Fed.of_fr {w w1 w2 : World} {hi bs : Nat} {cs : Array Value} {t : TypeId} {os B : Nat} {compat folds : Bool} {gm gr : Option Nat} {ms rs l : List Int} {M : Nat} (hf : Fr (fun _ => False) w w1) (h : Fed mo w1 w2 hi bs cs t os B compat folds gm gr ms rs l M) : Fed mo w w2 hi bs cs t os B compat folds gm gr ms rs l M := by
  obtain ⟨N, h1, h2⟩ := h
  exact ⟨N, StageLeft.comp rfl (fun _ _ => rfl) (.inl rfl) (.inl rfl) (hf.mono (fun _ _ h => h.elim)) h1, h2⟩

set_option maxRecDepth 100000 in
set_option maxHeartbeats 800000 in
theorem takeApart_nil {w : World} {hi bs : Nat} {cs : Array Value} {t : TypeId} {os B : Nat} {compat folds : Bool} {gm gr : Option Nat} {ms rs : List Int} {N M : Nat} (c : Int) (hb : w.heap[bs]? = some (.cells cs t (0, 0))) (hS : StageIs mo w hi bs cs os B compat folds gm gr ms rs N) (hM : N + ms.length ≤ M) (hN : M + 2 ≤ 1099511627776) (hms : ∀ z ∈ ms, clsOf z ≠ 0) (h0 : -2147483648 ≤ c) (h1 : c ≤ 2147483647) (hp : partsOf compat c = []) :
    Calls Tryz.prog 105 #[.pointer (some ⟨bs, os, none⟩), .int .i32 c] w fun e w' => e = .returned (.tuple #[]) ∧ Fed mo w w' hi bs cs t os B compat folds gm gr ms rs [c] M := by
  have cT := cell_of hb hS.c0
  have cK := cell_of hb hS.c1
  have HB : Hid (w.heap[bs]? = some (.cells cs t (0, 0))) := hb
  have HS : Hid (StageIs mo w hi bs cs os B compat folds gm gr ms rs N) := hS
  have HM : Hid (N + ms.length ≤ M ∧ M + 2 ≤ 1099511627776) := ⟨hM, hN⟩
  have HMS : Hid (∀ z ∈ ms, clsOf z ≠ 0) := hms
  have HP : Hid (partsOf compat c = []) := hp
  clear hb hS hM hN hms hp
  go_enter Tryz.func105, Tryz.ntmps105
  go_wp2_with fail
  go_region_held3 (fun w' => w'.cell? ⟨bs, os, none⟩ = some (.map (some B)) ∧ w'.cell? ⟨bs, os + 1, none⟩ = some (.bool compat)) (go_keep)
    (first | (go_at_call 115; refine (parts_calls (HS.out.tab.kept (S := fun _ => False) (Fr.refl _ _).drew (fun _ _ => id)) c h0 h1 compat).mono ?_; rw [HP.out]; rintro e w1 ⟨a, m, rfl, g, _, _, hf1d⟩; have hf1 := Fr.of_drew hf1d; clear hf1d; have hb1 := (hf1.block bs (lt_of HB.out) id).trans HB.out; have cT1 := cell_of hb1 HS.out.c0; have cK1 := cell_of hb1 HS.out.c1; have HB1 : Hid (w1.heap[bs]? = some (.cells cs t (0, 0))) := hb1; clear hb1))
  go_wp2_with (go_at_call 128; refine (place_calls (M := M) c HB1.out (HS.out.kept hf1 (fun _ _ => id) (fun _ _ => id) (fun _ _ => id)) HM.out.1 HM.out.2 HMS.out h0 h1).mono ?_; rintro e w2 ⟨rfl, hFed⟩)
  go_loopw [25] (fun vi wr => vi = .int .i64 0 ∧ Hid (Fed mo w1 wr hi bs cs t os B compat folds gm gr ms rs [c] M)) (fun _ _ => 0)
  case atStart => exact ⟨rfl, hFed⟩
  case round =>
    obtain ⟨rfl, hh⟩ := hrel
    go_wp2
    go_end0
    exact ⟨rfl, hh.out.of_fr hf1⟩

theorem take_flat {f : Int → List Int} {ps : List Int} {k : Nat} {p : Int} (h : ps[k]? = some p) : (ps.take (k + 1)).flatMap f = (ps.take k).flatMap f ++ f p := by
  rw [List.take_add_one, h]
  simp

theorem take_flat_le {f : Int → List Int} {ps : List Int} {k : Nat} {p : Int} (h : ps[k]? = some p) : ((ps.take k).flatMap f).length + (f p).length ≤ (ps.flatMap f).length := by
  have e : ps.flatMap f = (ps.take (k + 1)).flatMap f ++ (ps.drop (k + 1)).flatMap f := by rw [← List.flatMap_append, List.take_append_drop]
  rw [e, take_flat h]
  simp only [List.length_append]
  omega

set_option maxRecDepth 100000 in
set_option maxHeartbeats 1600000 in
theorem takeApart_step {w : World} {hi bs : Nat} {cs : Array Value} {t : TypeId} {os B : Nat} {compat folds : Bool} {gm gr : Option Nat} {ms rs : List Int} {N M : Nat} (c : Int) (hb : w.heap[bs]? = some (.cells cs t (0, 0))) (hS : StageIs mo w hi bs cs os B compat folds gm gr ms rs N) (hM : N + ms.length ≤ M) (hms : ∀ z ∈ ms, clsOf z ≠ 0) (h0 : -2147483648 ≤ c) (h1 : c ≤ 2147483647) (f : Int → List Int) (hp : partsOf compat c ≠ []) (hpl : (partsOf compat c).length ≤ 18) (hpr : ∀ p ∈ partsOf compat c, 0 ≤ p ∧ p ≤ 1114111) (hN : M + 2 * ((partsOf compat c).flatMap f).length ≤ 1099511627776)
    (ih : ∀ (mo : Nat) (w : World) (cs : Array Value) (gm gr : Option Nat) (ms rs : List Int) (N M : Nat) (p : Int), p ∈ partsOf compat c → w.heap[bs]? = some (.cells cs t (0, 0)) → StageIs mo w hi bs cs os B compat folds gm gr ms rs N → N + ms.length ≤ M → M + 2 * (f p).length ≤ 1099511627776 → (∀ z ∈ ms, clsOf z ≠ 0) → 
      Calls Tryz.prog 105 #[.pointer (some ⟨bs, os, none⟩), .int .i32 p] w fun e w' => e = .returned (.tuple #[]) ∧ Fed mo w w' hi bs cs t os B compat folds gm gr ms rs (f p) M) :
    Calls Tryz.prog 105 #[.pointer (some ⟨bs, os, none⟩), .int .i32 c] w fun e w' => e = .returned (.tuple #[]) ∧ Fed mo w w' hi bs cs t os B compat folds gm gr ms rs ((partsOf compat c).flatMap f) M := by
  have cT := cell_of hb hS.c0
  have cK := cell_of hb hS.c1
  have hpos : 0 < (partsOf compat c).length := List.length_pos_iff.2 hp
  obtain ⟨ps, hps⟩ : ∃ ps, partsOf compat c = ps := ⟨_, rfl⟩
  have HB : Hid (w.heap[bs]? = some (.cells cs t (0, 0))) := hb
  have HS : Hid (StageIs mo w hi bs cs os B compat folds gm gr ms rs N) := hS
  have HM : Hid (N + ms.length ≤ M ∧ M + 2 * (ps.flatMap f).length ≤ 1099511627776) := ⟨hM, hps ▸ hN⟩
  have HMS : Hid (∀ z ∈ ms, clsOf z ≠ 0) := hms
  have HP : Hid (partsOf compat c = ps) := hps
  have HR : Hid (∀ p ∈ ps, 0 ≤ p ∧ p ≤ 1114111) := hps ▸ hpr
  have HI : Hid (∀ (mo : Nat) (w : World) (cs : Array Value) (gm gr : Option Nat) (ms rs : List Int) (N M : Nat) (p : Int), p ∈ ps → w.heap[bs]? = some (.cells cs t (0, 0)) → StageIs mo w hi bs cs os B compat folds gm gr ms rs N → N + ms.length ≤ M → M + 2 * (f p).length ≤ 1099511627776 → (∀ z ∈ ms, clsOf z ≠ 0) → 
      Calls Tryz.prog 105 #[.pointer (some ⟨bs, os, none⟩), .int .i32 p] w fun e w' => e = .returned (.tuple #[]) ∧ Fed mo w w' hi bs cs t os B compat folds gm gr ms rs (f p) M) := hps ▸ ih
  rw [hps] at hpos hpl ⊢
  have hz : ((ps.length : Int) == 0) = false := by rw [beq_eq_false_iff_ne]; omega
  clear hb hS hM hN hms hp hps hpr ih
  go_enter Tryz.func105, Tryz.ntmps105
  go_wp2_with fail
  go_region_held3 (fun w' => w'.cell? ⟨bs, os, none⟩ = some (.map (some B)) ∧ w'.cell? ⟨bs, os + 1, none⟩ = some (.bool compat)) (go_keep)
    (first | (go_at_call 115; refine (parts_calls (HS.out.tab.kept (S := fun _ => False) (Fr.refl _ _).drew (fun _ _ => id)) c h0 h1 compat).mono ?_; rw [HP.out]; rintro e w1 ⟨a, m, rfl, g, hsh, hg, hf1d⟩; have hf1 := Fr.of_drew hf1d; clear hf1d; have hb1 := (hf1.block bs (lt_of HB.out) id).trans HB.out; have cT1 := cell_of hb1 HS.out.c0; have cK1 := cell_of hb1 HS.out.c1; have HB1 : Hid (w1.heap[bs]? = some (.cells cs t (0, 0))) := hb1; clear hb1; have HSH : Hid (Shows w1 .i32 (.slice a ps.length m) g ps ∧ ∀ x, g = some x → x < hi ∨ w.heap.size ≤ x) := ⟨hsh, hg⟩; clear hsh hg))
  go_wp2_with fail
  go_loopw [25] (fun vi wr => ∃ k : Nat, vi = .int .i64 k ∧ k ≤ ps.length ∧ Hid (Fed mo w1 wr hi bs cs t os B compat folds gm gr ms rs ((ps.take k).flatMap f) M)) (fun vi _ => ps.length - (intOf vi).toNat)
  case atStart =>
    refine ⟨0, rfl, Nat.zero_le _, ?_⟩
    have := Fed.none HB1.out (HS.out.kept hf1 (fun _ _ => id) (fun _ _ => id) (fun _ _ => id)) HM.out.1 (Fr.refl (fun _ => False) w1)
    exact this
  case round =>
    obtain ⟨k, rfl, hk, hh⟩ := hrel
    by_cases hlt : k < ps.length
    · obtain ⟨p, hpk⟩ : ∃ p, ps[k]? = some p := ⟨_, List.getElem?_eq_getElem hlt⟩
      obtain ⟨N2, ⟨cs2, gm2, gr2, p1, p2, p3, p4, p5, p6, p7⟩, hN2⟩ := hh.out
      have hpm : p ∈ ps := List.mem_of_getElem? hpk
      have hpr := HR.out p hpm
      obtain ⟨x, o, rfl, cX⟩ : ∃ x o, a = some ⟨x, o, none⟩ ∧ wr.cell? ⟨x, o + k, none⟩ = some (.int .i32 p) := by
        rcases HSH.out.1 with ⟨h, _⟩ | ⟨x, o, c', cur, e, hgx, hv, hx, hcur⟩
        · rw [h] at hlt
          exact absurd hlt (by simp)
        · cases hv
          refine ⟨x, o, rfl, ?_⟩
          have hxl := lt_of hx
          have hne : ¬ (x = bs ∨ some x = gm ∨ some x = gr) := by
            have hbl := lt_of HB.out
            rintro (h | h | h)
            · have h3 := HS.out.hib
              rcases HSH.out.2 x hgx with h2 | h2
              · omega
              · omega
            · have h3 := HS.out.him x h.symm
              have h4 := HS.out.qm.lt h.symm
              rcases HSH.out.2 x hgx with h2 | h2
              · omega
              · omega
            · have h3 := HS.out.hir x h.symm
              have h4 := HS.out.qr.lt h.symm
              rcases HSH.out.2 x hgx with h2 | h2
              · omega
              · omega
          have := hcur k hlt
          rw [hpk] at this
          exact cell_of ((p7.block x hxl hne).trans hx) this
      have i0 : (0 : Int) ≤ (k : Int) := by omega
      have i1 : (k : Int) < (ps.length : Int) := by omega
      have HST : Hid (wr.heap[bs]? = some (.cells cs2 t (0, 0)) ∧ StageIs (heldF mo ms ((ps.take k).flatMap f)) wr hi bs cs2 os B compat folds gm2 gr2 (feed clsOf ms ((ps.take k).flatMap f)).1 (rs ++ (feed clsOf ms ((ps.take k).flatMap f)).2) N2 ∧ N2 + (feed clsOf ms ((ps.take k).flatMap f)).1.length ≤ M + 2 * ((ps.take k).flatMap f).length) := ⟨p1, p4, hN2⟩
      have HPK : Hid (ps[k]? = some p) := hpk
      have HCO : Hid (cs2.size = cs.size ∧ (∀ i, i < os + 3 ∨ os + 8 ≤ i → cs2[i]? = cs[i]?) ∧ NewOr w1 gm gm2 ∧ NewOr w1 gr gr2 ∧ Fr (fun x => x = bs ∨ some x = gm ∨ some x = gr) w1 wr) := ⟨p2, p3, p5, p6, p7⟩
      clear hh p1 p2 p3 p4 p5 p6 p7 hN2 hpk
      go_wp2_with (go_at_call 105; refine (HI.out _ _ cs2 gm2 gr2 _ _ N2 (M + 2 * ((ps.take k).flatMap f).length) p hpm HST.out.1 HST.out.2.1 HST.out.2.2 (by have := take_flat_le (f := f) HPK.out; have := HM.out; omega) (feed_marks clsOf _ _ HMS.out)).mono ?_; rintro e w2 ⟨rfl, hFed⟩)
      refine ⟨⟨k + 1, by go_num, by omega, ?_⟩, by simp [intOf]; omega⟩
      have hres := Fed.comp HCO.out.1 HCO.out.2.1 HCO.out.2.2.1 HCO.out.2.2.2.1 HCO.out.2.2.2.2 hFed
      rw [take_flat HPK.out]
      exact hres
    · obtain rfl : k = ps.length := by omega
      go_wp2
      go_end0
      have hF := hh.out
      rw [List.take_length] at hF
      exact ⟨rfl, hF.of_fr hf1⟩

theorem takeApart_n {hi bs : Nat} {t : TypeId} {os B : Nat} {compat folds : Bool} : ∀ (n mo : Nat) (w : World) (cs : Array Value) (gm gr : Option Nat) (ms rs : List Int) (N M : Nat) (c : Int), Flat compat n c → w.heap[bs]? = some (.cells cs t (0, 0)) → StageIs mo w hi bs cs os B compat folds gm gr ms rs N → N + ms.length ≤ M → M + 2 * (apartN n compat c).length ≤ 1099511627776 → (∀ z ∈ ms, clsOf z ≠ 0) → -2147483648 ≤ c → c ≤ 2147483647 →
    Calls Tryz.prog 105 #[.pointer (some ⟨bs, os, none⟩), .int .i32 c] w fun e w' => e = .returned (.tuple #[]) ∧ Fed mo w w' hi bs cs t os B compat folds gm gr ms rs (apartN n compat c) M
  | 0, mo, w, cs, gm, gr, ms, rs, N, M, c, hF, hb, hS, hM, hN, hms, h0, h1 => takeApart_nil c hb hS hM hN hms h0 h1 hF
  | n + 1, mo, w, cs, gm, gr, ms, rs, N, M, c, hF, hb, hS, hM, hN, hms, h0, h1 => by
    by_cases hp : partsOf compat c = []
    · rw [apartN_nil hp] at hN ⊢
      exact takeApart_nil c hb hS hM hN hms h0 h1 hp
    · rw [apartN, if_neg hp] at hN ⊢
      obtain ⟨q1, q2, _⟩ := parts_are compat c
      refine takeApart_step c hb hS hM hms h0 h1 (apartN n compat) hp q1 q2 hN (fun mo w cs gm gr ms rs N M p hpm hb hS hM hN hms => ?_)
      have := q2 p hpm
      exact takeApart_n n mo w cs gm gr ms rs N M p (hF p hpm) hb hS hM hN hms (by omega) (by omega)

theorem takeApart_calls {w : World} {hi bs : Nat} {cs : Array Value} {t : TypeId} {os B : Nat} {compat folds : Bool} {gm gr : Option Nat} {ms rs : List Int} {N M : Nat} (c : Int) (hb : w.heap[bs]? = some (.cells cs t (0, 0))) (hS : StageIs mo w hi bs cs os B compat folds gm gr ms rs N) (hM : N + ms.length ≤ M) (hN : M + 2 * (apart compat c).length ≤ 1099511627776) (hms : ∀ z ∈ ms, clsOf z ≠ 0) (h0 : -2147483648 ≤ c) (h1 : c ≤ 2147483647) :
    Calls Tryz.prog 105 #[.pointer (some ⟨bs, os, none⟩), .int .i32 c] w fun e w' => e = .returned (.tuple #[]) ∧ Fed mo w w' hi bs cs t os B compat folds gm gr ms rs (apart compat c) M :=
  takeApart_n 2 mo w cs gm gr ms rs N M c (parts_are compat c).2.2 hb hS hM hN hms h0 h1

end Go.Proofs.YtmhaknejeobfgabGreatDoor

/- Stage5. -/
namespace Go.Proofs.YtmhaknejeobfgabGreatDoor
open Go.RowKit Go.Proofs.YtmhaknejeobfgabGreatDoor.Stable Go.Proofs.YtmhaknejeobfgabGreatDoor.Order
attribute [local go_sem ↓] Go.wp_at_zero Go.wp_at_succ
variable {mo : Nat}

theorem pieces_nil {compat folds : Bool} {c : Int} (h : foldS folds c = []) : pieces compat folds c = apart compat c := by
  unfold pieces foldL
  unfold foldS at h
  cases folds with
  | false => simp
  | true =>
    simp only [if_true] at h ⊢
    rw [if_pos h]
    simp

theorem pieces_fold {compat folds : Bool} {c : Int} (h : foldS folds c ≠ []) : pieces compat folds c = (foldS folds c).flatMap (apart compat) := by
  unfold pieces foldL
  unfold foldS at h ⊢
  cases folds with
  | false => exact absurd rfl h
  | true =>
    simp only [if_true] at h ⊢
    rw [if_neg h]

theorem foldS_are (folds : Bool) (c : Int) : (foldS folds c).length ≤ 18 ∧ ∀ p ∈ foldS folds c, 0 ≤ p ∧ p ≤ 1114111 := by
  unfold foldS
  cases folds with
  | false => simp
  | true =>
    simp only [if_true]
    exact fold_are c

set_option maxRecDepth 100000 in
set_option maxHeartbeats 800000 in
theorem put_plain {w : World} {hi bs : Nat} {cs : Array Value} {t : TypeId} {os B : Nat} {compat folds : Bool} {gm gr : Option Nat} {ms rs : List Int} {N M : Nat} (c : Int) (hb : w.heap[bs]? = some (.cells cs t (0, 0))) (hS : StageIs mo w hi bs cs os B compat folds gm gr ms rs N) (hM : N + ms.length ≤ M) (hN : M + 2 * (apart compat c).length ≤ 1099511627776) (hms : ∀ z ∈ ms, clsOf z ≠ 0) (h0 : -2147483648 ≤ c) (h1 : c ≤ 2147483647) (hp : foldS folds c = []) :
    Calls Tryz.prog 78 #[.pointer (some ⟨bs, os, none⟩), .int .i32 c] w fun e w' => e = .returned (.tuple #[]) ∧ Fed mo w w' hi bs cs t os B compat folds gm gr ms rs (apart compat c) M := by
  have HB : Hid (w.heap[bs]? = some (.cells cs t (0, 0))) := hb
  have HS : Hid (StageIs mo w hi bs cs os B compat folds gm gr ms rs N) := hS
  have HM : Hid (N + ms.length ≤ M ∧ M + 2 * (apart compat c).length ≤ 1099511627776) := ⟨hM, hN⟩
  have HMS : Hid (∀ z ∈ ms, clsOf z ≠ 0) := hms
  have HP : Hid (foldS folds c = []) := hp
  clear hb hS hM hN hms hp
  go_enter Tryz.func78, Tryz.ntmps78
  go_wp2_with (first | (go_at_call 104; refine (foldingOf_calls c HB.out HS.out h0 h1).mono ?_; rw [HP.out]; rintro e w1 ⟨a, m, rfl, g, _, _, hf1⟩; have HB1 : Hid (w1.heap[bs]? = some (.cells cs t (0, 0))) := (hf1.block bs (lt_of HB.out) id).trans HB.out) | (go_at_call 105; refine (takeApart_calls (M := M) c HB1.out (HS.out.kept hf1 (fun _ _ => id) (fun _ _ => id) (fun _ _ => id)) HM.out.1 HM.out.2 HMS.out h0 h1).mono ?_; rintro e w2 ⟨rfl, hFed⟩))
  go_loopw [18] (fun vi wr => vi = .int .i64 0 ∧ Hid (Fed mo w1 wr hi bs cs t os B compat folds gm gr ms rs (apart compat c) M)) (fun _ _ => 0)
  case atStart => exact ⟨rfl, hFed⟩
  case round =>
    obtain ⟨rfl, hh⟩ := hrel
    go_wp2
    go_end0
    exact ⟨rfl, hh.out.of_fr hf1⟩

set_option maxRecDepth 100000 in
set_option maxHeartbeats 1600000 in
theorem put_folded {w : World} {hi bs : Nat} {cs : Array Value} {t : TypeId} {os B : Nat} {compat folds : Bool} {gm gr : Option Nat} {ms rs : List Int} {N M : Nat} (c : Int) (hb : w.heap[bs]? = some (.cells cs t (0, 0))) (hS : StageIs mo w hi bs cs os B compat folds gm gr ms rs N) (hM : N + ms.length ≤ M) (hms : ∀ z ∈ ms, clsOf z ≠ 0) (h0 : -2147483648 ≤ c) (h1 : c ≤ 2147483647) (hp : foldS folds c ≠ []) (hN : M + 2 * ((foldS folds c).flatMap (apart compat)).length ≤ 1099511627776) :
    Calls Tryz.prog 78 #[.pointer (some ⟨bs, os, none⟩), .int .i32 c] w fun e w' => e = .returned (.tuple #[]) ∧ Fed mo w w' hi bs cs t os B compat folds gm gr ms rs ((foldS folds c).flatMap (apart compat)) M := by
  obtain ⟨hpl, hpr⟩ := foldS_are folds c
  have hpos : 0 < (foldS folds c).length := List.length_pos_iff.2 hp
  obtain ⟨ps, hps⟩ : ∃ ps, foldS folds c = ps := ⟨_, rfl⟩
  have HB : Hid (w.heap[bs]? = some (.cells cs t (0, 0))) := hb
  have HS : Hid (StageIs mo w hi bs cs os B compat folds gm gr ms rs N) := hS
  have HM : Hid (N + ms.length ≤ M ∧ M + 2 * (ps.flatMap (apart compat)).length ≤ 1099511627776) := ⟨hM, hps ▸ hN⟩
  have HMS : Hid (∀ z ∈ ms, clsOf z ≠ 0) := hms
  have HP : Hid (foldS folds c = ps) := hps
  have HR : Hid (∀ p ∈ ps, 0 ≤ p ∧ p ≤ 1114111) := hps ▸ hpr
  rw [hps] at hpos hpl ⊢
  have hz : ((ps.length : Int) == 0) = false := by rw [beq_eq_false_iff_ne]; omega
  clear hb hS hM hN hms hp hps hpr
  go_enter Tryz.func78, Tryz.ntmps78
  go_wp2_with (go_at_call 104; refine (foldingOf_calls c HB.out HS.out h0 h1).mono ?_; rw [HP.out]; rintro e w1 ⟨a, m, rfl, g, hsh, hg, hf1⟩; have HB1 : Hid (w1.heap[bs]? = some (.cells cs t (0, 0))) := (hf1.block bs (lt_of HB.out) id).trans HB.out; have HSH : Hid (Shows w1 .i32 (.slice a ps.length m) g ps ∧ ∀ x, g = some x → x < hi ∨ w.heap.size ≤ x) := ⟨hsh, hg⟩; clear hsh hg)
  go_loopw [18] (fun vi wr => ∃ k : Nat, vi = .int .i64 k ∧ k ≤ ps.length ∧ Hid (Fed mo w1 wr hi bs cs t os B compat folds gm gr ms rs ((ps.take k).flatMap (apart compat)) M)) (fun vi _ => ps.length - (intOf vi).toNat)
  case atStart =>
    refine ⟨0, rfl, Nat.zero_le _, ?_⟩
    have := Fed.none HB1.out (HS.out.kept hf1 (fun _ _ => id) (fun _ _ => id) (fun _ _ => id)) HM.out.1 (Fr.refl (fun _ => False) w1)
    exact this
  case round =>
    obtain ⟨k, rfl, hk, hh⟩ := hrel
    by_cases hlt : k < ps.length
    · obtain ⟨p, hpk⟩ : ∃ p, ps[k]? = some p := ⟨_, List.getElem?_eq_getElem hlt⟩
      obtain ⟨N2, ⟨cs2, gm2, gr2, p1, p2, p3, p4, p5, p6, p7⟩, hN2⟩ := hh.out
      have hpm : p ∈ ps := List.mem_of_getElem? hpk
      have hpr := HR.out p hpm
      obtain ⟨x, o, rfl, cX⟩ : ∃ x o, a = some ⟨x, o, none⟩ ∧ wr.cell? ⟨x, o + k, none⟩ = some (.int .i32 p) := by
        rcases HSH.out.1 with ⟨h, _⟩ | ⟨x, o, c', cur, e, hgx, hv, hx, hcur⟩
        · rw [h] at hlt
          exact absurd hlt (by simp)
        · cases hv
          refine ⟨x, o, rfl, ?_⟩
          have hxl := lt_of hx
          have hne : ¬ (x = bs ∨ some x = gm ∨ some x = gr) := by
            have hbl := lt_of HB.out
            rintro (h | h | h)
            · have h3 := HS.out.hib
              rcases HSH.out.2 x hgx with h2 | h2
              · omega
              · omega
            · have h3 := HS.out.him x h.symm
              have h4 := HS.out.qm.lt h.symm
              rcases HSH.out.2 x hgx with h2 | h2
              · omega
              · omega
            · have h3 := HS.out.hir x h.symm
              have h4 := HS.out.qr.lt h.symm
              rcases HSH.out.2 x hgx with h2 | h2
              · omega
              · omega
          have := hcur k hlt
          rw [hpk] at this
          exact cell_of ((p7.block x hxl hne).trans hx) this
      have i0 : (0 : Int) ≤ (k : Int) := by omega
      have i1 : (k : Int) < (ps.length : Int) := by omega
      have HST : Hid (wr.heap[bs]? = some (.cells cs2 t (0, 0)) ∧ StageIs (heldF mo ms ((ps.take k).flatMap (apart compat))) wr hi bs cs2 os B compat folds gm2 gr2 (feed clsOf ms ((ps.take k).flatMap (apart compat))).1 (rs ++ (feed clsOf ms ((ps.take k).flatMap (apart compat))).2) N2 ∧ N2 + (feed clsOf ms ((ps.take k).flatMap (apart compat))).1.length ≤ M + 2 * ((ps.take k).flatMap (apart compat)).length) := ⟨p1, p4, hN2⟩
      have HPK : Hid (ps[k]? = some p) := hpk
      have HCO : Hid (cs2.size = cs.size ∧ (∀ i, i < os + 3 ∨ os + 8 ≤ i → cs2[i]? = cs[i]?) ∧ NewOr w1 gm gm2 ∧ NewOr w1 gr gr2 ∧ Fr (fun x => x = bs ∨ some x = gm ∨ some x = gr) w1 wr) := ⟨p2, p3, p5, p6, p7⟩
      clear hh p1 p2 p3 p4 p5 p6 p7 hN2 hpk
      go_wp2_with (go_at_call 105; refine (takeApart_calls (M := M + 2 * ((ps.take k).flatMap (apart compat)).length) p HST.out.1 HST.out.2.1 HST.out.2.2 (by have := take_flat_le (f := apart compat) HPK.out; have := HM.out; omega) (feed_marks clsOf _ _ HMS.out) (by omega) (by omega)).mono ?_; rintro e w2 ⟨rfl, hFed⟩)
      refine ⟨⟨k + 1, by go_num, by omega, ?_⟩, by simp [intOf]; omega⟩
      have hres := Fed.comp HCO.out.1 HCO.out.2.1 HCO.out.2.2.1 HCO.out.2.2.2.1 HCO.out.2.2.2.2 hFed
      rw [take_flat HPK.out]
      exact hres
    · obtain rfl : k = ps.length := by omega
      go_wp2
      go_end0
      have hF := hh.out
      rw [List.take_length] at hF
      exact ⟨rfl, hF.of_fr hf1⟩

/-- A code point goes into a stage. -/
theorem stagePut_calls {w : World} {hi bs : Nat} {cs : Array Value} {t : TypeId} {os B : Nat} {compat folds : Bool} {gm gr : Option Nat} {ms rs : List Int} {N M : Nat} (c : Int) (hb : w.heap[bs]? = some (.cells cs t (0, 0))) (hS : StageIs mo w hi bs cs os B compat folds gm gr ms rs N) (hM : N + ms.length ≤ M) (hN : M + 2 * (pieces compat folds c).length ≤ 1099511627776) (hms : ∀ z ∈ ms, clsOf z ≠ 0) (h0 : -2147483648 ≤ c) (h1 : c ≤ 2147483647) :
    Calls Tryz.prog 78 #[.pointer (some ⟨bs, os, none⟩), .int .i32 c] w fun e w' => e = .returned (.tuple #[]) ∧ Fed mo w w' hi bs cs t os B compat folds gm gr ms rs (pieces compat folds c) M := by
  by_cases hp : foldS folds c = []
  · rw [pieces_nil hp] at hN ⊢
    exact put_plain c hb hS hM hN hms h0 h1 hp
  · rw [pieces_fold hp] at hN ⊢
    exact put_folded c hb hS hM hms h0 h1 hp hN

/-- What a stage's Take leaves. -/
def Took (mo : Nat) (w w' : World) (hi bs : Nat) (cs : Array Value) (t : TypeId) (os B : Nat) (compat folds : Bool) (gm gr : Option Nat) (ms rs : List Int) (N : Nat) : Prop :=
  ∃ cs', w'.heap[bs]? = some (.cells cs' t (0, 0)) ∧ cs'.size = cs.size ∧ (∀ i, i < os + 6 ∨ os + 8 ≤ i → cs'[i]? = cs[i]?) ∧ StageIs mo w' hi bs cs' os B compat folds gm gr ms rs N ∧ Fr (fun x => x = bs) w w'

set_option maxRecDepth 100000 in
theorem take_none {w : World} {hi bs : Nat} {cs : Array Value} {t : TypeId} {os B : Nat} {compat folds : Bool} {gm gr : Option Nat} {ms : List Int} {N : Nat} (hb : w.heap[bs]? = some (.cells cs t (0, 0))) (hS : StageIs mo w hi bs cs os B compat folds gm gr ms [] N) (hN : N ≤ 1099511627776) :
    Calls Tryz.prog 97 #[.pointer (some ⟨bs, os, none⟩)] w fun e w' => e = .returned (.tuple #[.int .i32 0, .bool false]) ∧ ∃ q, w' = w.drewN q := by
  have HB : Hid (w.heap[bs]? = some (.cells cs t (0, 0))) := hb
  have HS : Hid (StageIs mo w hi bs cs os B compat folds gm gr ms [] N) := hS
  have cT := cell_of hb hS.c0
  clear hb hS
  go_enter Tryz.func97, Tryz.ntmps97
  go_wp2_with (go_at_call 118; refine (Q_take_nil_R HB.out HS.out.qr hN).mono ?_; rintro e w' ⟨rfl, q, rfl⟩)
  go_ret2
  exact ⟨rfl, _, rfl⟩

set_option maxRecDepth 100000 in
theorem take_some {w : World} {hi bs : Nat} {cs : Array Value} {t : TypeId} {os B : Nat} {compat folds : Bool} {gm gr : Option Nat} {ms rs : List Int} {x : Int} {N : Nat} (hb : w.heap[bs]? = some (.cells cs t (0, 0))) (hS : StageIs mo w hi bs cs os B compat folds gm gr ms (x :: rs) N) (hN : N ≤ 1099511627776) :
    Calls Tryz.prog 97 #[.pointer (some ⟨bs, os, none⟩)] w fun e w' => e = .returned (.tuple #[.int .i32 x, .bool true]) ∧ Took mo w w' hi bs cs t os B compat folds gm gr ms rs N := by
  have HB : Hid (w.heap[bs]? = some (.cells cs t (0, 0))) := hb
  have HS : Hid (StageIs mo w hi bs cs os B compat folds gm gr ms (x :: rs) N) := hS
  have cT := cell_of hb hS.c0
  clear hb hS
  go_enter Tryz.func97, Tryz.ntmps97
  go_wp2_with (go_at_call 118; refine (Q_take_R HB.out HS.out.qr hN HS.out.grb).mono ?_; rintro e w' ⟨rfl, cs', q1, q2, q3, q4, q5⟩)
  go_ret2
  have hS := HS.out
  refine ⟨rfl, cs', q1, q2, fun i hi => q3 i (by omega) (by omega), ⟨hS.tab.kept q5 (fun y hy h => ?_), ?_, ?_, ?_, (hS.qm.kept q5 (fun y hy h => hS.gmb (by rw [hy, h]))).cells (q3 _ (by omega) (by omega)) (q3 _ (by omega) (by omega)), ?_, q4, hS.gmb, hS.grb, hS.gmr, hS.him, hS.hir, hS.hib⟩, q5⟩
  · have := hS.hib; omega
  · rw [q3 _ (by omega) (by omega)]; exact hS.c0
  · rw [q3 _ (by omega) (by omega)]; exact hS.c1
  · rw [q3 _ (by omega) (by omega)]; exact hS.c2
  · rw [q3 _ (by omega) (by omega)]; exact hS.c5

end Go.Proofs.YtmhaknejeobfgabGreatDoor
