/- Plain lists: a list that is sorted by a key and keeps, key by key, the order of another list is that list's stable sort; blocks that change places; no program is named here. Plain arrays and lists: what one exchange does to a list that is written out, and what the insertion sort of a part of an array comes to: the stable sort of that part. Blocks of memory: what a block holds, what a call may have turned, and a queue's row; no program is named here. Blocks of memory, more of them. The table as data, and what it tells of a code point: plain lists; no program is named here. The code points of a text, and the bytes of code points: plain lists; no program is named here. Code points that are ordered run by run: plain lists; what may change places, what stays. No program is named here. A mode's form in plain lists, by the table's rows: what a code point is taken apart into, what a stage makes of code points, what a mode makes of them; and what the rows tell of all code points (by the kernel). No program is named here. What follows of the forms, in plain lists: a form is its own form; what is the same in one mode is so in another; what may change places, what may stand for what; where a text may be cut. No program is named here. The order of code points is that of their bytes: plain lists. More of what follows, in plain lists: two marks of one class that may not change places, a code point that may not stand for another; where a text's code points begin. No program is named here. A line of stages in plain lists: what each has been given so far, what waits in it, what has come out; what has come out is a beginning of the form. No program is named here. -/
import Derived.Sort.Defs
import Derived.Sort.LotA
import Derived.WalkKit
import Derived.Deep.Draws
import Derived.Deep.AppendLies
import Derived.Lib.MapLaws
import GoSem.Op.String

/- Stable. -/
namespace Go.Proofs.YtmhaknejeobfgabGreatDoor.Stable

def SortedC (cls : Int → Int) (l : List Int) : Prop := l.Pairwise (fun x y => cls x ≤ cls y)

def SameC (cls : Int → Int) (l l' : List Int) : Prop := ∀ c, l'.filter (fun x => cls x == c) = l.filter (fun x => cls x == c)

theorem SameC.refl (cls : Int → Int) (l : List Int) : SameC cls l l := fun _ => rfl

theorem SameC.trans {cls : Int → Int} {a b c : List Int} (h : SameC cls a b) (k : SameC cls b c) : SameC cls a c := fun x => (k x).trans (h x)

theorem SameC.symm {cls : Int → Int} {a b : List Int} (h : SameC cls a b) : SameC cls b a := fun x => (h x).symm

theorem SameC.append {cls : Int → Int} {a b c d : List Int} (h : SameC cls a b) (k : SameC cls c d) : SameC cls (a ++ c) (b ++ d) := fun x => by
  rw [List.filter_append, List.filter_append, h x, k x]

theorem SameC.mem {cls : Int → Int} {a b : List Int} (h : SameC cls a b) {x : Int} : x ∈ b ↔ x ∈ a := by
  have e := h (cls x)
  have h1 : x ∈ b.filter (fun y => cls y == cls x) ↔ x ∈ b := by simp [List.mem_filter]
  have h2 : x ∈ a.filter (fun y => cls y == cls x) ↔ x ∈ a := by simp [List.mem_filter]
  rw [← h1, ← h2, e]

theorem SameC.nil {cls : Int → Int} {b : List Int} (h : SameC cls [] b) : b = [] := by
  cases b with
  | nil => rfl
  | cons x r => exact absurd ((h.mem (x := x)).1 (by simp)) (by simp)

/-- Sorted and the same key by key: one list. -/
theorem stable_unique {cls : Int → Int} : ∀ (a b : List Int), SortedC cls a → SortedC cls b → SameC cls a b → a = b
  | [], b, _, _, h => h.nil.symm
  | x :: a, [], _, _, h => by
    exact absurd ((h.mem (x := x)).2 (by simp)) (by simp)
  | x :: a, y :: b, ha, hb, h => by
    obtain ⟨ha1, ha2⟩ := List.pairwise_cons.1 ha
    obtain ⟨hb1, hb2⟩ := List.pairwise_cons.1 hb
    have hxy : cls x ≤ cls y := by
      have hm : y ∈ x :: a := h.mem.1 (by simp)
      rcases List.mem_cons.1 hm with rfl | hm
      · exact Int.le_refl _
      · exact ha1 y hm
    have hyx : cls y ≤ cls x := by
      have hm : x ∈ y :: b := h.mem.2 (by simp)
      rcases List.mem_cons.1 hm with rfl | hm
      · exact Int.le_refl _
      · exact hb1 x hm
    have hc : cls x = cls y := by omega
    have e := h (cls x)
    simp only [List.filter_cons] at e
    rw [if_pos (by simp [hc]), if_pos (by simp)] at e
    obtain ⟨rfl, _⟩ := List.cons.inj e
    have ht : SameC cls a b := fun c => by
      have e := h c
      simp only [List.filter_cons] at e
      split at e
      · exact (List.cons.inj e).2
      · exact e
    rw [stable_unique a b ha2 hb2 ht]

/-- Ahead of all that is not less. -/
def insC (cls : Int → Int) (x : Int) : List Int → List Int
  | [] => [x]
  | y :: r => if cls x ≤ cls y then x :: y :: r else y :: insC cls x r

/-- The stable sort. -/
def sortC (cls : Int → Int) : List Int → List Int
  | [] => []
  | x :: r => insC cls x (sortC cls r)

theorem insC_same (cls : Int → Int) (x : Int) : ∀ l, SameC cls (x :: l) (insC cls x l)
  | [] => SameC.refl _ _
  | y :: r => by
    unfold insC
    split
    · exact SameC.refl _ _
    · rename_i hne
      intro c
      have ih := insC_same cls x r c
      simp only [List.filter_cons] at ih ⊢
      rw [ih]
      by_cases h1 : (cls x == c) = true
      · by_cases h2 : (cls y == c) = true
        · have e1 : cls x = c := by simpa using h1
          have e2 : cls y = c := by simpa using h2
          omega
        · simp [h1, h2]
      · simp [h1]

theorem insC_mem {cls : Int → Int} {x y : Int} {l : List Int} : y ∈ insC cls x l ↔ y ∈ x :: l := (insC_same cls x l).mem

theorem insC_sorted (cls : Int → Int) (x : Int) : ∀ l, SortedC cls l → SortedC cls (insC cls x l)
  | [], _ => by simp [insC, SortedC]
  | y :: r, h => by
    obtain ⟨h1, h2⟩ := List.pairwise_cons.1 h
    unfold insC
    split
    · rename_i hle
      refine List.pairwise_cons.2 ⟨fun z hz => ?_, h⟩
      rcases List.mem_cons.1 hz with rfl | hz
      · exact hle
      · exact Int.le_trans hle (h1 z hz)
    · rename_i hne
      refine List.pairwise_cons.2 ⟨fun z hz => ?_, insC_sorted cls x r h2⟩
      rcases List.mem_cons.1 (insC_mem.1 hz) with rfl | hz
      · omega
      · exact h1 z hz

theorem sortC_same (cls : Int → Int) : ∀ l, SameC cls l (sortC cls l)
  | [] => SameC.refl _ _
  | x :: r => ((SameC.refl cls [x]).append (sortC_same cls r)).trans (insC_same cls x _)

theorem sortC_sorted (cls : Int → Int) : ∀ l, SortedC cls (sortC cls l)
  | [] => by simp [sortC, SortedC]
  | x :: r => insC_sorted cls x _ (sortC_sorted cls r)

theorem sortC_mem {cls : Int → Int} {x : Int} {l : List Int} : x ∈ sortC cls l ↔ x ∈ l := (sortC_same cls l).mem

theorem sortC_of {cls : Int → Int} {l l' : List Int} (h : SortedC cls l') (k : SameC cls l l') : l' = sortC cls l :=
  stable_unique _ _ h (sortC_sorted cls l) (k.symm.trans (sortC_same cls l))

theorem sortC_fix {cls : Int → Int} {l : List Int} (h : SortedC cls l) : sortC cls l = l := (sortC_of h (SameC.refl _ _)).symm

theorem sortC_congr {cls : Int → Int} {l l' : List Int} (h : SameC cls l l') : sortC cls l = sortC cls l' :=
  sortC_of (sortC_sorted cls l) (h.symm.trans (sortC_same cls l))

theorem SameC.length {cls : Int → Int} : ∀ {a b : List Int}, SameC cls a b → b.length = a.length := by
  intro a b h
  have e : sortC cls a = sortC cls b := sortC_congr h
  have hl : ∀ x l, (insC cls x l).length = l.length + 1 := by
    intro x l
    induction l with
    | nil => rfl
    | cons y r ih => unfold insC; split <;> simp [ih]
  have hs : ∀ l, (sortC cls l).length = l.length := by
    intro l
    induction l with
    | nil => rfl
    | cons y r ih => simp [sortC, hl, ih]
  rw [← hs a, ← hs b, e]

theorem sortC_length (cls : Int → Int) (l : List Int) : (sortC cls l).length = l.length := (sortC_same cls l).length

/-- Two blocks, each of the second below each of the first, change places. -/
theorem swap_same {cls : Int → Int} : ∀ (X Y : List Int), (∀ x ∈ X, ∀ y ∈ Y, cls x ≠ cls y) → SameC cls (X ++ Y) (Y ++ X) := by
  intro X Y h c
  rw [List.filter_append, List.filter_append]
  by_cases hx : X.filter (fun x => cls x == c) = []
  · rw [hx]; simp
  · have hy : Y.filter (fun x => cls x == c) = [] := by
      rw [List.filter_eq_nil_iff]
      intro y hy e
      apply hx
      rw [List.filter_eq_nil_iff]
      intro x hx' e'
      have e1 : cls y = c := by simpa using e
      have e2 : cls x = c := by simpa using e'
      exact h x hx' y hy (by omega)
    rw [hy]; simp

theorem sorted_append {cls : Int → Int} {X Y : List Int} (hX : SortedC cls X) (hY : SortedC cls Y) (h : ∀ x ∈ X, ∀ y ∈ Y, cls x ≤ cls y) : SortedC cls (X ++ Y) :=
  List.pairwise_append.2 ⟨hX, hY, h⟩

/-- The step of the merging by halves: of two sorted blocks 'A X' and 'Y B', where all of Y lie below all of X and all of A below all of B, the merge of A and Y stands ahead of that of X and B. -/
theorem merge_halves {cls : Int → Int} {A X Y B : List Int} (h1 : SortedC cls (A ++ X)) (h2 : SortedC cls (Y ++ B)) (hxy : ∀ x ∈ X, ∀ y ∈ Y, cls y < cls x) (hab : ∀ a ∈ A, ∀ b ∈ B, cls a ≤ cls b) :
    sortC cls (A ++ Y) ++ sortC cls (X ++ B) = sortC cls (A ++ X ++ (Y ++ B)) := by
  obtain ⟨_, _, hax⟩ := List.pairwise_append.1 h1
  obtain ⟨_, _, hyb⟩ := List.pairwise_append.1 h2
  refine sortC_of ?_ ?_
  · refine sorted_append (sortC_sorted _ _) (sortC_sorted _ _) ?_
    intro x hx y hy
    rw [sortC_mem, List.mem_append] at hx hy
    rcases hx with hx | hx <;> rcases hy with hy | hy
    · exact hax x hx y hy
    · exact hab x hx y hy
    · exact Int.le_of_lt (hxy y hy x hx)
    · exact hyb x hx y hy
  · have hs : SameC cls (X ++ Y) (Y ++ X) := swap_same X Y (fun x hx y hy => by have := hxy x hx y hy; omega)
    have e1 : A ++ X ++ (Y ++ B) = A ++ ((X ++ Y) ++ B) := by simp
    have e2 : (A ++ Y) ++ (X ++ B) = A ++ ((Y ++ X) ++ B) := by simp
    have k : SameC cls (A ++ X ++ (Y ++ B)) ((A ++ Y) ++ (X ++ B)) := by
      rw [e1, e2]
      exact (SameC.refl _ _).append (hs.append (SameC.refl _ _))
    exact k.trans ((sortC_same _ _).append (sortC_same _ _))

/-- One element ahead of a sorted block. -/
theorem merge_one_left {cls : Int → Int} {x : Int} {Y1 Y2 : List Int} (h : SortedC cls (Y1 ++ Y2)) (h1 : ∀ y ∈ Y1, cls y < cls x) (h2 : ∀ y ∈ Y2, cls x ≤ cls y) : Y1 ++ x :: Y2 = sortC cls (x :: (Y1 ++ Y2)) := by
  obtain ⟨a, b, c⟩ := List.pairwise_append.1 h
  refine sortC_of ?_ ?_
  · refine sorted_append a (List.pairwise_cons.2 ⟨h2, b⟩) ?_
    intro y hy z hz
    rcases List.mem_cons.1 hz with rfl | hz
    · exact Int.le_of_lt (h1 y hy)
    · exact c y hy z hz
  · have hs : SameC cls ([x] ++ Y1) (Y1 ++ [x]) := swap_same [x] Y1 (fun z hz y hy => by
      have e : z = x := by simpa using hz
      have := h1 y hy; rw [e]; omega)
    have e1 : x :: (Y1 ++ Y2) = ([x] ++ Y1) ++ Y2 := by simp
    have e2 : Y1 ++ x :: Y2 = (Y1 ++ [x]) ++ Y2 := by simp
    rw [e1, e2]
    exact hs.append (SameC.refl _ _)

/-- One element behind a sorted block. -/
theorem merge_one_right {cls : Int → Int} {y : Int} {X1 X2 : List Int} (h : SortedC cls (X1 ++ X2)) (h1 : ∀ x ∈ X1, cls x ≤ cls y) (h2 : ∀ x ∈ X2, cls y < cls x) : X1 ++ y :: X2 = sortC cls (X1 ++ X2 ++ [y]) := by
  obtain ⟨a, b, c⟩ := List.pairwise_append.1 h
  refine sortC_of ?_ ?_
  · refine sorted_append a (List.pairwise_cons.2 ⟨fun x hx => Int.le_of_lt (h2 x hx), b⟩) ?_
    intro x hx z hz
    rcases List.mem_cons.1 hz with rfl | hz
    · exact h1 x hx
    · exact c x hx z hz
  · have hs : SameC cls (X2 ++ [y]) ([y] ++ X2) := swap_same X2 [y] (fun x hx z hz => by
      have e : z = y := by simpa using hz
      have := h2 x hx; rw [e]; omega)
    have e1 : X1 ++ X2 ++ [y] = X1 ++ (X2 ++ [y]) := by simp
    have e2 : X1 ++ y :: X2 = X1 ++ ([y] ++ X2) := by simp
    rw [e1, e2]
    exact (SameC.refl _ _).append hs

end Go.Proofs.YtmhaknejeobfgabGreatDoor.Stable

/- SortLists. -/
namespace Go.Proofs.YtmhaknejeobfgabGreatDoor.Stable
open Go.Sort

end Go.Proofs.YtmhaknejeobfgabGreatDoor.Stable

/- Heap. -/
namespace Go.Proofs.YtmhaknejeobfgabGreatDoor
open Go.RowKit

/-- All blocks that were there, but for those in S, are as they were. -/
structure Fr (S : Nat → Prop) (w w' : World) : Prop where
  os : w'.os = w.os
  tape : w'.tape = w.tape
  output : w'.output = w.output
  size : w.heap.size ≤ w'.heap.size
  block : ∀ k, k < w.heap.size → ¬ S k → w'.heap[k]? = w.heap[k]?

theorem Fr.refl (S : Nat → Prop) (w : World) : Fr S w w := ⟨rfl, rfl, rfl, Nat.le_refl _, fun _ _ _ => rfl⟩

theorem Fr.drewN {S : Nat → Prop} {a w : World} (h : Fr S a w) (q : Nat) : Fr S a (w.drewN q) := ⟨h.os, h.tape, h.output, h.size, h.block⟩

theorem Fr.drew {S : Nat → Prop} {a w : World} (h : Fr S a w) : Fr S a w.drew := ⟨h.os, h.tape, h.output, h.size, h.block⟩

theorem Fr.trans {S S' : Nat → Prop} {a b c : World} (h : Fr S a b) (k : Fr S' b c) (hs : ∀ i, i < a.heap.size → S' i → S i) : Fr S a c :=
  ⟨k.os.trans h.os, k.tape.trans h.tape, k.output.trans h.output, Nat.le_trans h.size k.size, fun i hi hn => (k.block i (Nat.lt_of_lt_of_le hi h.size) (fun hS' => hn (hs i hi hS'))).trans (h.block i hi hn)⟩

theorem Fr.mono {S S' : Nat → Prop} {a b : World} (h : Fr S a b) (hs : ∀ i, i < a.heap.size → S i → S' i) : Fr S' a b :=
  ⟨h.os, h.tape, h.output, h.size, fun i hi hn => h.block i hi (fun hS => hn (hs i hi hS))⟩

theorem Fr.alloc {S : Nat → Prop} {a w : World} (h : Fr S a w) (o : Obj) : Fr S a (w.alloc o) :=
  ⟨h.os, h.tape, h.output, Nat.le_trans h.size (by simp), fun i hi hn => (Below.heap_alloc w o i (Nat.lt_of_lt_of_le hi h.size)).trans (h.block i hi hn)⟩

theorem Fr.setCell {S : Nat → Prop} {a w : World} (h : Fr S a w) (p : Addr) (v : Value) (hp : p.block < a.heap.size → S p.block) : Fr S a (w.setCell p v) :=
  ⟨h.os, h.tape, h.output, Nat.le_trans h.size (by simp [World.setCell]), fun i hi hn => (Below.heap_setCell w p v i (fun e => hn (e ▸ hp (e ▸ hi)))).trans (h.block i hi hn)⟩

theorem Fr.grown {S : Nat → Prop} {a w w' : World} {row : Option Nat} (h : Fr S a w) (hg : w.grownBy w' row) (hr : ∀ k, row = some k → k < a.heap.size → S k) : Fr S a w' :=
  ⟨hg.os.trans h.os, hg.tape.trans h.tape, hg.output.trans h.output, Nat.le_trans h.size hg.size, fun i hi hn => (hg.block i (Nat.lt_of_lt_of_le hi h.size) (fun e => hn (hr i e.symm hi))).trans (h.block i hi hn)⟩

theorem Fr.of_below {w w' : World} (h : Below w.heap.size w w') (S : Nat → Prop) : Fr S w w' := ⟨h.os, h.tape, h.output, h.size, fun k hk _ => h.block k hk⟩

theorem Fr.below {w w' : World} (h : Fr (fun _ => False) w w') : Below w.heap.size w w' := ⟨h.os, h.tape, h.output, h.size, fun k hk => h.block k hk id⟩

theorem Fr.grownBy {w w' : World} {row : Option Nat} (h : Fr (fun k => some k = row) w w') : w.grownBy w' row := ⟨h.os, h.tape, h.output, h.size, fun k hk hn => h.block k hk hn⟩

/-- A cell out of a block. -/
theorem cell_of {w : World} {b : Nat} {cs : Array Value} {t : TypeId} {fr : Nat × Nat} (h : w.heap[b]? = some (.cells cs t fr)) {o : Nat} {v : Value} (hv : cs[o]? = some v) : w.cell? ⟨b, o, none⟩ = some v := by
  simp [World.cell?, h, hv]

theorem frozen_of {w : World} {b : Nat} {cs : Array Value} {t : TypeId} (h : w.heap[b]? = some (.cells cs t (0, 0))) (o : Nat) : w.frozen? ⟨b, o, none⟩ = false := by
  simp [World.frozen?, h]

theorem lt_of {w : World} {b : Nat} {x : Obj} (h : w.heap[b]? = some x) : b < w.heap.size := (Array.getElem?_eq_some_iff.1 h).1

theorem set_of {w : World} {b : Nat} {cs : Array Value} {t : TypeId} {fr : Nat × Nat} (h : w.heap[b]? = some (.cells cs t fr)) (o : Nat) (v : Value) : (w.setCell ⟨b, o, none⟩ v).heap[b]? = some (.cells (cs.setIfInBounds o v) t fr) := by
  simp [World.setCell, Array.getElem?_modify, h]

theorem set_other {w : World} {b b' : Nat} (hne : b' ≠ b) (o : Nat) (v : Value) : (w.setCell ⟨b, o, none⟩ v).heap[b']? = w.heap[b']? := Below.heap_setCell w ⟨b, o, none⟩ v b' hne

theorem size_set (w : World) (a : Addr) (v : Value) : (w.setCell a v).heap.size = w.heap.size := by simp [World.setCell]

theorem get_set_same {cs : Array Value} {o : Nat} (v : Value) (h : o < cs.size) : (cs.setIfInBounds o v)[o]? = some v := by simp [h]

theorem get_set_other {cs : Array Value} {o i : Nat} (v : Value) (h : i ≠ o) : (cs.setIfInBounds o v)[i]? = cs[i]? := by rw [Array.getElem?_setIfInBounds, if_neg (Ne.symm h)]

theorem drewN_set (w : World) (n : Nat) (a : Addr) (v : Value) : (w.drewN n).setCell a v = (w.setCell a v).drewN n := rfl

/-- A queue of integers of kind k (element type e) at the place o of a block with the cells cs: what waits in it, where its row lies (g), and how many ever went in (N). -/
def QIs (w : World) (k : IntKind) (e : TypeId) (cs : Array Value) (o : Nat) (g : Option Nat) (xs : List Int) (N : Nat) : Prop :=
  ∃ v pre, cs[o]? = some v ∧ cs[o + 1]? = some (.int .i64 (pre : List Int).length) ∧ w.ownsRow 0 e 1 v (pre.length + xs.length) ((pre ++ xs).map (Value.int k)) ∧ v.ownBlock = g ∧ pre.length + xs.length ≤ N ∧ (xs = [] → pre = [])

theorem QIs.lt {w : World} {k : IntKind} {e : TypeId} {cs : Array Value} {o : Nat} {g : Option Nat} {xs : List Int} {N : Nat} (h : QIs w k e cs o g xs N) {x : Nat} (hx : g = some x) : x < w.heap.size := by
  obtain ⟨v, pre, _, _, hr, hg, _, _⟩ := h
  exact (hr.lt x (hg.trans hx)).2

theorem QIs.kept {w w' : World} {k : IntKind} {e : TypeId} {cs : Array Value} {o : Nat} {g : Option Nat} {xs : List Int} {N : Nat} (h : QIs w k e cs o g xs N) {S : Nat → Prop} (hf : Fr S w w') (hg : ∀ x, g = some x → ¬ S x) : QIs w' k e cs o g xs N := by
  obtain ⟨v, pre, h0, h1, hr, hgv, hN⟩ := h
  refine ⟨v, pre, h0, h1, ⟨hr.1, ?_⟩, hgv, hN⟩
  rcases hr.2 with hn | ⟨x, cap, cur, rfl, hb, hgg, rest⟩
  · exact .inl hn
  · exact .inr ⟨x, cap, cur, rfl, hb, by rw [hf.block x (lt_of hgg) (hg x (by rw [← hgv]; rfl))]; exact hgg, rest⟩

theorem QIs.cells {w : World} {k : IntKind} {e : TypeId} {cs cs' : Array Value} {o o' : Nat} {g : Option Nat} {xs : List Int} {N : Nat} (h : QIs w k e cs o g xs N) (h0 : cs'[o']? = cs[o]?) (h1 : cs'[o' + 1]? = cs[o + 1]?) : QIs w k e cs' o' g xs N := by
  obtain ⟨v, pre, a0, a1, r⟩ := h
  exact ⟨v, pre, h0.trans a0, h1.trans a1, r⟩

theorem QIs.mono {w : World} {k : IntKind} {e : TypeId} {cs : Array Value} {o : Nat} {g : Option Nat} {xs : List Int} {N N' : Nat} (h : QIs w k e cs o g xs N) (hN : N ≤ N') : QIs w k e cs o g xs N' := by
  obtain ⟨v, pre, a0, a1, a2, a3, a4, a5⟩ := h
  exact ⟨v, pre, a0, a1, a2, a3, by omega, a5⟩

theorem QIs.drewN {w : World} {k : IntKind} {e : TypeId} {cs : Array Value} {o : Nat} {g : Option Nat} {xs : List Int} {N : Nat} (h : QIs w k e cs o g xs N) (q : Nat) : QIs (w.drewN q) k e cs o g xs N := h

/-- A slice that shows xs: empty, or cells of a block. -/
def Shows (w : World) (k : IntKind) (v : Value) (g : Option Nat) (xs : List Int) : Prop :=
  (xs = [] ∧ ((v = .slice none 0 0) ∨ ∃ a c, v = .slice (some a) 0 c)) ∨ ∃ x o c cur e, g = some x ∧ v = .slice (some ⟨x, o, none⟩) xs.length c ∧ w.heap[x]? = some (.cells cur e (0, 0)) ∧ (∀ j, j < xs.length → cur[o + j]? = some (.int k (xs[j]?.getD 0)))

/-- The slice of a row: nil, or a block's first cells. -/
theorem row_cases {w : World} {k : IntKind} {e : TypeId} {v : Value} {n : Nat} {xs : List Int} (h : w.ownsRow 0 e 1 v n (xs.map (Value.int k))) :
    (v = .slice none 0 0 ∧ n = 0 ∧ xs = []) ∨ ∃ g cap cur, v = .slice (some ⟨g, 0, none⟩) n cap ∧ w.heap[g]? = some (.cells cur e (0, 0)) ∧ n ≤ cap ∧ cap ≤ maxLen ∧ cur.size = cap ∧ xs.length = n ∧ (∀ j, j < n → cur[j]? = some (.int k (xs[j]?.getD 0))) := by
  obtain ⟨hl, h2⟩ := h
  rw [List.length_map] at hl
  rcases h2 with ⟨rfl, rfl⟩ | ⟨g, cap, cur, rfl, _, hg, h1, h2, h3, h4⟩
  · left; exact ⟨rfl, rfl, List.length_eq_zero_iff.1 (by omega)⟩
  · right
    refine ⟨g, cap, cur, rfl, hg, h1, h2, by omega, by omega, fun j hj => ?_⟩
    have hj' : j < xs.length := by omega
    have e1 : (cur.toList.take (n * 1))[j]? = some (.int k xs[j]) := by rw [h4]; simp [hj']
    rw [List.getElem?_take, if_pos (by omega)] at e1
    simpa [hj'] using e1

/-- .. and back. -/
theorem row_mk {w : World} {k : IntKind} {e : TypeId} {g n cap : Nat} {cur : Array Value} {xs : List Int} (hg : w.heap[g]? = some (.cells cur e (0, 0))) (h1 : n ≤ cap) (h2 : cap ≤ maxLen) (h3 : cur.size = cap) (hl : xs.length = n) (hc : ∀ j, j < n → cur[j]? = some (.int k (xs[j]?.getD 0))) :
    w.ownsRow 0 e 1 (.slice (some ⟨g, 0, none⟩) n cap) n (xs.map (Value.int k)) := by
  refine ⟨by simp [hl], .inr ⟨g, cap, cur, rfl, Nat.zero_le _, hg, h1, h2, by omega, ?_⟩⟩
  apply List.ext_getElem?
  intro j
  rw [List.getElem?_take]
  by_cases hj : j < n
  · rw [if_pos (by omega)]
    have := hc j hj
    have hj' : j < xs.length := by omega
    simp [hj'] at this ⊢
    exact this
  · rw [if_neg (by omega), List.getElem?_map, List.getElem?_eq_none (by omega)]
    rfl

end Go.Proofs.YtmhaknejeobfgabGreatDoor

/- Heap2. -/
namespace Go.Proofs.YtmhaknejeobfgabGreatDoor
open Go.RowKit

theorem set_get {cs : Array Value} {o : Nat} {v : Value} (h : cs[o]? = some v) : cs.setIfInBounds o v = cs := by
  apply Array.ext (by simp)
  intro i h1 h2
  by_cases e : i = o
  · subst e
    rw [Array.getElem?_eq_getElem h2] at h
    simp [Option.some.inj h]
  · rw [Array.getElem_setIfInBounds, if_neg (Ne.symm e)]

theorem row_set {w : World} {base : Nat} {e : TypeId} {size : Nat} {v : Value} {n : Nat} {xs : List Value} (h : w.ownsRow base e size v n xs) {b : Nat} (hb : v.ownBlock ≠ some b) (o : Nat) (u : Value) : (w.setCell ⟨b, o, none⟩ u).ownsRow base e size v n xs := by
  refine ⟨h.1, ?_⟩
  rcases h.2 with hn | ⟨g, cap, cur, rfl, hbg, hgg, rest⟩
  · exact .inl hn
  · exact .inr ⟨g, cap, cur, rfl, hbg, by rw [set_other (fun e => hb (by rw [← e]; rfl))]; exact hgg, rest⟩

/-- What Put leaves. -/
def PutLeft (w w' : World) (E : TypeId) (b o : Nat) (cs : Array Value) (t : TypeId) (row : Option Nat) (n : Nat) (xs : List Value) (h : Value) : Prop :=
  ∃ v', w'.heap[b]? = some (.cells ((cs.setIfInBounds o v').setIfInBounds (o + 1) h) t (0, 0)) ∧ w'.ownsRow 0 E 1 v' n xs ∧ (v'.ownBlock = row ∨ ∃ y, v'.ownBlock = some y ∧ w.heap.size ≤ y) ∧ Fr (fun k => k = b ∨ some k = row) w w'

def moved (cur : Array Value) (h n : Nat) : Array Value := (cur.toList.take 0 ++ (cur.toList.drop h).take (n - h) ++ cur.toList.drop (0 + ((cur.toList.drop h).take (n - h)).length)).toArray

theorem moved_row {w : World} {E : TypeId} {g n c h : Nat} {cur : Array Value} (hg : w.heap[g]? = some (.cells (moved cur h n) E (0, 0))) (hs : cur.size = c) (hn : h < n) (hnc : n ≤ c) (hcm : c ≤ maxLen) :
    w.ownsRow 0 E 1 (.slice (some ⟨g, 0, none⟩) (n - h) c) (n - h) ((cur.toList.drop h).take (n - h)) := by
  have hl : ((cur.toList.drop h).take (n - h)).length = n - h := by simp; omega
  refine ⟨by omega, .inr ⟨g, c, _, rfl, Nat.zero_le _, hg, by omega, hcm, ?_, ?_⟩⟩
  · unfold moved
    simp only [List.size_toArray, List.length_append, List.length_take, List.length_drop, Array.length_toList, hl]
    omega
  · unfold moved
    simp only [List.take_zero, List.nil_append]
    rw [List.take_append_of_le_length (by omega), List.take_of_length_le (by omega)]

theorem set_three (cs : Array Value) (o : Nat) (u v x : Value) : ((cs.setIfInBounds o u).setIfInBounds (o + 1) x).setIfInBounds o v = (cs.setIfInBounds o v).setIfInBounds (o + 1) x := by
  rw [Array.setIfInBounds_comm u x (by omega), Array.setIfInBounds_setIfInBounds, Array.setIfInBounds_comm x v (by omega)]

theorem int_one_cell (k : IntKind) (xs : List Int) : ∀ u ∈ xs.map (Value.int k), u.oneCell' = true := by
  intro u hu
  obtain ⟨x, _, rfl⟩ := List.mem_map.1 hu
  rfl

/-- What Put leaves, read as a queue. -/
theorem PutLeft.queue {w w' : World} {k : IntKind} {E : TypeId} {b o : Nat} {cs : Array Value} {t : TypeId} {g : Option Nat} {n N : Nat} {pre xs : List Int} (hlt0 : o < cs.size) (hlt1 : o + 1 < cs.size) (hn : n = pre.length + xs.length) (hN : n ≤ N) (he : xs = [] → pre = [])
    (h : PutLeft w w' E b o cs t g n ((pre ++ xs).map (Value.int k)) (.int .i64 pre.length)) :
    ∃ cs' g', w'.heap[b]? = some (.cells cs' t (0, 0)) ∧ cs'.size = cs.size ∧ (∀ i, i ≠ o → i ≠ o + 1 → cs'[i]? = cs[i]?) ∧ QIs w' k E cs' o g' xs N ∧ (g' = g ∨ ∃ y, g' = some y ∧ w.heap.size ≤ y) ∧ Fr (fun x => x = b ∨ some x = g) w w' := by
  obtain ⟨v', h1, h2, h3, h4⟩ := h
  subst hn
  refine ⟨_, v'.ownBlock, h1, by simp, ?_, ⟨v', pre, ?_, ?_, h2, rfl, hN, he⟩, h3, h4⟩
  · intro i h0 h1
    rw [get_set_other _ h1, get_set_other _ h0]
  · rw [get_set_other _ (by omega), get_set_same _ hlt0]
  · rw [get_set_same _ (by simpa using hlt1)]

end Go.Proofs.YtmhaknejeobfgabGreatDoor

/- Facts. -/
namespace Go.Proofs.YtmhaknejeobfgabGreatDoor

/-- A row of the table: the code point, its class, whether its decomposition is of the compatible kind, the decomposition, the folding. -/
structure Fact where
  cp : Int
  cls : Int
  compat : Bool
  parts : List Int
  fold : List Int

def facts : List Fact := [
  ⟨160, 0, true, [32], []⟩,
  ⟨178, 0, true, [50], []⟩,
  ⟨189, 0, true, [49, 8260, 50], []⟩,
  ⟨192, 0, false, [65, 768], [224]⟩,
  ⟨193, 0, false, [65, 769], [225]⟩,
  ⟨197, 0, false, [65, 778], [229]⟩,
  ⟨199, 0, false, [67, 807], [231]⟩,
  ⟨223, 0, false, [], [115, 115]⟩,
  ⟨224, 0, false, [97, 768], []⟩,
  ⟨225, 0, false, [97, 769], []⟩,
  ⟨229, 0, false, [97, 778], []⟩,
  ⟨231, 0, false, [99, 807], []⟩,
  ⟨233, 0, false, [101, 769], []⟩,
  ⟨246, 0, false, [111, 776], []⟩,
  ⟨304, 0, false, [73, 775], [105, 775]⟩,
  ⟨383, 0, true, [115], [115]⟩,
  ⟨506, 0, false, [197, 769], [507]⟩,
  ⟨507, 0, false, [229, 769], []⟩,
  ⟨768, 230, false, [], []⟩,
  ⟨769, 230, false, [], []⟩,
  ⟨770, 230, false, [], []⟩,
  ⟨775, 230, false, [], []⟩,
  ⟨776, 230, false, [], []⟩,
  ⟨778, 230, false, [], []⟩,
  ⟨803, 220, false, [], []⟩,
  ⟨807, 202, false, [], []⟩,
  ⟨824, 1, false, [], []⟩,
  ⟨836, 230, false, [776, 769], []⟩,
  ⟨837, 240, false, [], [953]⟩,
  ⟨931, 0, false, [], [963]⟩,
  ⟨937, 0, false, [], [969]⟩,
  ⟨962, 0, false, [], [963]⟩,
  ⟨1460, 14, false, [], []⟩,
  ⟨3953, 129, false, [], []⟩,
  ⟨3954, 130, false, [], []⟩,
  ⟨3955, 0, false, [3953, 3954], []⟩,
  ⟨7777, 0, false, [115, 775], []⟩,
  ⟨7835, 0, false, [383, 775], [7777]⟩,
  ⟨7838, 0, false, [], [115, 115]⟩,
  ⟨7840, 0, false, [65, 803], [7841]⟩,
  ⟨7841, 0, false, [97, 803], []⟩,
  ⟨7852, 0, false, [7840, 770], [7853]⟩,
  ⟨7853, 0, false, [7841, 770], []⟩,
  ⟨8115, 0, false, [945, 837], [945, 953]⟩,
  ⟨8486, 0, false, [937], [969]⟩,
  ⟨8490, 0, false, [75], [107]⟩,
  ⟨8491, 0, false, [197], [229]⟩,
  ⟨9312, 0, true, [49], []⟩,
  ⟨12441, 8, false, [], []⟩,
  ⟨12442, 8, false, [], []⟩,
  ⟨12496, 0, false, [12495, 12441], []⟩,
  ⟨12497, 0, false, [12495, 12442], []⟩,
  ⟨13056, 0, true, [12450, 12497, 12540, 12488], []⟩,
  ⟨64257, 0, true, [102, 105], [102, 105]⟩,
  ⟨65018, 0, true, [1589, 1604, 1609, 32, 1575, 1604, 1604, 1607, 32, 1593, 1604, 1610, 1607, 32, 1608, 1587, 1604, 1605], []⟩,
  ⟨65313, 0, true, [65], [65345]⟩,
  ⟨65345, 0, true, [97], []⟩,
  ⟨65438, 0, true, [12441], []⟩,
  ⟨119134, 0, false, [119127, 119141], []⟩,
  ⟨119141, 216, false, [], []⟩,
  ⟨119808, 0, true, [65], []⟩]

/-- The row of a code point, the last one if there are several. -/
def look (l : List Fact) (c : Int) : Option Fact := l.foldl (fun acc r => if r.cp = c then some r else acc) none

/-- The class of a code point. -/
def clsOf (c : Int) : Int := match look facts c with | some r => r.cls | none => 0

def compatOf (c : Int) : Bool := match look facts c with | some r => r.compat | none => false

def rawParts (c : Int) : List Int := match look facts c with | some r => r.parts | none => []

def rawFold (c : Int) : List Int := match look facts c with | some r => r.fold | none => []

/-- The folding of a code point. -/
def foldOf (c : Int) : List Int := if 65 ≤ c ∧ c ≤ 90 then [c + 32] else rawFold c

/-- A syllable's parts. -/
def sylOf (c : Int) : List Int := [4352 + (c - 44032) / 588, 4449 + (c - 44032) % 588 / 28] ++ if (c - 44032) % 28 = 0 then [] else [4519 + (c - 44032) % 28]

/-- One step of the decomposition of a code point. -/
def partsOf (compat : Bool) (c : Int) : List Int := if 44032 ≤ c ∧ c ≤ 55203 then sylOf c else if compatOf c && !compat then [] else rawParts c

end Go.Proofs.YtmhaknejeobfgabGreatDoor

/- Points. -/
namespace Go.Proofs.YtmhaknejeobfgabGreatDoor.Points
open Go.Lib

def codesF : Nat → List UInt8 → List Int
  | 0, _ => []
  | n + 1, l => if l = [] then [] else ((decodeL l).1 : Int) :: codesF n (l.drop (decodeL l).2)

/-- The code points of a text. -/
def codes (l : List UInt8) : List Int := codesF l.length l

/-- The bytes of code points. -/
def utf8 (l : List Int) : List UInt8 := l.flatMap encodeRune

/-- A number that is a code point. -/
def Valid (c : Int) : Prop := (0 ≤ c ∧ c < 55296) ∨ (57343 < c ∧ c ≤ 1114111)

theorem codesF_nil : ∀ n, codesF n [] = []
  | 0 => rfl
  | _ + 1 => by simp [codesF]

theorem codesF_fuel : ∀ (n m : Nat) (l : List UInt8), l.length ≤ n → l.length ≤ m → codesF n l = codesF m l
  | 0, m, l, hn, _ => by
    have : l = [] := List.eq_nil_of_length_eq_zero (by omega)
    subst this
    rw [codesF_nil, codesF_nil]
  | n + 1, 0, l, _, hm => by
    have : l = [] := List.eq_nil_of_length_eq_zero (by omega)
    subst this
    rw [codesF_nil, codesF_nil]
  | n + 1, m + 1, l, hn, hm => by
    by_cases hne : l = []
    · subst hne
      rw [codesF_nil, codesF_nil]
    · have hw := decodeL_width l
      have hl : 0 < l.length := List.length_pos_iff.2 hne
      simp only [codesF, if_neg hne]
      rw [codesF_fuel n m _ (by rw [List.length_drop]; omega) (by rw [List.length_drop]; omega)]

theorem codes_nil : codes [] = [] := rfl

theorem codes_step (l : List UInt8) (hne : l ≠ []) : codes l = ((decodeL l).1 : Int) :: codes (l.drop (decodeL l).2) := by
  have hw := decodeL_width l
  have hl : 0 < l.length := List.length_pos_iff.2 hne
  obtain ⟨n, hn⟩ : ∃ n, l.length = n + 1 := ⟨l.length - 1, by omega⟩
  unfold codes
  rw [hn]
  simp only [codesF, if_neg hne]
  rw [codesF_fuel n _ _ (by rw [List.length_drop]; omega) (Nat.le_refl _)]

/-- How long the list is does not matter where what goes on with a code point is there. -/
theorem decodeN_len {n m b0 b1 b2 b3 : Nat} (h1 : b1 / 64 = 2 → 1 < n ∧ 1 < m) (h2 : b2 / 64 = 2 → 2 < n ∧ 2 < m) (h3 : b3 / 64 = 2 → 3 < n ∧ 3 < m) : decodeN n b0 b1 b2 b3 = decodeN m b0 b1 b2 b3 := by
  have e1 : (1 < n ∧ b1 / 64 = 2) = (1 < m ∧ b1 / 64 = 2) := propext ⟨fun h => ⟨(h1 h.2).2, h.2⟩, fun h => ⟨(h1 h.2).1, h.2⟩⟩
  have e2 : (2 < n ∧ b2 / 64 = 2) = (2 < m ∧ b2 / 64 = 2) := propext ⟨fun h => ⟨(h2 h.2).2, h.2⟩, fun h => ⟨(h2 h.2).1, h.2⟩⟩
  have e3 : (3 < n ∧ b3 / 64 = 2) = (3 < m ∧ b3 / 64 = 2) := propext ⟨fun h => ⟨(h3 h.2).2, h.2⟩, fun h => ⟨(h3 h.2).1, h.2⟩⟩
  unfold decodeN
  simp only [e1, e2, e3]

theorem getD_there {l : List UInt8} {k : Nat} (h : (l.getD k 0).toNat / 64 = 2) : k < l.length := by
  by_cases hk : k < l.length
  · exact hk
  · have e : l.getD k 0 = 0 := by simp [List.getD, List.getElem?_eq_none (Nat.not_lt.1 hk)]
    rw [e] at h
    exact absurd h (by decide)

/-- What decodes, by the bytes alone. -/
def decB (b0 b1 b2 b3 : Nat) : Nat × Nat := decodeN 4 b0 b1 b2 b3

theorem decodeL_B (l : List UInt8) : decodeL l = decB (l.getD 0 0).toNat (l.getD 1 0).toNat (l.getD 2 0).toNat (l.getD 3 0).toNat := by
  rw [decodeL_N]
  exact decodeN_len (fun h => ⟨getD_there h, by omega⟩) (fun h => ⟨getD_there h, by omega⟩) (fun h => ⟨getD_there h, by omega⟩)

theorem u8 {z : Int} {n : Nat} (h : z = n) (hn : n < 256) : (z.toNat.toUInt8).toNat = n := by
  subst h
  simp
  omega

/-- The bytes of a code point are read as that one. -/
theorem dec_front (c : Int) (t : List UInt8) (h : Valid c) : decodeL (encodeRune c ++ t) = (c.toNat, (encodeRune c).length) := by
  rw [decodeL_B]
  obtain ⟨n, rfl⟩ : ∃ n : Nat, c = n := ⟨c.toNat, by rcases h with h | h <;> omega⟩
  unfold Valid at h
  unfold encodeRune
  by_cases h1 : (n : Int) ≤ 127
  · rw [encodeRuneZ_one (by omega) h1]
    simp only [List.map_cons, List.map_nil, List.cons_append, List.nil_append, List.getD_cons_zero, List.getD_cons_succ, List.length_cons, List.length_nil]
    rw [u8 (n := n) rfl (by omega)]
    unfold decB decodeN
    rw [if_pos (by omega)]
    simp
  by_cases h2 : (n : Int) ≤ 2047
  · rw [encodeRuneZ_two (by omega) h2]
    simp only [List.map_cons, List.map_nil, List.cons_append, List.nil_append, List.getD_cons_zero, List.getD_cons_succ, List.length_cons, List.length_nil]
    rw [u8 (n := 192 + n / 64) (by omega) (by omega), u8 (n := 128 + n % 64) (by omega) (by omega)]
    rcases decodeN_shape 4 (192 + n / 64) (128 + n % 64) ((t.getD 0 0).toNat) ((t.getD 1 0).toNat) with ⟨c, e⟩ | ⟨c1, c2, c3, cv, e⟩ | ⟨c1, c2, c3, c4, cv, cs, e⟩ | ⟨c1, c2, c3, c4, c5, cv, cw, e⟩ | e
    · omega
    · unfold decB
      rw [e]
      rw [Int.toNat_natCast, Prod.mk.injEq]
      exact ⟨by omega, rfl⟩
    · omega
    · omega
    · exfalso
      unfold decodeN at e
      rw [if_neg (by omega), if_pos (by omega), if_pos (by omega)] at e
      simp at e
  by_cases h3 : (n : Int) ≤ 65535
  · rw [encodeRuneZ_three (by omega)]
    simp only [List.map_cons, List.map_nil, List.cons_append, List.nil_append, List.getD_cons_zero, List.getD_cons_succ, List.length_cons, List.length_nil]
    rw [u8 (n := 224 + n / 4096) (by omega) (by omega), u8 (n := 128 + n / 64 % 64) (by omega) (by omega), u8 (n := 128 + n % 64) (by omega) (by omega)]
    rcases decodeN_shape 4 (224 + n / 4096) (128 + n / 64 % 64) (128 + n % 64) ((t.getD 0 0).toNat) with ⟨c, e⟩ | ⟨c1, c2, c3, cv, e⟩ | ⟨c1, c2, c3, c4, cv, cs, e⟩ | ⟨c1, c2, c3, c4, c5, cv, cw, e⟩ | e
    · omega
    · omega
    · unfold decB
      rw [e]
      rw [Int.toNat_natCast, Prod.mk.injEq]
      exact ⟨by omega, rfl⟩
    · omega
    · exfalso
      unfold decodeN at e
      rw [if_neg (by omega), if_neg (by omega), if_pos (by omega), if_pos (by omega)] at e
      simp at e
  · rw [encodeRuneZ_four (by omega) (by omega)]
    simp only [List.map_cons, List.map_nil, List.cons_append, List.nil_append, List.getD_cons_zero, List.getD_cons_succ, List.length_cons, List.length_nil]
    rw [u8 (n := 240 + n / 262144) (by omega) (by omega), u8 (n := 128 + n / 4096 % 64) (by omega) (by omega), u8 (n := 128 + n / 64 % 64) (by omega) (by omega), u8 (n := 128 + n % 64) (by omega) (by omega)]
    rcases decodeN_shape 4 (240 + n / 262144) (128 + n / 4096 % 64) (128 + n / 64 % 64) (128 + n % 64) with ⟨c, e⟩ | ⟨c1, c2, c3, cv, e⟩ | ⟨c1, c2, c3, c4, cv, cs, e⟩ | ⟨c1, c2, c3, c4, c5, cv, cw, e⟩ | e
    · omega
    · omega
    · omega
    · unfold decB
      rw [e]
      rw [Int.toNat_natCast, Prod.mk.injEq]
      exact ⟨by omega, rfl⟩
    · exfalso
      unfold decodeN at e
      rw [if_neg (by omega), if_neg (by omega), if_neg (by omega), if_pos (by omega), if_pos (by omega)] at e
      simp at e

theorem encode_ne (c : Int) : encodeRune c ≠ [] := by
  intro h
  have := (encodeRuneZ_length c).1
  unfold encodeRune at h
  have h2 : (encodeRuneZ c).length = 0 := by simpa using congrArg List.length h
  omega

theorem codes_front (c : Int) (t : List UInt8) (h : Valid c) : codes (encodeRune c ++ t) = c :: codes t := by
  rw [codes_step _ (by simp [encode_ne c]), dec_front c t h]
  simp only [List.drop_left]
  congr 1
  rcases h with h | h <;> omega

theorem codes_utf8 : ∀ (l : List Int) (t : List UInt8), (∀ c ∈ l, Valid c) → codes (utf8 l ++ t) = l ++ codes t
  | [], t, _ => rfl
  | c :: r, t, h => by
    have e : utf8 (c :: r) ++ t = encodeRune c ++ (utf8 r ++ t) := by simp [utf8]
    rw [e, codes_front c _ (h c (by simp)), codes_utf8 r t (fun x hx => h x (by simp [hx]))]
    rfl

theorem codes_of_utf8 (l : List Int) (h : ∀ c ∈ l, Valid c) : codes (utf8 l) = l := by
  have := codes_utf8 l [] h
  rwa [List.append_nil, codes_nil, List.append_nil] at this

theorem utf8_append (l m : List Int) : utf8 (l ++ m) = utf8 l ++ utf8 m := by simp [utf8]

theorem dec_valid (l : List UInt8) : Valid (decodeL l).1 := by
  rw [decodeL_N]
  have k0 := (l.getD 0 0).toNat_lt
  have k1 := (l.getD 1 0).toNat_lt
  have k2 := (l.getD 2 0).toNat_lt
  have k3 := (l.getD 3 0).toNat_lt
  unfold Valid
  rcases decodeN_shape l.length (l.getD 0 0).toNat (l.getD 1 0).toNat (l.getD 2 0).toNat (l.getD 3 0).toNat with ⟨c, e⟩ | ⟨c1, c2, c3, cv, e⟩ | ⟨c1, c2, c3, c4, cv, cs, e⟩ | ⟨c1, c2, c3, c4, c5, cv, cw, e⟩ | e
  all_goals (rw [e]; dsimp only; omega)

theorem codes_valid_n : ∀ (n : Nat) (l : List UInt8), l.length ≤ n → ∀ c ∈ codes l, Valid c
  | 0, l, hn, c, hc => by
    have : l = [] := List.eq_nil_of_length_eq_zero (by omega)
    subst this
    simp [codes_nil] at hc
  | n + 1, l, hn, c, hc => by
    by_cases hne : l = []
    · subst hne
      simp [codes_nil] at hc
    · have hw := decodeL_width l
      rw [codes_step l hne] at hc
      rcases List.mem_cons.1 hc with rfl | hc
      · exact dec_valid l
      · exact codes_valid_n n _ (by rw [List.length_drop]; omega) c hc

theorem codes_valid (l : List UInt8) : ∀ c ∈ codes l, Valid c := codes_valid_n l.length l (Nat.le_refl _)

/-- What is cut off behind a code point does not matter. -/
theorem dec_take (l : List UInt8) (k : Nat) (hk : (decodeL l).2 ≤ k) (h1 : 1 ≤ k) : decodeL (l.take k) = decodeL l := by
  rw [decodeL_B] at hk
  rw [decodeL_B, decodeL_B]
  have hg : ∀ j, j < k → (l.take k).getD j 0 = l.getD j 0 := fun j hj => by simp [List.getD, hj]
  have hz : ∀ j, k ≤ j → (l.take k).getD j 0 = 0 := fun j hj => by simp [List.getD, List.getElem?_take, Nat.not_lt.2 hj]
  obtain ⟨b0, e0⟩ : ∃ b, (l.getD 0 0).toNat = b := ⟨_, rfl⟩
  obtain ⟨b1, e1⟩ : ∃ b, (l.getD 1 0).toNat = b := ⟨_, rfl⟩
  obtain ⟨b2, e2⟩ : ∃ b, (l.getD 2 0).toNat = b := ⟨_, rfl⟩
  obtain ⟨b3, e3⟩ : ∃ b, (l.getD 3 0).toNat = b := ⟨_, rfl⟩
  have hzn : (0 : UInt8).toNat = 0 := rfl
  rw [hg 0 (by omega)]
  rw [e0, e1, e2, e3] at hk ⊢
  rcases (by omega : k = 1 ∨ k = 2 ∨ k = 3 ∨ 4 ≤ k) with rfl | rfl | rfl | h4
  · rw [hz 1 (by omega), hz 2 (by omega), hz 3 (by omega), hzn]
    revert hk
    unfold decB decodeN
    repeat' split
    all_goals (intro h; first | with_reducible rfl | (exfalso; omega) | (exfalso; simp at h; done))
  · rw [hg 1 (by omega), hz 2 (by omega), hz 3 (by omega), hzn, e1]
    revert hk
    unfold decB decodeN
    repeat' split
    all_goals (intro h; first | with_reducible rfl | (exfalso; omega) | (exfalso; simp at h; done))
  · rw [hg 1 (by omega), hg 2 (by omega), hz 3 (by omega), hzn, e1, e2]
    revert hk
    unfold decB decodeN
    repeat' split
    all_goals (intro h; first | with_reducible rfl | (exfalso; omega) | (exfalso; simp at h; done))
  · rw [hg 1 (by omega), hg 2 (by omega), hg 3 (by omega), e1, e2, e3]

end Go.Proofs.YtmhaknejeobfgabGreatDoor.Points

/- Order. -/
namespace Go.Proofs.YtmhaknejeobfgabGreatDoor.Order
open Go.Proofs.YtmhaknejeobfgabGreatDoor.Stable

/-- What goes out of a stage in which the marks ms wait, and what waits then. -/
def feed (cls : Int → Int) (ms : List Int) : List Int → List Int × List Int
  | [] => (ms, [])
  | c :: r => if cls c = 0 then ((feed cls [] r).1, sortC cls ms ++ c :: (feed cls [] r).2) else feed cls (ms ++ [c]) r

/-- All that goes out, behind the end too. -/
def ordGo (cls : Int → Int) (ms : List Int) : List Int → List Int
  | [] => sortC cls ms
  | c :: r => if cls c = 0 then sortC cls ms ++ c :: ordGo cls [] r else ordGo cls (ms ++ [c]) r

/-- Ordered. -/
def ord (cls : Int → Int) (l : List Int) : List Int := ordGo cls [] l

theorem ordGo_feed (cls : Int → Int) : ∀ (l ms : List Int), ordGo cls ms l = (feed cls ms l).2 ++ sortC cls (feed cls ms l).1
  | [], ms => by simp [ordGo, feed]
  | c :: r, ms => by
    unfold ordGo feed
    split
    · simp [ordGo_feed cls r []]
    · exact ordGo_feed cls r _

theorem feed_append (cls : Int → Int) : ∀ (a b ms : List Int), feed cls ms (a ++ b) = ((feed cls (feed cls ms a).1 b).1, (feed cls ms a).2 ++ (feed cls (feed cls ms a).1 b).2)
  | [], b, ms => by simp [feed]
  | c :: r, b, ms => by
    rw [List.cons_append]
    simp only [feed]
    split
    · simp [feed_append cls r b []]
    · exact feed_append cls r b _

/-- What waits are marks. -/
theorem feed_marks (cls : Int → Int) : ∀ (l ms : List Int), (∀ x ∈ ms, cls x ≠ 0) → ∀ x ∈ (feed cls ms l).1, cls x ≠ 0
  | [], ms, h => h
  | c :: r, ms, h => by
    unfold feed
    split
    · exact feed_marks cls r [] (by simp)
    · rename_i hc
      refine feed_marks cls r _ (fun x hx => ?_)
      rcases List.mem_append.1 hx with hx | hx
      · exact h x hx
      · rw [List.mem_singleton.1 hx]; exact hc

theorem ordGo_congr (cls : Int → Int) : ∀ (l ms ms' : List Int), SameC cls ms ms' → ordGo cls ms l = ordGo cls ms' l
  | [], ms, ms', h => sortC_congr h
  | c :: r, ms, ms', h => by
    unfold ordGo
    rw [sortC_congr h, ordGo_congr cls r (ms ++ [c]) (ms' ++ [c]) (h.append (SameC.refl _ _))]

/-- Two lists of which one becomes the other when marks of different classes, side by side, change places. -/
def Sw (cls : Int → Int) (a b : List Int) : Prop :=
  ∀ P : List Int → List Int → Prop, (∀ l, P l l) → (∀ a x y b, cls x ≠ 0 → cls y ≠ 0 → cls x ≠ cls y → P (a ++ x :: y :: b) (a ++ y :: x :: b)) → (∀ a b c, P a b → P b c → P a c) → P a b

theorem Sw.refl {cls : Int → Int} (l : List Int) : Sw cls l l := fun _ r _ _ => r l

theorem Sw.swap {cls : Int → Int} (a : List Int) (x y : Int) (b : List Int) (hx : cls x ≠ 0) (hy : cls y ≠ 0) (h : cls x ≠ cls y) : Sw cls (a ++ x :: y :: b) (a ++ y :: x :: b) := fun _ _ s _ => s a x y b hx hy h

theorem Sw.trans {cls : Int → Int} {a b c : List Int} (h : Sw cls a b) (k : Sw cls b c) : Sw cls a c := fun P r s t => t a b c (h P r s t) (k P r s t)

theorem Sw.ind {cls : Int → Int} {motive : (a b : List Int) → Sw cls a b → Prop} (refl : ∀ l, motive l l (Sw.refl l)) (swap : ∀ a x y b hx hy h, motive (a ++ x :: y :: b) (a ++ y :: x :: b) (Sw.swap a x y b hx hy h))
    (trans : ∀ {a b c : List Int} (h : Sw cls a b) (k : Sw cls b c), motive a b h → motive b c k → motive a c (h.trans k)) {a b : List Int} (h : Sw cls a b) : motive a b h :=
  (h (fun a b => ∃ h : Sw cls a b, motive a b h) (fun l => ⟨_, refl l⟩) (fun a x y b hx hy h => ⟨_, swap a x y b hx hy h⟩) (fun _ _ _ ⟨_, m1⟩ ⟨_, m2⟩ => ⟨_, trans _ _ m1 m2⟩)).elim fun _ m => m

theorem Sw.symm {cls : Int → Int} {a b : List Int} (h : Sw cls a b) : Sw cls b a := by
  induction h using Sw.ind with
  | refl l => exact .refl l
  | swap a x y b hx hy h => exact .swap a y x b hy hx (fun e => h e.symm)
  | trans _ _ h1 h2 => exact .trans h2 h1

theorem Sw.left {cls : Int → Int} {a b : List Int} (p : List Int) (h : Sw cls a b) : Sw cls (p ++ a) (p ++ b) := by
  induction h using Sw.ind with
  | refl l => exact .refl _
  | swap a x y b hx hy h =>
    have := Sw.swap (p ++ a) x y b hx hy h
    simpa using this
  | trans _ _ h1 h2 => exact .trans h1 h2

theorem Sw.right {cls : Int → Int} {a b : List Int} (p : List Int) (h : Sw cls a b) : Sw cls (a ++ p) (b ++ p) := by
  induction h using Sw.ind with
  | refl l => exact .refl _
  | swap a x y b hx hy h =>
    have := Sw.swap a x y (b ++ p) hx hy h
    simpa using this
  | trans _ _ h1 h2 => exact .trans h1 h2

theorem Sw.append {cls : Int → Int} {a b c d : List Int} (h : Sw cls a b) (k : Sw cls c d) : Sw cls (a ++ c) (b ++ d) := (h.right c).trans (k.left b)

theorem Sw.same {cls : Int → Int} {a b : List Int} (h : Sw cls a b) : SameC cls a b := by
  induction h using Sw.ind with
  | refl l => exact SameC.refl _ _
  | swap a x y b hx hy h =>
    refine (SameC.refl cls a).append ?_
    have e : SameC cls ([x] ++ [y]) ([y] ++ [x]) := swap_same [x] [y] (by simpa using h)
    have := e.append (SameC.refl cls b)
    simpa using this
  | trans _ _ h1 h2 => exact h1.trans h2

theorem ordGo_swap (cls : Int → Int) {x y : Int} (hx : cls x ≠ 0) (hy : cls y ≠ 0) (h : cls x ≠ cls y) (b : List Int) : ∀ (a ms : List Int), ordGo cls ms (a ++ x :: y :: b) = ordGo cls ms (a ++ y :: x :: b)
  | [], ms => by
    have e : SameC cls (ms ++ [x] ++ [y]) (ms ++ [y] ++ [x]) := by
      have := (SameC.refl cls ms).append (swap_same (cls := cls) [x] [y] (by simpa using h))
      simpa using this
    simp only [List.nil_append, ordGo, if_neg hx, if_neg hy]
    exact ordGo_congr cls b _ _ e
  | c :: r, ms => by
    rw [List.cons_append, List.cons_append]
    unfold ordGo
    rw [ordGo_swap cls hx hy h b r [], ordGo_swap cls hx hy h b r (ms ++ [c])]

theorem Sw.ord {cls : Int → Int} {a b : List Int} (h : Sw cls a b) : ord cls a = ord cls b := by
  induction h using Sw.ind with
  | refl l => rfl
  | swap a x y b hx hy h => exact ordGo_swap cls hx hy h b a []
  | trans _ _ h1 h2 => exact h1.trans h2

theorem sw_ins (cls : Int → Int) (x : Int) (hx : cls x ≠ 0) : ∀ l : List Int, (∀ y ∈ l, cls y ≠ 0) → Sw cls (x :: l) (insC cls x l)
  | [], _ => .refl _
  | y :: r, h => by
    unfold insC
    split
    · exact .refl _
    · rename_i hne
      have h1 := Sw.swap (cls := cls) [] x y r hx (h y (by simp)) (by omega)
      have h2 := (sw_ins cls x hx r (fun z hz => h z (by simp [hz]))).left [y]
      exact Sw.trans h1 h2

theorem sw_sort (cls : Int → Int) : ∀ l : List Int, (∀ y ∈ l, cls y ≠ 0) → Sw cls l (sortC cls l)
  | [], _ => .refl _
  | x :: r, h => by
    have h1 := (sw_sort cls r (fun z hz => h z (by simp [hz]))).left [x]
    exact Sw.trans h1 (sw_ins cls x (h x (by simp)) _ (fun y hy => h y (by simp [sortC_mem.1 hy])))

theorem sw_ordGo (cls : Int → Int) : ∀ (l ms : List Int), (∀ y ∈ ms, cls y ≠ 0) → Sw cls (ms ++ l) (ordGo cls ms l)
  | [], ms, h => by
    rw [List.append_nil]
    exact sw_sort cls ms h
  | c :: r, ms, h => by
    unfold ordGo
    split
    · exact (sw_sort cls ms h).append ((sw_ordGo cls r [] (by simp)).left [c])
    · rename_i hc
      have := sw_ordGo cls r (ms ++ [c]) (fun y hy => by
        rcases List.mem_append.1 hy with hy | hy
        · exact h y hy
        · rw [List.mem_singleton.1 hy]; exact hc)
      simpa using this

theorem sw_ord (cls : Int → Int) (l : List Int) : Sw cls l (ord cls l) := by
  have := sw_ordGo cls l [] (by simp)
  exact this

theorem ord_mem {cls : Int → Int} {l : List Int} {x : Int} : x ∈ ord cls l ↔ x ∈ l := (sw_ord cls l).same.mem

/-- A block of one class changes places with one of another. -/
theorem sw_blocks {cls : Int → Int} {p q : Int} (hp : p ≠ 0) (hq : q ≠ 0) (h : p ≠ q) : ∀ (X Y : List Int), (∀ x ∈ X, cls x = p) → (∀ y ∈ Y, cls y = q) → Sw cls (X ++ Y) (Y ++ X)
  | [], Y, _, _ => by simpa using Sw.refl Y
  | x :: X, Y, hX, hY => by
    have h1 : ∀ Y : List Int, (∀ y ∈ Y, cls y = q) → Sw cls (x :: Y) (Y ++ [x]) := by
      intro Y
      induction Y with
      | nil => intro _; exact .refl _
      | cons y Y ih =>
        intro hy
        have e1 := Sw.swap (cls := cls) [] x y Y (by rw [hX x (by simp)]; exact hp) (by rw [hy y (by simp)]; exact hq) (by rw [hX x (by simp), hy y (by simp)]; exact h)
        have e2 := (ih (fun z hz => hy z (by simp [hz]))).left [y]
        exact Sw.trans e1 e2
    have h2 := (sw_blocks hp hq h X Y (fun z hz => hX z (by simp [hz])) hY).left [x]
    have h3 := (h1 Y hY).right X
    have := Sw.trans h2 h3
    simpa using this

theorem Sw.flatMap {cls : Int → Int} {f : Int → List Int} (hf : ∀ x, cls x ≠ 0 → ∀ z ∈ f x, cls z = cls x) {a b : List Int} (h : Sw cls a b) : Sw cls (a.flatMap f) (b.flatMap f) := by
  induction h using Sw.ind with
  | refl l => exact .refl _
  | swap a x y b hx hy h =>
    have e := (sw_blocks hx hy h (f x) (f y) (hf x hx) (hf y hy)).right (b.flatMap f)
    have := e.left (a.flatMap f)
    simpa using this
  | trans _ _ h1 h2 => exact .trans h1 h2

theorem ord_cons (cls : Int → Int) (c : Int) (hc : cls c = 0) (b : List Int) : ord cls (c :: b) = c :: ord cls b := by
  unfold ord
  rw [ordGo, if_pos hc]
  rfl

end Go.Proofs.YtmhaknejeobfgabGreatDoor.Order

/- Form. -/
namespace Go.Proofs.YtmhaknejeobfgabGreatDoor
open Go.Proofs.YtmhaknejeobfgabGreatDoor.Order Go.Proofs.YtmhaknejeobfgabGreatDoor.Points Go.Proofs.YtmhaknejeobfgabGreatDoor.Stable

def apartN : Nat → Bool → Int → List Int
  | 0, _, c => [c]
  | n + 1, k, c => if partsOf k c = [] then [c] else (partsOf k c).flatMap (apartN n k)

/-- What a code point is taken apart into (k: compatibly). -/
def apart (k : Bool) (c : Int) : List Int := apartN 2 k c

/-- A code point, or its folding in its place (f: it is folded). -/
def foldL (f : Bool) (c : Int) : List Int := if f = true then (if foldOf c = [] then [c] else foldOf c) else [c]

/-- What comes out of a code point, ahead of the ordering. -/
def pieces (k f : Bool) (c : Int) : List Int := (foldL f c).flatMap (apart k)

/-- A stage. -/
def stg (k f : Bool) (l : List Int) : List Int := ord clsOf (l.flatMap (pieces k f))

/-- The stages of a mode behind the first. -/
def more (m : Int) : List Bool := if m = 2 then [false] else if m = 3 then [true, true] else []

/-- The mode's form. -/
def form (m : Int) (l : List Int) : List Int := (more m).foldl (fun x k => stg k true x) (stg (m == 1) false l)

theorem look_some : ∀ (l : List Fact) (c : Int) (acc r : Option Fact), l.foldl (fun acc r => if r.cp = c then some r else acc) acc = r → r = acc ∨ ∃ q, r = some q ∧ q ∈ l ∧ q.cp = c
  | [], c, acc, r, h => .inl h.symm
  | x :: l, c, acc, r, h => by
    rw [List.foldl_cons] at h
    rcases look_some l c _ r h with h | ⟨q, h1, h2, h3⟩
    · by_cases hx : x.cp = c
      · rw [if_pos hx] at h
        exact .inr ⟨x, h, by simp, hx⟩
      · rw [if_neg hx] at h
        exact .inl h
    · exact .inr ⟨q, h1, by simp [h2], h3⟩

theorem look_cases (c : Int) : look facts c = none ∨ ∃ r, r ∈ facts ∧ r.cp = c := by
  rcases look_some facts c none _ rfl with h | ⟨q, _, h2, h3⟩
  · exact .inl h
  · exact .inr ⟨q, h2, h3⟩

/-- Of the letters and of what syllables are made of no row tells. -/
theorem rows_none : facts.all (fun r => decide (160 ≤ r.cp ∧ r.cp < 4352 ∨ 4546 < r.cp ∧ r.cp < 44032 ∨ 55203 < r.cp ∧ r.cp ≤ 1114111)) = true := by decide +kernel

theorem look_none {c : Int} (h : c < 160 ∨ (4352 ≤ c ∧ c ≤ 4546) ∨ (44032 ≤ c ∧ c ≤ 55203)) : look facts c = none := by
  rcases look_cases c with hc | ⟨r, hr, rfl⟩
  · exact hc
  · have := List.all_eq_true.1 rows_none r hr
    simp only [decide_eq_true_eq] at this
    omega

theorem cls_none {c : Int} (h : look facts c = none) : clsOf c = 0 := by unfold clsOf; rw [h]
theorem fold_none {c : Int} (h : look facts c = none) : rawFold c = [] := by unfold rawFold; rw [h]
theorem parts_none {c : Int} (k : Bool) (h : look facts c = none) (hs : ¬ (44032 ≤ c ∧ c ≤ 55203)) : partsOf k c = [] := by
  unfold partsOf rawParts
  rw [if_neg hs, h]
  simp

theorem apart_atom {c : Int} {k : Bool} (h : partsOf k c = []) : apart k c = [c] := by
  unfold apart
  rw [apartN, if_pos h]

/-- What is not a letter, not a syllable and in no row. -/
theorem syl_parts {c : Int} (h0 : 44032 ≤ c) (h1 : c ≤ 55203) : ∀ x ∈ sylOf c, 4352 ≤ x ∧ x ≤ 4546 := by
  intro x hx
  unfold sylOf at hx
  simp only [List.mem_append, List.mem_cons, List.not_mem_nil, or_false] at hx
  rcases hx with (rfl | rfl) | hx
  · omega
  · omega
  · split at hx
    · simp at hx
    · simp at hx
      omega

theorem syl_ne (c : Int) : sylOf c ≠ [] := by unfold sylOf; simp

theorem syl_atom {x : Int} (k : Bool) (h : 4352 ≤ x ∧ x ≤ 4546) : partsOf k x = [] := parts_none k (look_none (.inr (.inl h))) (by omega)

theorem apart_syl {c : Int} (k : Bool) (h0 : 44032 ≤ c) (h1 : c ≤ 55203) : apart k c = sylOf c := by
  have e : partsOf k c = sylOf c := by unfold partsOf; rw [if_pos ⟨h0, h1⟩]
  unfold apart
  rw [apartN, e, if_neg (syl_ne c)]
  have : ∀ l : List Int, (∀ x ∈ l, 4352 ≤ x ∧ x ≤ 4546) → l.flatMap (apartN 1 k) = l := by
    intro l
    induction l with
    | nil => intro _; rfl
    | cons x r ih =>
      intro h
      rw [List.flatMap_cons, ih (fun y hy => h y (by simp [hy])), apartN, if_pos (syl_atom k (h x (by simp)))]
      rfl
  exact this _ (syl_parts h0 h1)

def both (p : Bool → Bool) : Bool := p false && p true

theorem both_all {p : Bool → Bool} (h : both p = true) (k : Bool) : p k = true := by
  unfold both at h
  rw [Bool.and_eq_true] at h
  cases k
  · exact h.1
  · exact h.2

def isValid (c : Int) : Bool := decide ((0 ≤ c ∧ c < 55296) ∨ (57343 < c ∧ c ≤ 1114111))

/-- What is to be seen of each row. -/
def rowOk (c : Int) : Bool :=
  both (fun k => (apart k c).all (fun x => (partsOf k x).isEmpty)) &&
  both (fun k => apart k c == if (partsOf k c).isEmpty then [c] else (partsOf k c).flatMap (apart k)) &&
  both (fun k => clsOf c == 0 || (apart k c).all (fun x => clsOf x == clsOf c)) &&
  (apart true c == (apart false c).flatMap (apart true)) &&
  (!(partsOf true c).isEmpty || (partsOf false c).isEmpty) &&
  both (fun k => !(partsOf k c).isEmpty || (pieces k true c).all (fun x => (foldOf x).isEmpty)) &&
  both (fun k => both (fun f => (pieces k f c).all isValid && decide ((pieces k f c).length ≤ 18) && !(pieces k f c).isEmpty)) &&
  (decide (0 ≤ clsOf c) && decide (clsOf c ≤ 240))

theorem rows_ok : facts.all (fun r => rowOk r.cp) = true := by decide +kernel

structure Ok (c : Int) : Prop where
  atoms : ∀ k, ∀ x ∈ apart k c, partsOf k x = []
  step : ∀ k, apart k c = if partsOf k c = [] then [c] else (partsOf k c).flatMap (apart k)
  marks : ∀ k, clsOf c ≠ 0 → ∀ x ∈ apart k c, clsOf x = clsOf c
  twice : apart true c = (apart false c).flatMap (apart true)
  weak : partsOf true c = [] → partsOf false c = []
  folded : ∀ k, partsOf k c = [] → ∀ x ∈ pieces k true c, foldOf x = []
  valid : Valid c → ∀ k f, ∀ x ∈ pieces k f c, Valid x
  len : ∀ k f, (pieces k f c).length ≤ 18
  ne : ∀ k f, pieces k f c ≠ []
  lo : 0 ≤ clsOf c
  hi : clsOf c ≤ 240

theorem ok_row {c : Int} (h : rowOk c = true) : Ok c := by
  unfold rowOk at h
  simp only [Bool.and_eq_true] at h
  obtain ⟨⟨⟨⟨⟨⟨⟨h1, h2⟩, h3⟩, h4⟩, h5⟩, h6⟩, h7⟩, h8, h9⟩ := h
  refine ⟨fun k x hx => ?_, fun k => ?_, fun k hc x hx => ?_, ?_, fun h => ?_, fun k h x hx => ?_, fun _ k f x hx => ?_, fun k f => ?_, fun k f => ?_, ?_, ?_⟩
  · exact List.isEmpty_iff.1 (List.all_eq_true.1 (both_all h1 k) x hx)
  · have := beq_iff_eq.1 (both_all h2 k)
    rw [this]
    by_cases hp : partsOf k c = []
    · simp [hp]
    · have hq : (partsOf k c).isEmpty = false := by simpa using hp
      rw [hq, if_neg hp]
      rfl
  · have := both_all h3 k
    rw [Bool.or_eq_true] at this
    rcases this with h | h
    · exact absurd (beq_iff_eq.1 h) hc
    · exact beq_iff_eq.1 (List.all_eq_true.1 h x hx)
  · exact beq_iff_eq.1 h4
  · rw [Bool.or_eq_true] at h5
    rcases h5 with h5 | h5
    · rw [h] at h5
      simp at h5
    · exact List.isEmpty_iff.1 h5
  · have := both_all h6 k
    rw [Bool.or_eq_true] at this
    rcases this with h6 | h6
    · rw [h] at h6
      simp at h6
    · exact List.isEmpty_iff.1 (List.all_eq_true.1 h6 x hx)
  · have := both_all (both_all h7 k) f
    rw [Bool.and_eq_true, Bool.and_eq_true] at this
    have h := List.all_eq_true.1 this.1.1 x hx
    unfold isValid at h
    unfold Valid
    simpa using h
  · have := both_all (both_all h7 k) f
    rw [Bool.and_eq_true, Bool.and_eq_true] at this
    simpa using this.1.2
  · have := both_all (both_all h7 k) f
    rw [Bool.and_eq_true, Bool.and_eq_true] at this
    simpa using this.2
  · simpa using h8
  · simpa using h9

theorem flat_id {f : Int → List Int} : ∀ {l : List Int}, (∀ x ∈ l, f x = [x]) → l.flatMap f = l
  | [], _ => rfl
  | x :: r, h => by rw [List.flatMap_cons, h x (by simp), flat_id (fun y hy => h y (by simp [hy]))]; rfl

theorem flat_one (f : Int → List Int) (c : Int) : [c].flatMap f = f c := by simp

theorem ok_all (c : Int) : Ok c := by
  rcases look_cases c with h | ⟨r, hr, rfl⟩
  · have hcl := cls_none h
    have hfo := fold_none h
    by_cases hs : 44032 ≤ c ∧ c ≤ 55203
    · have hA : ∀ k, apart k c = sylOf c := fun k => apart_syl k hs.1 hs.2
      have hP : ∀ k, partsOf k c = sylOf c := fun k => by unfold partsOf; rw [if_pos hs]
      have hR := syl_parts hs.1 hs.2
      have hF : foldOf c = [] := by unfold foldOf; rw [if_neg (by omega), hfo]
      have hL : ∀ f, foldL f c = [c] := fun f => by unfold foldL; rw [hF]; simp
      have hid : ∀ k, (sylOf c).flatMap (apart k) = sylOf c := fun k => flat_id (fun x hx => apart_atom (syl_atom k (hR x hx)))
      have hpc : ∀ k f, pieces k f c = sylOf c := fun k f => by unfold pieces; rw [hL, flat_one, hA]
      refine ⟨fun k x hx => ?_, fun k => ?_, fun k hc => absurd hcl hc, ?_, fun h => ?_, fun k h => ?_, fun _ k f x hx => ?_, fun k f => ?_, fun k f => ?_, by omega, by omega⟩
      · rw [hA] at hx
        exact syl_atom k (hR x hx)
      · rw [hA, hP, if_neg (syl_ne c), hid]
      · rw [hA, hA, hid]
      · rw [hP] at h
        exact absurd h (syl_ne c)
      · rw [hP] at h
        exact absurd h (syl_ne c)
      · rw [hpc] at hx
        have := hR x hx
        unfold Valid
        omega
      · rw [hpc]
        unfold sylOf
        split <;> simp
      · rw [hpc]
        exact syl_ne c
    · have hP : ∀ k, partsOf k c = [] := fun k => parts_none k h hs
      have hA : ∀ k, apart k c = [c] := fun k => apart_atom (hP k)
      have hpc : ∀ k f, ∃ d, pieces k f c = [d] ∧ foldOf d = foldOf (if f = true ∧ 65 ≤ c ∧ c ≤ 90 then c + 32 else c) ∧ (d = c ∨ (65 ≤ c ∧ c ≤ 90 ∧ d = c + 32)) := by
        intro k f
        by_cases hz : 65 ≤ c ∧ c ≤ 90
        · have hF : foldOf c = [c + 32] := by unfold foldOf; rw [if_pos hz]
          cases f
          · refine ⟨c, ?_, by simp, .inl rfl⟩
            simp [pieces, foldL, hA]
          · refine ⟨c + 32, ?_, by simp [hz], .inr ⟨hz.1, hz.2, rfl⟩⟩
            have ha : apart k (c + 32) = [c + 32] := apart_atom (parts_none k (look_none (.inl (by omega))) (by omega))
            simp [pieces, foldL, hF, ha]
        · have hF : foldOf c = [] := by unfold foldOf; rw [if_neg hz, hfo]
          refine ⟨c, ?_, by simp [hz], .inl rfl⟩
          simp [pieces, foldL, hF, hA]
      refine ⟨fun k x hx => ?_, fun k => ?_, fun k hc => absurd hcl hc, ?_, fun _ => hP false, fun k _ x hx => ?_, fun hv k f x hx => ?_, fun k f => ?_, fun k f => ?_, by omega, by omega⟩
      · rw [hA] at hx
        rw [List.mem_singleton.1 hx]
        exact hP k
      · rw [hA, if_pos (hP k)]
      · rw [hA, hA, flat_one, hA]
      · obtain ⟨d, e, e2, _⟩ := hpc k true
        rw [e] at hx
        rw [List.mem_singleton.1 hx, e2]
        by_cases hz : 65 ≤ c ∧ c ≤ 90
        · rw [if_pos ⟨rfl, hz⟩]
          unfold foldOf
          rw [if_neg (by omega)]
          exact fold_none (look_none (.inl (by omega)))
        · rw [if_neg (fun h => hz h.2)]
          unfold foldOf
          rw [if_neg hz, hfo]
      · obtain ⟨d, e, _, e3⟩ := hpc k f
        rw [e] at hx
        rw [List.mem_singleton.1 hx]
        unfold Valid at hv ⊢
        omega
      · obtain ⟨d, e, _⟩ := hpc k f
        rw [e]
        simp
      · obtain ⟨d, e, _⟩ := hpc k f
        rw [e]
        simp
  · exact ok_row (List.all_eq_true.1 rows_ok r hr)

end Go.Proofs.YtmhaknejeobfgabGreatDoor

/- Form2. -/
namespace Go.Proofs.YtmhaknejeobfgabGreatDoor
open Go.Proofs.YtmhaknejeobfgabGreatDoor.Order Go.Proofs.YtmhaknejeobfgabGreatDoor.Points Go.Proofs.YtmhaknejeobfgabGreatDoor.Stable

theorem pieces_from {k f : Bool} {c x : Int} (h : x ∈ pieces k f c) : ∃ d, d ∈ foldL f c ∧ x ∈ apart k d := by
  unfold pieces at h
  exact List.mem_flatMap.1 h

theorem stg_mem {k f : Bool} {l : List Int} {x : Int} (h : x ∈ stg k f l) : ∃ c, c ∈ l ∧ x ∈ pieces k f c := by
  unfold stg at h
  exact List.mem_flatMap.1 (ord_mem.1 h)

theorem stg_valid {k f : Bool} {l : List Int} (h : ∀ c ∈ l, Valid c) : ∀ c ∈ stg k f l, Valid c := by
  intro x hx
  obtain ⟨c, hc, hx⟩ := stg_mem hx
  exact (ok_all c).valid (h c hc) k f x hx

theorem more_0 : more 0 = [] := rfl
theorem more_1 : more 1 = [] := rfl
theorem more_2 : more 2 = [false] := rfl
theorem more_3 : more 3 = [true, true] := rfl

theorem form_valid {m : Int} {l : List Int} (h : ∀ c ∈ l, Valid c) : ∀ c ∈ form m l, Valid c := by
  unfold form
  have : ∀ (ks : List Bool) (l : List Int), (∀ c ∈ l, Valid c) → ∀ c ∈ ks.foldl (fun x k => stg k true x) l, Valid c := by
    intro ks
    induction ks with
    | nil => intro l h; exact h
    | cons k ks ih => intro l h; exact ih _ (stg_valid h)
  exact this _ _ (stg_valid h)

theorem modes {m : Int} (h0 : 0 ≤ m) (h3 : m ≤ 3) : m = 0 ∨ m = 1 ∨ m = 2 ∨ m = 3 := by omega

/-- The first code point that goes out, if one goes in alone. -/
def headOf (k f : Bool) (c : Int) : Int := (pieces k f c).headD 0

/-- Are all first ones starters? -/
def cutOk : List Bool → Int → Bool
  | [], _ => true
  | k :: ks, c => clsOf (headOf k true c) == 0 && cutOk ks (headOf k true c)

/-- May a text be cut ahead of a code point? -/
def mayCut (m : Int) (c : Int) : Bool := clsOf (headOf (m == 1) false c) == 0 && cutOk (more m) (headOf (m == 1) false c)

end Go.Proofs.YtmhaknejeobfgabGreatDoor

/- Signs. -/
namespace Go.Proofs.YtmhaknejeobfgabGreatDoor.Points
open Go.Lib Go.Op

/-- The order of two lists: -1, 0, 1. -/
def signL : List Int → List Int → Int
  | [], [] => 0
  | [], _ :: _ => -1
  | _ :: _, [] => 1
  | a :: x, b :: y => if a < b then -1 else if b < a then 1 else signL x y

theorem utf8_cons (c : Int) (l : List Int) : utf8 (c :: l) = encodeRune c ++ utf8 l := by simp [utf8]

end Go.Proofs.YtmhaknejeobfgabGreatDoor.Points

/- Follow. -/
namespace Go.Proofs.YtmhaknejeobfgabGreatDoor
open Go.Proofs.YtmhaknejeobfgabGreatDoor.Order Go.Proofs.YtmhaknejeobfgabGreatDoor.Points Go.Proofs.YtmhaknejeobfgabGreatDoor.Stable Go.Lib

/-- A place at which a code point of a text begins, or its end. -/
def Bd (l : List UInt8) (p : Nat) : Prop := ∀ P : List UInt8 → Nat → Prop, (∀ l, P l 0) → (∀ l p, l ≠ [] → P (l.drop (decodeL l).2) p → P l ((decodeL l).2 + p)) → P l p

theorem Bd.zero (l : List UInt8) : Bd l 0 := fun _ z _ => z l

theorem Bd.step {l : List UInt8} {p : Nat} (h : l ≠ []) (k : Bd (l.drop (decodeL l).2) p) : Bd l ((decodeL l).2 + p) := fun P z s => s l p h (k P z s)

theorem Bd.ind {motive : (l : List UInt8) → (p : Nat) → Bd l p → Prop} (zero : ∀ l, motive l 0 (Bd.zero l)) (step : ∀ {l : List UInt8} {p : Nat} (h : l ≠ []) (k : Bd (l.drop (decodeL l).2) p), motive (l.drop (decodeL l).2) p k → motive l ((decodeL l).2 + p) (Bd.step h k))
    {l : List UInt8} {p : Nat} (h : Bd l p) : motive l p h :=
  (h (fun l p => ∃ h : Bd l p, motive l p h) (fun l => ⟨_, zero l⟩) (fun _ _ h ⟨_, m⟩ => ⟨_, step h _ m⟩)).elim fun _ m => m

theorem Bd.le {l : List UInt8} {p : Nat} (h : Bd l p) : p ≤ l.length := by
  induction h using Bd.ind with
  | zero l => omega
  | step h k ih =>
    have := decodeL_le _ h
    rw [List.length_drop] at ih
    omega

theorem take_ne {l : List UInt8} {k : Nat} (h : l ≠ []) (hk : 1 ≤ k) : l.take k ≠ [] := by
  cases l with
  | nil => exact absurd rfl h
  | cons a r =>
    obtain ⟨j, rfl⟩ : ∃ j, k = j + 1 := ⟨k - 1, by omega⟩
    simp

theorem Bd.split {l : List UInt8} {p : Nat} (h : Bd l p) : codes l = codes (l.take p) ++ codes (l.drop p) := by
  induction h using Bd.ind with
  | zero l => simp [codes_nil]
  | step h k ih =>
    rename_i l p
    have hw := decodeL_width l
    rw [codes_step l h, codes_step (l.take _) (take_ne h (by omega)), dec_take l _ (by omega) (by omega), ih]
    have e1 : (l.take ((decodeL l).2 + p)).drop (decodeL l).2 = (l.drop (decodeL l).2).take p := by
      rw [List.drop_take]; congr 1; omega
    have e2 : (l.drop (decodeL l).2).drop p = l.drop ((decodeL l).2 + p) := by rw [List.drop_drop]
    rw [e1, e2]
    rfl

theorem Bd.step' {l : List UInt8} {p w : Nat} (h : l ≠ []) (hw : (decodeL l).2 = w) (k : Bd (l.drop w) p) : Bd l (w + p) := by
  subst hw
  exact .step h k

theorem Bd.inv {l : List UInt8} {q : Nat} (h : Bd l q) (hq : 0 < q) : l ≠ [] ∧ ∃ r, q = (decodeL l).2 + r ∧ Bd (l.drop (decodeL l).2) r := by
  induction h using Bd.ind with
  | zero => omega
  | step h k _ => exact ⟨h, _, rfl, k⟩

theorem Bd.sub {l : List UInt8} {p q : Nat} (hp : Bd l p) (hq : Bd l q) (hle : p ≤ q) : Bd (l.take q) p := by
  induction hp using Bd.ind generalizing q with
  | zero l => exact .zero _
  | step h k ih =>
    rename_i l p
    have hw := decodeL_width l
    obtain ⟨_, r, rfl, k'⟩ := hq.inv (by omega)
    have hd := dec_take l ((decodeL l).2 + r) (by omega) (by omega)
    refine Bd.step' (take_ne h (by omega)) (by rw [hd]) ?_
    have e1 : (l.take ((decodeL l).2 + r)).drop (decodeL l).2 = (l.drop (decodeL l).2).take r := by
      rw [List.drop_take]; congr 1; omega
    rw [e1]
    exact ih k' (by omega)

theorem Bd.rest {l : List UInt8} {p q : Nat} (hp : Bd l p) (hq : Bd l q) (hle : p ≤ q) : Bd (l.drop p) (q - p) := by
  induction hp using Bd.ind generalizing q with
  | zero l => exact hq
  | step h k ih =>
    rename_i l p
    have hw := decodeL_width l
    obtain ⟨_, r, rfl, k'⟩ := hq.inv (by omega)
    have := ih k' (by omega)
    rwa [List.drop_drop, show r - p = (decodeL l).2 + r - ((decodeL l).2 + p) by omega] at this

/-- The code points between two places. -/
theorem Bd.between {l : List UInt8} {p q : Nat} (hp : Bd l p) (hq : Bd l q) (hle : p ≤ q) : codes (l.take q) = codes (l.take p) ++ codes ((l.drop p).take (q - p)) := by
  have := (hp.sub hq hle).split
  rwa [List.take_take, Nat.min_eq_left hle, List.drop_take] at this

/-- The code points of a text and their places. -/
def ptsF : Nat → Nat → List UInt8 → List (Nat × Int)
  | 0, _, _ => []
  | n + 1, o, l => if l = [] then [] else (o, ((decodeL l).1 : Int)) :: ptsF n (o + (decodeL l).2) (l.drop (decodeL l).2)

def pts (o : Nat) (l : List UInt8) : List (Nat × Int) := ptsF l.length o l

theorem ptsF_nil : ∀ n o, ptsF n o [] = []
  | 0, _ => rfl
  | _ + 1, _ => by simp [ptsF]

theorem ptsF_fuel : ∀ (n m o : Nat) (l : List UInt8), l.length ≤ n → l.length ≤ m → ptsF n o l = ptsF m o l
  | 0, m, o, l, hn, _ => by
    have : l = [] := List.eq_nil_of_length_eq_zero (by omega)
    subst this
    rw [ptsF_nil, ptsF_nil]
  | n + 1, 0, o, l, _, hm => by
    have : l = [] := List.eq_nil_of_length_eq_zero (by omega)
    subst this
    rw [ptsF_nil, ptsF_nil]
  | n + 1, m + 1, o, l, hn, hm => by
    by_cases hne : l = []
    · subst hne
      rw [ptsF_nil, ptsF_nil]
    · have hw := decodeL_width l
      have hl : 0 < l.length := List.length_pos_iff.2 hne
      simp only [ptsF, if_neg hne]
      rw [ptsF_fuel n m _ _ (by rw [List.length_drop]; omega) (by rw [List.length_drop]; omega)]

theorem pts_nil (o : Nat) : pts o [] = [] := rfl

theorem pts_step (o : Nat) (l : List UInt8) (hne : l ≠ []) : pts o l = (o, ((decodeL l).1 : Int)) :: pts (o + (decodeL l).2) (l.drop (decodeL l).2) := by
  have hw := decodeL_width l
  have hl : 0 < l.length := List.length_pos_iff.2 hne
  obtain ⟨n, hn⟩ : ∃ n, l.length = n + 1 := ⟨l.length - 1, by omega⟩
  unfold pts
  rw [hn]
  simp only [ptsF, if_neg hne]
  rw [ptsF_fuel n _ _ _ (by rw [List.length_drop]; omega) (Nat.le_refl _)]

/-- What stands in the list of places. -/
theorem pts_mem : ∀ (n o : Nat) (l : List UInt8) (p : Nat) (c : Int), l.length ≤ n → (p, c) ∈ pts o l → o ≤ p ∧ p < o + l.length ∧ Bd l (p - o) ∧ ∃ r, codes (l.drop (p - o)) = c :: r
  | 0, o, l, p, c, hn, h => by
    have : l = [] := List.eq_nil_of_length_eq_zero (by omega)
    subst this
    rw [pts_nil] at h
    cases h
  | n + 1, o, l, p, c, hn, h => by
    by_cases hne : l = []
    · subst hne
      rw [pts_nil] at h
      cases h
    · have hw := decodeL_width l
      have hl : 0 < l.length := List.length_pos_iff.2 hne
      have hle := decodeL_le l hne
      rw [pts_step o l hne] at h
      rcases List.mem_cons.1 h with h | h
      · cases h
        refine ⟨by omega, by omega, ?_, codes (l.drop (decodeL l).2), ?_⟩
        · rw [Nat.sub_self]
          exact .zero l
        · rw [Nat.sub_self, List.drop_zero]
          exact codes_step l hne
      · obtain ⟨h1, h2, h3, r, h4⟩ := pts_mem n _ _ p c (by rw [List.length_drop]; omega) h
        rw [List.length_drop] at h2
        refine ⟨by omega, by omega, ?_, r, ?_⟩
        · have := Bd.step hne h3
          rwa [show (decodeL l).2 + (p - (o + (decodeL l).2)) = p - o by omega] at this
        · rw [List.drop_drop] at h4
          rwa [show (decodeL l).2 + (p - (o + (decodeL l).2)) = p - o by omega] at h4

theorem pts_codes : ∀ (n o : Nat) (l : List UInt8), l.length ≤ n → (pts o l).map Prod.snd = codes l
  | 0, o, l, hn => by
    have : l = [] := List.eq_nil_of_length_eq_zero (by omega)
    subst this
    rfl
  | n + 1, o, l, hn => by
    by_cases hne : l = []
    · subst hne
      rfl
    · have hw := decodeL_width l
      rw [pts_step o l hne, codes_step l hne, List.map_cons, pts_codes n _ _ (by rw [List.length_drop]; omega)]

/-- The places rise. -/
theorem pts_rise : ∀ (n o : Nat) (l : List UInt8), l.length ≤ n → (pts o l).Pairwise (fun a b => a.1 < b.1)
  | 0, o, l, hn => by
    have : l = [] := List.eq_nil_of_length_eq_zero (by omega)
    subst this
    rw [pts_nil]
    exact .nil
  | n + 1, o, l, hn => by
    by_cases hne : l = []
    · subst hne
      rw [pts_nil]
      exact .nil
    · have hw := decodeL_width l
      rw [pts_step o l hne]
      refine List.pairwise_cons.2 ⟨fun a ha => ?_, pts_rise n _ _ (by rw [List.length_drop]; omega)⟩
      have := (pts_mem _ _ _ a.1 a.2 (Nat.le_refl _) ha).1
      dsimp only
      omega

/-- Where a text may be cut. -/
def cutsOf (m : Int) (l : List UInt8) : List Nat := ((pts 0 l).filter (fun p => decide (0 < p.1) && mayCut m p.2)).map Prod.fst

/-- The Key's bytes. -/
def keyL (m : Int) (l : List UInt8) : List UInt8 := utf8 (form m (codes l))

end Go.Proofs.YtmhaknejeobfgabGreatDoor

/- Lines. -/
namespace Go.Proofs.YtmhaknejeobfgabGreatDoor
open Go.Proofs.YtmhaknejeobfgabGreatDoor.Order Go.Proofs.YtmhaknejeobfgabGreatDoor.Points Go.Proofs.YtmhaknejeobfgabGreatDoor.Stable

/-- What has come out of a stage that was given L (e: it has ended). -/
def outOf (e : Bool) (L : List Int) : List Int := if e = true then ord clsOf L else (feed clsOf [] L).2

/-- What waits in it. -/
def waitOf (e : Bool) (L : List Int) : List Int := if e = true then [] else (feed clsOf [] L).1

/-- What goes into the stage i of a line, given h. -/
def inAt (ks : Nat → Bool × Bool) (e : Bool) (h : List Int) : Nat → List Int
  | 0 => h
  | i + 1 => outOf e ((inAt ks e h i).flatMap (pieces (ks i).1 (ks i).2))

/-- What a stage has placed. -/
def gotAt (ks : Nat → Bool × Bool) (e : Bool) (h : List Int) (i : Nat) : List Int := (inAt ks e h i).flatMap (pieces (ks i).1 (ks i).2)

theorem inAt_succ (ks : Nat → Bool × Bool) (e : Bool) (h : List Int) (i : Nat) : inAt ks e h (i + 1) = outOf e (gotAt ks e h i) := rfl

theorem wait_marks (e : Bool) (L : List Int) : ∀ x ∈ waitOf e L, clsOf x ≠ 0 := by
  unfold waitOf
  cases e with
  | true => simp
  | false => exact feed_marks clsOf L [] (by simp)

theorem mark_range {c : Int} (h : clsOf c ≠ 0) : 160 ≤ c ∧ c ≤ 1114111 := by
  rcases look_cases c with hc | ⟨r, hr, rfl⟩
  · exact absurd (cls_none hc) h
  · have := List.all_eq_true.1 rows_none r hr
    simp only [decide_eq_true_eq] at this
    omega

theorem feed_length (cls : Int → Int) : ∀ (l ms : List Int), (feed cls ms l).1.length + (feed cls ms l).2.length = ms.length + l.length
  | [], ms => by simp [feed]
  | c :: r, ms => by
    unfold feed
    split
    · have := feed_length cls r []
      simp [sortC_length]
      simp at this
      omega
    · have := feed_length cls r (ms ++ [c])
      simp at this
      simp
      omega

theorem out_length (e : Bool) (L : List Int) : (outOf e L).length + (waitOf e L).length = L.length := by
  have := feed_length clsOf L []
  unfold outOf waitOf
  cases e with
  | true =>
    simp only [if_true]
    unfold ord
    rw [ordGo_feed]
    simp [sortC_length]
    simp at this
    omega
  | false =>
    simp at this ⊢
    omega

theorem flat_length {f : Int → List Int} {n : Nat} (h : ∀ c, (f c).length ≤ n) : ∀ l : List Int, (l.flatMap f).length ≤ n * l.length
  | [] => by simp
  | c :: r => by
    have h1 := h c
    have h2 := flat_length h r
    rw [List.flatMap_cons, List.length_append, List.length_cons, Nat.mul_succ]
    omega

theorem got_length (ks : Nat → Bool × Bool) (e : Bool) (h : List Int) : ∀ i, (inAt ks e h i).length ≤ 18 ^ i * h.length ∧ (gotAt ks e h i).length ≤ 18 ^ (i + 1) * h.length
  | 0 => by
    have := flat_length (f := pieces (ks 0).1 (ks 0).2) (n := 18) (fun c => (ok_all c).len _ _) h
    unfold gotAt inAt
    exact ⟨by omega, by omega⟩
  | i + 1 => by
    have ih := (got_length ks e h i).2
    have h1 := out_length e (gotAt ks e h i)
    have h2 : (inAt ks e h (i + 1)).length ≤ 18 ^ (i + 1) * h.length := by
      rw [inAt_succ]
      omega
    refine ⟨h2, ?_⟩
    have h3 := flat_length (f := pieces (ks (i + 1)).1 (ks (i + 1)).2) (n := 18) (fun c => (ok_all c).len _ _) (inAt ks e h (i + 1))
    unfold gotAt
    rw [Nat.pow_succ 18 (i + 1), Nat.mul_comm (18 ^ (i + 1)) 18, Nat.mul_assoc]
    exact Nat.le_trans h3 (Nat.mul_le_mul_left 18 h2)

/-- What has come out of a stage is a beginning of what will. -/
theorem out_prefix (L x : List Int) (e : Bool) : ∃ t, outOf e (L ++ x) = outOf false L ++ t := by
  unfold outOf
  cases e with
  | false =>
    simp only [Bool.false_eq_true, if_false]
    rw [feed_append]
    exact ⟨_, rfl⟩
  | true =>
    simp only [if_true, Bool.false_eq_true, if_false]
    unfold ord
    rw [ordGo_feed, feed_append]
    exact ⟨_, by rw [List.append_assoc]⟩

theorem in_prefix (ks : Nat → Bool × Bool) (h x : List Int) (e : Bool) : ∀ i, ∃ t, inAt ks e (h ++ x) i = inAt ks false h i ++ t
  | 0 => ⟨x, rfl⟩
  | i + 1 => by
    obtain ⟨t, ht⟩ := in_prefix ks h x e i
    rw [inAt, ht, List.flatMap_append, inAt]
    exact out_prefix _ _ e

theorem inAt_valid {ks : Nat → Bool × Bool} {e : Bool} {h : List Int} (hv : ∀ c ∈ h, Valid c) : ∀ i, ∀ c ∈ inAt ks e h i, Valid c
  | 0 => hv
  | i + 1 => by
    intro c hc
    rw [inAt] at hc
    have hc : c ∈ (inAt ks e h i).flatMap (pieces (ks i).1 (ks i).2) := by
      unfold outOf at hc
      cases e with
      | true =>
        simp only [if_true] at hc
        exact ord_mem.1 hc
      | false =>
        simp only [Bool.false_eq_true, if_false] at hc
        have h1 := ordGo_feed clsOf ((inAt ks false h i).flatMap (pieces (ks i).1 (ks i).2)) []
        refine (ord_mem (cls := clsOf)).1 ?_
        unfold ord
        rw [h1]
        exact List.mem_append_left _ hc
    obtain ⟨d, hd, hx⟩ := List.mem_flatMap.1 hc
    exact (ok_all d).valid (inAt_valid hv i d hd) _ _ c hx

/-- The switches of the stages of a mode. -/
def kindAt (m : Int) (i : Nat) : Bool × Bool := if i = 0 then (m == 1, false) else (m == 3, true)

/-- How many stages a mode has. -/
def stagesOf (m : Int) : Nat := if m = 2 then 2 else if m = 3 then 3 else 1

theorem form_line {m : Int} (h0 : 0 ≤ m) (h3 : m ≤ 3) (l : List Int) : form m l = inAt (kindAt m) true l (stagesOf m) := by
  rcases modes h0 h3 with rfl | rfl | rfl | rfl <;> rfl

theorem feed_snoc (L l : List Int) : feed clsOf [] (L ++ l) = ((feed clsOf (feed clsOf [] L).1 l).1, (feed clsOf [] L).2 ++ (feed clsOf (feed clsOf [] L).1 l).2) := feed_append clsOf L l []

theorem wait_snoc (L l : List Int) : waitOf false (L ++ l) = (feed clsOf (waitOf false L) l).1 := by
  unfold waitOf
  simp only [Bool.false_eq_true, if_false]
  rw [feed_snoc]

theorem out_snoc (L l : List Int) : outOf false (L ++ l) = outOf false L ++ (feed clsOf (waitOf false L) l).2 := by
  unfold outOf waitOf
  simp only [Bool.false_eq_true, if_false]
  rw [feed_snoc]

theorem out_end (L : List Int) : outOf true L = outOf false L ++ sortC clsOf (waitOf false L) := by
  unfold outOf waitOf ord
  simp only [if_true, Bool.false_eq_true, if_false]
  exact ordGo_feed clsOf L []

/-- The most marks that waited at one time, when l is placed. -/
def heldF : Nat → List Int → List Int → Nat
  | mo, _, [] => mo
  | mo, ms, c :: l => if clsOf c = 0 then heldF mo [] l else heldF (max mo (ms.length + 1)) (ms ++ [c]) l

theorem heldF_append : ∀ (mo : Nat) (ms l l' : List Int), heldF mo ms (l ++ l') = heldF (heldF mo ms l) (feed clsOf ms l).1 l'
  | _, _, [], _ => rfl
  | mo, ms, c :: l, l' => by
    rw [List.cons_append, heldF, heldF, feed]
    split
    · exact heldF_append mo [] l l'
    · exact heldF_append _ _ l l'

/-- The most marks that ever waited in a stage that was given L. -/
def heldOf (L : List Int) : Nat := heldF 0 [] L

theorem heldOf_snoc (L l : List Int) : heldOf (L ++ l) = heldF (heldOf L) (waitOf false L) l := heldF_append 0 [] L l

end Go.Proofs.YtmhaknejeobfgabGreatDoor
