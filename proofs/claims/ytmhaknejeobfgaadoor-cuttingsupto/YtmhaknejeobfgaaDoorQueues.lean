/- The queue's methods Len, Waiting and Drop at one of their instances, walked over cells. The queue's methods Len, Waiting and Drop at one of their instances, over what waits: for every queue into which at most 2^40 things went. The queue's method Take at one of its instances: the first that waits, and the rest goes on waiting; false where none waits. The queue's method Put at one of its instances, walked: without and with the moving down of what waits. The queue's method Put at one of its instances, walked: with the moving down of what waits. The queue's method Put at one of its instances, over what waits: what is put waits behind what waited: for every queue into which at most 2^40 things went. The queue's methods Len, Waiting and Drop at one of their instances, walked over cells. The queue's methods Len, Waiting and Drop at one of their instances, over what waits: for every queue into which at most 2^40 things went. A byte of a text, as a number. Rows of numbers in new memory: kept, grown, read. -/
import Derived.Test.YtmhaknejeobfgaaDoorBase
import Derived.Test.YtmhaknejeobfgaaDoorChecked
import Derived.Deep.QuietTactic
import Derived.BigQuiet
import Derived.BigRegion
import Derived.Deep.RegionWith
import Derived.Deep.DrawnRows
import Derived.Maps.AppendAt
import Derived.Laws.AppendOwnNone
import Derived.Laws.CopyRow
import Derived.Laws.CopyOwn
import Derived.WalkSpells

/- QueueR. -/
namespace Go.Proofs.YtmhaknejeobfgaaDoor
open Go.RowKit
attribute [local go_sem ↓] Go.wp_at_zero Go.wp_at_succ

/-- The first store of Drop, then Len once more. -/
theorem after_R {w : World} {b o n c : Nat} {a : Option Addr} {h : Int} (h0 : w.cell? ⟨b, o, none⟩ = some (.slice a n c)) (h1 : w.cell? ⟨b, o + 1, none⟩ = some (.int .i64 h)) (x : Int) :
    (w.setCell ⟨b, o + 1, none⟩ (.int .i64 x)).cell? ⟨b, o, none⟩ = some (.slice a n c) ∧ (w.setCell ⟨b, o + 1, none⟩ (.int .i64 x)).cell? ⟨b, o + 1, none⟩ = some (.int .i64 x) :=
  ⟨(World.cell?_setCell_other _ _ _ _ (by intro e; simp at e)).trans h0, World.cell?_setCell_same _ _ _ h1⟩


end Go.Proofs.YtmhaknejeobfgaaDoor

/- QueueS. -/
namespace Go.Proofs.YtmhaknejeobfgaaDoor
open Go.RowKit


end Go.Proofs.YtmhaknejeobfgaaDoor

/- QueueT. -/
namespace Go.Proofs.YtmhaknejeobfgaaDoor
open Go.RowKit
attribute [local go_sem ↓] Go.wp_at_zero Go.wp_at_succ


end Go.Proofs.YtmhaknejeobfgaaDoor

/- QueueP. -/
namespace Go.Proofs.YtmhaknejeobfgaaDoor
open Go.RowKit
attribute [local go_sem ↓] Go.wp_at_zero Go.wp_at_succ

theorem Tryd.info_R : (Tryd.prog.info? 21).map (fun i => (i.zero, i.size, i.bytes)) = some (some (.int .i32 0), 1, 4) := by kernel_rfl


end Go.Proofs.YtmhaknejeobfgaaDoor

/- QueueM. -/
namespace Go.Proofs.YtmhaknejeobfgaaDoor
open Go.RowKit
attribute [local go_sem ↓] Go.wp_at_zero Go.wp_at_succ

theorem copy_R (w : World) (g n c h : Nat) (cur : Array Value) (hg : w.heap[g]? = some (.cells cur 21 (0, 0))) (hs : cur.size = c) (hn : h < n) (hnc : n ≤ c) (h1 : ∀ v ∈ (cur.toList.drop h).take (n - h), v.oneCell' = true) (ty : TypeId) :
    (Builtin.copy_ #[45, 45] ty #[.slice (some ⟨g, 0, none⟩) n c, .slice (some ⟨g, h, none⟩) (n - h) (c - h)]).run Tryd.prog w = .ok (.int .i64 ((n : Int) - (h : Int))) (w.setRow g (moved cur h n)) := by
  have hl : ((cur.toList.drop h).take (n - h)).length = n - h := by simp; omega
  have := run_copy_row (P := Tryd.prog) w 45 45 ty 21 g 0 n c ⟨g, h, none⟩ (n - h) (c - h) cur 21 ((cur.toList.drop h).take (n - h)) Tryd.underlying45 (by kernel_rfl) hg (by rw [hl]; show n - h = min (n - h) n; omega) (by
    intro j v hj
    have hjl : j < n - h := by have := (List.getElem?_eq_some_iff.1 hj).1; omega
    have : (⟨g, h, none⟩ : Addr).add j = ⟨g, h + j, none⟩ := by unfold Addr.add; simp
    rw [this]
    refine cell_of hg ?_
    rw [List.getElem?_take, if_pos hjl, List.getElem?_drop] at hj
    simpa using hj) (by rw [hl]; omega) h1
  rw [this]
  have e : goInt ((cur.toList.drop h).take (n - h)).length = .int .i64 ((n : Int) - (h : Int)) := by
    rw [hl, show ((n : Int) - (h : Int)) = ((n - h : Nat) : Int) by omega]
    rfl
  rw [e]
  rfl


end Go.Proofs.YtmhaknejeobfgaaDoor

/- QueueQ. -/
namespace Go.Proofs.YtmhaknejeobfgaaDoor
open Go.RowKit


end Go.Proofs.YtmhaknejeobfgaaDoor

/- QueueRB. -/
namespace Go.Proofs.YtmhaknejeobfgaaDoor
open Go.RowKit
attribute [local go_sem ↓] Go.wp_at_zero Go.wp_at_succ

/-- The first store of Drop, then Len once more. -/
theorem after_B {w : World} {b o n c : Nat} {a : Option Addr} {h : Int} (h0 : w.cell? ⟨b, o, none⟩ = some (.slice a n c)) (h1 : w.cell? ⟨b, o + 1, none⟩ = some (.int .i64 h)) (x : Int) :
    (w.setCell ⟨b, o + 1, none⟩ (.int .i64 x)).cell? ⟨b, o, none⟩ = some (.slice a n c) ∧ (w.setCell ⟨b, o + 1, none⟩ (.int .i64 x)).cell? ⟨b, o + 1, none⟩ = some (.int .i64 x) :=
  ⟨(World.cell?_setCell_other _ _ _ _ (by intro e; simp at e)).trans h0, World.cell?_setCell_same _ _ _ h1⟩


end Go.Proofs.YtmhaknejeobfgaaDoor

/- QueueSB. -/
namespace Go.Proofs.YtmhaknejeobfgaaDoor
open Go.RowKit


end Go.Proofs.YtmhaknejeobfgaaDoor

/- Byt. -/
namespace Go.Proofs.YtmhaknejeobfgaaDoor
open Go.RowKit Go.Proofs.YtmhaknejeobfgaaDoor.Stable Go.Proofs.YtmhaknejeobfgaaDoor.Order Go.Proofs.YtmhaknejeobfgaaDoor.Points

theorem hid {p : Prop} (h : p) : Hid p := h

/-- A byte of a text, as a number; 0 where there is none. -/
def byt (s : ByteArray) (j : Nat) : Nat := (s.data.toList.getD j 0).toNat

theorem byt_le (s : ByteArray) (j : Nat) : byt s j ≤ 255 := by
  unfold byt
  have := (s.data.toList.getD j 0).toNat_lt
  omega

theorem byt_none {s : ByteArray} {j : Nat} (h : s.size ≤ j) : byt s j = 0 := by
  unfold byt
  rw [Lib.size_eq] at h
  rw [List.getD_eq_getElem?_getD, List.getElem?_eq_none h]
  rfl

theorem byt_index {s : ByteArray} {x : Int} {j : Nat} (hx : x = (j : Int)) (h : j < s.size) (w : World) : (Instr.index 9 (.string s) (.int .i64 x)).run Tryd.prog w = .ok (.int .u8 (byt s j)) w := by
  subst hx
  rw [run_index_string w 9 s .i64 j Tryd.underlying9, dif_pos (by omega)]
  unfold byt
  have hl : j < s.data.toList.length := by rw [← Lib.size_eq]; exact h
  rw [List.getD_eq_getElem?_getD, List.getElem?_eq_getElem hl]
  simp
  rfl

end Go.Proofs.YtmhaknejeobfgaaDoor

/- RefRow. -/
namespace Go.Proofs.YtmhaknejeobfgaaDoor
open Go.RowKit Go.Proofs.YtmhaknejeobfgaaDoor.Stable Go.Proofs.YtmhaknejeobfgaaDoor.Order Go.Proofs.YtmhaknejeobfgaaDoor.Points

theorem Tryd.info_int : (Tryd.prog.info? 3).map (fun i => (i.zero, i.size, i.bytes)) = some (some (.int .i64 0), 1, 8) := by kernel_rfl

theorem row_kept {w w' : World} {base : Nat} {e : TypeId} {size : Nat} {v : Value} {n : Nat} {xs : List Value} (h : w.ownsRow base e size v n xs) {X : Nat → Prop} (f : Fr X w w') (hX : ∀ x, v.ownBlock = some x → ¬ X x) : w'.ownsRow base e size v n xs := by
  refine ⟨h.1, ?_⟩
  rcases h.2 with hn | ⟨x, cap, cur, rfl, hb, hgg, rest⟩
  · exact .inl hn
  · exact .inr ⟨x, cap, cur, rfl, hb, by rw [f.block x (lt_of hgg) (hX x rfl)]; exact hgg, rest⟩

theorem row_lt {w : World} {base : Nat} {e : TypeId} {size : Nat} {v : Value} {n : Nat} {xs : List Value} (h : w.ownsRow base e size v n xs) {x : Nat} (hx : v.ownBlock = some x) : base ≤ x ∧ x < w.heap.size := by
  rcases h.2 with ⟨hn, _⟩ | ⟨g, cap, cur, rfl, hb, hgg, rest⟩
  · rw [hn] at hx; cases hx
  · cases hx; exact ⟨hb, lt_of hgg⟩

theorem row_low {w : World} {base base' : Nat} {e : TypeId} {size : Nat} {v : Value} {n : Nat} {xs : List Value} (h : w.ownsRow base e size v n xs) (hb : base' ≤ base) : w.ownsRow base' e size v n xs := by
  refine ⟨h.1, ?_⟩
  rcases h.2 with hn | ⟨x, cap, cur, rfl, h2, rest⟩
  · exact .inl hn
  · exact .inr ⟨x, cap, cur, rfl, by omega, rest⟩

theorem row_form {w : World} {base : Nat} {e : TypeId} {size : Nat} {v : Value} {n : Nat} {xs : List Value} (h : w.ownsRow base e size v n xs) : ∃ a cp, v = .slice a n cp := by
  rcases h.2 with ⟨rfl, rfl⟩ | ⟨g, cap, cur, rfl, _⟩
  · exact ⟨_, _, rfl⟩
  · exact ⟨_, _, rfl⟩

theorem row_cell {w : World} {base : Nat} {e : TypeId} {a : Option Addr} {n cp : Nat} {xs : List Value} {i : Nat} {v : Value} (h : w.ownsRow base e 1 (.slice a n cp) n xs) (hi : i < n) (hv : xs[i]? = some v) : ∃ g, a = some ⟨g, 0, none⟩ ∧ w.cell? ⟨g, i, none⟩ = some v := by
  rcases h.2 with ⟨_, hn⟩ | ⟨g, cap, cur, hs, hb, hgg, h1, h2, h3, h4⟩
  · omega
  · cases hs
    refine ⟨g, rfl, cell_of hgg ?_⟩
    have e2 : (cur.toList.take (n * 1))[i]? = xs[i]? := by rw [h4]
    rw [List.getElem?_take, if_pos (by omega)] at e2
    rw [← Array.getElem?_toList, e2, hv]

/-- Numbers as cells. -/
def ints (l : List Int) : List Value := l.map fun c => Value.int .i64 c

theorem ints_append (l m : List Int) : ints (l ++ m) = ints l ++ ints m := by simp [ints]

theorem ints_length (l : List Int) : (ints l).length = l.length := by simp [ints]

theorem ints_one (l : List Int) : ∀ u ∈ ints l, u.oneCell' = true := by
  intro u hu
  simp only [ints, List.mem_map] at hu
  obtain ⟨c, _, rfl⟩ := hu
  rfl

/-- A list of numbers in memory that is not older than base. -/
def Row (w : World) (base : Nat) (a : Option Addr) (cp : Nat) (l : List Int) : Prop := w.ownsRow base 3 1 (.slice a l.length cp) l.length (ints l)

theorem own_slice (a : Option Addr) (n cp : Nat) : (Value.slice a n cp).ownBlock = a.map (fun x => x.block) := by cases a <;> rfl

theorem Row.none (w : World) (base : Nat) : Row w base none 0 [] := ⟨rfl, .inl ⟨rfl, rfl⟩⟩

theorem Row.kept {w w' : World} {base : Nat} {a : Option Addr} {cp : Nat} {l : List Int} (h : Row w base a cp l) {X : Nat → Prop} (f : Fr X w w') (hX : ∀ x, a = some x → ¬ X x.block) : Row w' base a cp l :=
  row_kept h f (fun x hx => by
    rw [own_slice] at hx
    cases a with
    | none => cases hx
    | some y => cases hx; exact hX y rfl)

theorem Row.keep {w w' : World} {base : Nat} {a : Option Addr} {cp : Nat} {l : List Int} (h : Row w base a cp l) (f : Fr (fun _ => False) w w') : Row w' base a cp l := h.kept f (fun _ _ => id)

theorem Row.low {w : World} {base base' : Nat} {a : Option Addr} {cp : Nat} {l : List Int} (h : Row w base a cp l) (hb : base' ≤ base) : Row w base' a cp l := row_low h hb

theorem Row.lt {w : World} {base : Nat} {a : Option Addr} {cp : Nat} {l : List Int} (h : Row w base a cp l) {x : Addr} (hx : a = some x) : base ≤ x.block ∧ x.block < w.heap.size := row_lt h (by rw [own_slice, hx]; rfl)

/-- What append made of it. -/
theorem Row.more {w' : World} {base n : Nat} {l xs : List Int} {v' : Value} (h : w'.ownsRow base 3 1 v' (l.length + n) (ints l ++ ints xs)) (hn : n = xs.length) : ∃ a' c', v' = .slice a' (l ++ xs).length c' ∧ Row w' base a' c' (l ++ xs) := by
  obtain ⟨a', c', rfl⟩ := row_form h
  have e : (l ++ xs).length = l.length + n := by rw [List.length_append, hn]
  refine ⟨a', c', by rw [e], ?_⟩
  unfold Row
  rw [e, ints_append]
  exact h

/-- The frame of an append. -/
theorem grown_fr {w w' : World} {a : Option Addr} {n cp : Nat} (h : w.grownBy w' (Value.slice a n cp).ownBlock) : Fr (fun x => some x = a.map (fun y => y.block)) w w' := by
  rw [own_slice] at h
  exact (Fr.refl _ w).grown h (fun k hk _ => hk.symm)

/-- .. where all that it turned is new. -/
theorem grown_new {w w1 w' : World} {a : Option Addr} {n cp base : Nat} {l : List Int} (f : Fr (fun _ => False) w w1) (hr : Row w1 base a cp l) (hb : w.heap.size ≤ base) (h : w1.grownBy w' (Value.slice a n cp).ownBlock) : Fr (fun _ => False) w w' :=
  f.trans (grown_fr h) (fun i hi e => by
    cases a with
    | none => cases e
    | some x =>
      have e' : i = x.block := by simpa using e
      have := (hr.lt rfl).1
      omega)

/-- Two lists that share no memory. -/
def Apart2 (a b : Option Addr) : Prop := ∀ x y, a = some x → b = some y → x.block ≠ y.block

/-- Numbers that can be read. -/
def IntsAt (w : World) (a : Option Addr) (l : List Int) : Prop := ∀ j z, l[j]? = some z → ∃ b off, a = some ⟨b, off, none⟩ ∧ w.cell? ⟨b, off + j, none⟩ = some (.int .i64 z)

theorem IntsAt.kept {w w' : World} {a : Option Addr} {l : List Int} (h : IntsAt w a l) {X : Nat → Prop} (f : Fr X w w') (hX : ∀ x, a = some x → ¬ X x.block) : IntsAt w' a l := fun j z hj => by
  obtain ⟨b, off, rfl, hc⟩ := h j z hj
  have hb := World.block_lt_of_cell? _ ⟨b, off + j, Option.none⟩ hc
  refine ⟨b, off, rfl, ?_⟩
  have e := f.block b hb (hX _ rfl)
  unfold World.cell? at hc ⊢
  rw [e]
  exact hc

theorem IntsAt.keep {w w' : World} {a : Option Addr} {l : List Int} (h : IntsAt w a l) (f : Fr (fun _ => False) w w') : IntsAt w' a l := h.kept f (fun _ _ => id)

theorem Row.ints {w : World} {base : Nat} {a : Option Addr} {cp : Nat} {l : List Int} (h : Row w base a cp l) : IntsAt w a l := fun j z hj => by
  have hlt : j < l.length := (List.getElem?_eq_some_iff.1 hj).1
  obtain ⟨g, rfl, hc⟩ := row_cell h hlt (v := .int .i64 z) (by simp [YtmhaknejeobfgaaDoor.ints, hj])
  exact ⟨g, 0, rfl, by rw [Nat.zero_add]; exact hc⟩

/-- Part of a list. -/
theorem IntsAt.drop {w : World} {b off : Nat} {l : List Int} (h : IntsAt w (some ⟨b, off, Option.none⟩) l) (k n : Nat) : IntsAt w (some ⟨b, off + k, Option.none⟩) ((l.drop k).take n) := fun j z hj => by
  rw [List.getElem?_take] at hj
  split at hj
  · rw [List.getElem?_drop] at hj
    obtain ⟨b', off', e, hc⟩ := h _ z hj
    cases e
    exact ⟨b, off + k, rfl, by rw [Nat.add_assoc]; exact hc⟩
  · cases hj

end Go.Proofs.YtmhaknejeobfgaaDoor
