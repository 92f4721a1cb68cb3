/- What a reader holds is no row of bytes; a row of bytes as text; how long a form is. Key: the bytes of the mode's form. The hash of bytes: hashOf, the law's own sum, and Hash. The laws' own small functions: pick and known. -/
import Derived.Test.YtmhaknejeobfgaaDoorReaders
import Derived.Test.YtmhaknejeobfgaaDoorBase
import Derived.Laws.IdiomStrings
import Derived.Laws.BytesArg
import Derived.Laws.Runes

/- Key1. -/
namespace Go.Proofs.YtmhaknejeobfgaaDoor
open Go.RowKit Go.Proofs.YtmhaknejeobfgaaDoor.Stable Go.Proofs.YtmhaknejeobfgaaDoor.Order Go.Proofs.YtmhaknejeobfgaaDoor.Points

theorem QIs.typ {w : World} {k : IntKind} {e : TypeId} {cs : Array Value} {o : Nat} {g : Option Nat} {xs : List Int} {N : Nat} (h : QIs w k e cs o g xs N) {x : Nat} (hx : g = some x) : ∃ cur, w.heap[x]? = some (.cells cur e (0, 0)) := by
  obtain ⟨v, pre, _, _, hr, hg, _, _⟩ := h
  rcases hr.2 with ⟨h, _⟩ | ⟨g', cap, cur, h, _, hb, _⟩
  · rw [h] at hg
    rw [← hg] at hx
    cases hx
  · rw [h] at hg
    rw [← hg] at hx
    cases hx
    exact ⟨cur, hb⟩

/-- No row of bytes. -/
def NoBytes (w : World) (T : Nat → Prop) : Prop := ∀ x, T x → ∃ cs t, w.heap[x]? = some (.cells cs t (0, 0)) ∧ t ≠ 5

/-- A slice of bytes in memory of its own. -/
def Buf (w : World) (base : Nat) (v : Value) (l : List UInt8) : Prop := w.ownsRow base 5 1 v l.length (Lib.byteCells l)

theorem Buf.kept {w w' : World} {base : Nat} {v : Value} {l : List UInt8} (h : Buf w base v l) {X : Nat → Prop} (f : Fr X w w') (hX : ∀ x, v.ownBlock = some x → ¬ X x) : Buf w' base v l := by
  refine ⟨h.1, ?_⟩
  rcases h.2 with hn | ⟨x, cap, cur, rfl, hb, hgg, rest⟩
  · exact .inl hn
  · exact .inr ⟨x, cap, cur, rfl, hb, by rw [f.block x (lt_of hgg) (hX x rfl)]; exact hgg, rest⟩

theorem Buf.lt {w : World} {base : Nat} {v : Value} {l : List UInt8} (h : Buf w base v l) {x : Nat} (hx : v.ownBlock = some x) : base ≤ x ∧ x < w.heap.size := by
  rcases h.2 with ⟨hn, _⟩ | ⟨g, cap, cur, rfl, hb, hgg, rest⟩
  · rw [hn] at hx; cases hx
  · cases hx; exact ⟨hb, lt_of hgg⟩

/-- A new row of bytes is none of the reader's. -/
theorem Buf.apart {w w' : World} {base : Nat} {v v' : Value} {l : List UInt8} {T : Nat → Prop} (h : Buf w' base v' l) (hT : NoBytes w T) (hv : ∀ x, v.ownBlock = some x → ¬ T x) (f : Fr (fun x => some x = v.ownBlock) w w') : ∀ x, v'.ownBlock = some x → ¬ T x := by
  intro x hx ht
  obtain ⟨cs, t, h1, h2⟩ := hT x ht
  have h3 := (f.block x (lt_of h1) (fun e => hv x e.symm ht)).trans h1
  rcases h.2 with ⟨hn, _⟩ | ⟨g, cap, cur, rfl, hb, hgg, rest⟩
  · rw [hn] at hx; cases hx
  · cases hx
    rw [h3] at hgg
    cases hgg
    exact h2 rfl

theorem Buf.text {w : World} {base : Nat} {v : Value} {l : List UInt8} (h : Buf w base v l) : (convert 94 9 v).run Tryd.prog w = .ok (.string ⟨l.toArray⟩) w := by
  rcases h.2 with ⟨rfl, hn⟩ | ⟨g, cap, cur, rfl, hb, hgg, h1, h2, h3, h4⟩
  · have : l = [] := List.eq_nil_of_length_eq_zero hn
    subst this
    exact run_convert_bytes_nil w _ 5 Tryd.underlying94 Tryd.underlying5 0 0 _ Tryd.underlying9
  · refine run_convert_bytes_back w _ _ 5 ⟨g, 0, none⟩ cap l Tryd.underlying94 Tryd.underlying5 Tryd.underlying9 (fun j hj => ?_)
    have e1 : (⟨g, 0, none⟩ : Addr).add j = ⟨g, j, none⟩ := by unfold Addr.add; split <;> simp_all
    rw [e1]
    refine cell_of hgg ?_
    have e2 : (cur.toList.take (l.length * 1))[j]? = (Lib.byteCells l)[j]? := by rw [h4]
    rw [List.getElem?_take, if_pos (by omega)] at e2
    rw [← Array.getElem?_toList, e2]
    unfold Lib.byteCells
    simp [hj]

theorem codes_length : ∀ (n : Nat) (l : List UInt8), l.length ≤ n → (codes l).length ≤ l.length
  | 0, l, hn => by
    have : l = [] := List.eq_nil_of_length_eq_zero (by omega)
    subst this
    simp [codes_nil]
  | n + 1, l, hn => by
    by_cases hne : l = []
    · subst hne; simp [codes_nil]
    · have hw := Lib.decodeL_width l
      have hl : 0 < l.length := List.length_pos_iff.2 hne
      rw [codes_step l hne, List.length_cons]
      have := codes_length n (l.drop (Lib.decodeL l).2) (by rw [List.length_drop]; omega)
      rw [List.length_drop] at this
      omega

theorem form_length {m : Int} (h0 : 0 ≤ m) (h3 : m ≤ 3) (l : List UInt8) : (form m (codes l)).length ≤ 216 * l.length := by
  rw [form_line h0 h3, ← inE_const]
  have h2 := codes_length l.length l (Nat.le_refl _)
  obtain ⟨i, hi, e⟩ : ∃ i, i < 3 ∧ stagesOf m = i + 1 := by
    rcases modes h0 h3 with rfl | rfl | rfl | rfl
    · exact ⟨0, by omega, rfl⟩
    · exact ⟨0, by omega, rfl⟩
    · exact ⟨1, by omega, rfl⟩
    · exact ⟨2, by omega, rfl⟩
  have h1 := slim_kindAt h0 h3 (fun _ => true) (codes l) i hi
  have h4 := out_length true (gotE (kindAt m) (fun _ => true) (codes l) i)
  rw [e, inE_succ]
  omega

theorem utf8_length (l : List Int) : (utf8 l).length ≤ 4 * l.length := by
  induction l with
  | nil => simp [utf8]
  | cons c r ih =>
    rw [utf8_cons, List.length_append, List.length_cons]
    have h1 : (Lib.encodeRune c).length ≤ 4 := by
      unfold Lib.encodeRune
      rw [List.length_map]
      exact (Lib.encodeRuneZ_length c).2
    omega

theorem byteCells_append (a b : List UInt8) : Lib.byteCells (a ++ b) = Lib.byteCells a ++ Lib.byteCells b := by simp [Lib.byteCells]


end Go.Proofs.YtmhaknejeobfgaaDoor

/- Key2. -/
namespace Go.Proofs.YtmhaknejeobfgaaDoor
open Go.RowKit Go.Proofs.YtmhaknejeobfgaaDoor.Stable Go.Proofs.YtmhaknejeobfgaaDoor.Order Go.Proofs.YtmhaknejeobfgaaDoor.Points
attribute [local go_sem ↓] Go.wp_at_zero Go.wp_at_succ


end Go.Proofs.YtmhaknejeobfgaaDoor

/- Hash1. -/
namespace Go.Proofs.YtmhaknejeobfgaaDoor
open Go.RowKit Go.Proofs.YtmhaknejeobfgaaDoor.Stable Go.Proofs.YtmhaknejeobfgaaDoor.Order Go.Proofs.YtmhaknejeobfgaaDoor.Points
attribute [local go_sem ↓] Go.wp_at_zero Go.wp_at_succ

/-- One byte more. -/
def hstep (h : Int) (b : UInt8) : Int := IntKind.u64.wrap (bits .xor .u64 h (IntKind.u64.wrap (b.toNat : Int)) * 1099511628211)

/-- The hash of bytes. -/
def hashL (l : List UInt8) : Int := l.foldl hstep 14695981039346656037

theorem hashL_take {s : ByteArray} {k : Nat} (h : k < s.size) : hashL (s.data.toList.take (k + 1)) = hstep (hashL (s.data.toList.take k)) s[k] := by
  have hl : k < s.data.toList.length := by rw [← Lib.size_eq]; exact h
  unfold hashL
  rw [List.take_add_one, List.getElem?_eq_getElem hl, Option.toList_some, List.foldl_append]
  rfl

theorem hashL_all (s : ByteArray) : hashL (s.data.toList.take s.size) = hashL s.data.toList := by rw [Lib.size_eq, List.take_length]

theorem encode_is {c : Int} (h : Valid c) : (Utf8.encode c).data.toList = Lib.encodeRune c := by
  obtain ⟨n, rfl⟩ : ∃ n : Nat, c = n := ⟨c.toNat, by unfold Valid at h; omega⟩
  have hv : Utf8.valid (n : Int) = true := by
    unfold Valid at h
    unfold Utf8.valid
    simp
    omega
  have hu : ∀ {z : Int} {k : Nat}, z = k → z.toNat.toUInt8 = UInt8.ofNat k := fun h => by subst h; simp
  unfold Valid at h
  unfold Lib.encodeRune
  by_cases h1 : n < 128
  · rw [Lib.encodeRuneZ_one (by omega) (by omega)]
    simp [Utf8.encode, hv, h1]
  · by_cases h2 : n < 2048
    · rw [Lib.encodeRuneZ_two (by omega) (by omega), List.map_cons, List.map_cons, List.map_nil, hu (k := 192 + n / 64) (by omega), hu (k := 128 + n % 64) (by omega)]
      simp [Utf8.encode, hv, h1, h2]
    · by_cases h3 : n < 65536
      · rw [Lib.encodeRuneZ_three (by omega), List.map_cons, List.map_cons, List.map_cons, List.map_nil, hu (k := 224 + n / 4096) (by omega), hu (k := 128 + n / 64 % 64) (by omega), hu (k := 128 + n % 64) (by omega)]
        simp [Utf8.encode, hv, h1, h2, h3]
      · rw [Lib.encodeRuneZ_four (by omega) (by omega), List.map_cons, List.map_cons, List.map_cons, List.map_cons, List.map_nil, hu (k := 240 + n / 262144) (by omega), hu (k := 128 + n / 4096 % 64) (by omega), hu (k := 128 + n / 64 % 64) (by omega), hu (k := 128 + n % 64) (by omega)]
        simp [Utf8.encode, hv, h1, h2, h3]

theorem bytesRow_cell {s : ByteArray} {cap k : Nat} (h : k < s.size) : (bytesRow s cap)[k]? = some (.int .u8 s[k].toNat) := by
  unfold bytesRow
  have hk : k < s.data.size := h
  rw [Array.getElem?_append_left (by simpa using hk)]
  rw [Array.getElem?_map, Array.getElem?_eq_getElem hk]
  rfl

/-- All that comes: code points, then the end, or a panic. -/
def Comes {σ : Type} (nxt : σ → Int × σ) (bad : σ → Option Value) (s : σ) : List Int → Option Value → Prop
  | [], none => bad s = none ∧ (nxt s).1 = -1
  | [], some v => bad s = some v
  | x :: xs, r => bad s = none ∧ Valid (nxt s).1 ∧ x = (nxt s).1 ∧ Comes nxt bad (nxt s).2 xs r

theorem Comes.stop {σ : Type} {nxt : σ → Int × σ} {bad : σ → Option Value} {s : σ} (h : bad s = none) (k : (nxt s).1 = -1) : Comes nxt bad s [] none := ⟨h, k⟩

theorem Comes.fail {σ : Type} {nxt : σ → Int × σ} {bad : σ → Option Value} {s : σ} {v : Value} (h : bad s = some v) : Comes nxt bad s [] (some v) := h

theorem Comes.step {σ : Type} {nxt : σ → Int × σ} {bad : σ → Option Value} {s : σ} {xs : List Int} {r : Option Value} (h : bad s = none) (hv : Valid (nxt s).1) (k : Comes nxt bad (nxt s).2 xs r) : Comes nxt bad s ((nxt s).1 :: xs) r := ⟨h, hv, rfl, k⟩

theorem Comes.inv {σ : Type} {nxt : σ → Int × σ} {bad : σ → Option Value} {s : σ} {xs : List Int} {r : Option Value} (h : Comes nxt bad s xs r) :
    (xs = [] ∧ r = none ∧ bad s = none ∧ (nxt s).1 = -1) ∨ (∃ v, xs = [] ∧ r = some v ∧ bad s = some v) ∨ ∃ ys, xs = (nxt s).1 :: ys ∧ bad s = none ∧ Valid (nxt s).1 ∧ Comes nxt bad (nxt s).2 ys r := by
  match xs, r, h with
  | [], none, h => exact .inl ⟨rfl, rfl, h.1, h.2⟩
  | [], some v, h => exact .inr (.inl ⟨v, rfl, rfl, h⟩)
  | x :: xs, r, h => exact .inr (.inr ⟨xs, by rw [h.2.2.1], h.1, h.2.1, h.2.2.2⟩)

/-- Where hashOf's loop stands: tk is in the hash, c has been fetched. -/
def HashAt {σ : Type} (Q : σ → World → (Nat → Prop) → Prop) (nxt : σ → Int × σ) (bad : σ → Option Value) (w wr : World) (T : Nat → Prop) (xs : List Int) (r : Option Value) (g : Nat) (h c : Int) : Prop :=
  ∃ tk, h = hashL (utf8 tk) ∧ Fr T w wr ∧ ((c = -1 ∧ xs = tk ∧ r = none ∧ g = 0) ∨ ∃ s rest T', Valid c ∧ xs = tk ++ c :: rest ∧ Comes nxt bad s rest r ∧ Q s wr T' ∧ (∀ x, T' x → T x ∨ w.heap.size ≤ x) ∧ g = rest.length + 1)

/-- How it ends. -/
def HashEnds (xs : List Int) (r : Option Value) (e : Ending) : Prop := match r with
  | none => e = .returned (.int .u64 (hashL (utf8 xs)))
  | some v => e = .panicked [{ v := v, recovered := false }]

theorem hashL_append (a b : List UInt8) : hashL (a ++ b) = b.foldl hstep (hashL a) := by unfold hashL; rw [List.foldl_append]

theorem key_size {m : Int} (h0 : 0 ≤ m) (h3 : m ≤ 3) (l : List UInt8) : (keyL m l).length ≤ 864 * l.length := by
  unfold keyL
  have h1 := utf8_length (form m (codes l))
  have h2 := form_length h0 h3 l
  omega

theorem whole_comes (F : List Int) (hv : ∀ c ∈ F, Valid c) : ∀ (r tk : List Int), F = tk ++ r → Comes (fun tk : List Int => match F.drop tk.length with
    | [] => ((-1 : Int), tk)
    | c :: _ => (c, tk ++ [c])) (fun _ => none) tk r none
  | [], tk, h => by
    have ed : F.drop tk.length = [] := by rw [h]; simp
    refine .stop rfl ?_
    rw [ed]
  | c :: r, tk, h => by
    have ed : F.drop tk.length = c :: r := by rw [h]; simp
    have hs := whole_comes F hv r (tk ++ [c]) (by rw [h]; simp)
    have e0 : (match F.drop tk.length with
      | [] => ((-1 : Int), tk)
      | c :: _ => (c, tk ++ [c])) = (c, tk ++ [c]) := by rw [ed]
    have := Comes.step (nxt := fun tk : List Int => match F.drop tk.length with
      | [] => ((-1 : Int), tk)
      | c :: _ => (c, tk ++ [c])) (bad := fun _ => none) (s := tk) (xs := r) (r := none) rfl (by rw [e0]; exact hv c (by rw [h]; simp)) (by rw [e0]; exact hs)
    rw [e0] at this
    exact this


end Go.Proofs.YtmhaknejeobfgaaDoor

/- Laws1. -/
namespace Go.Proofs.YtmhaknejeobfgaaDoor
open Go.RowKit Go.Proofs.YtmhaknejeobfgaaDoor.Stable Go.Proofs.YtmhaknejeobfgaaDoor.Order Go.Proofs.YtmhaknejeobfgaaDoor.Points
attribute [local go_sem ↓] Go.wp_at_zero Go.wp_at_succ

theorem known_0 : keyL 0 [226, 132, 171] = [65, 204, 138] := by decide +kernel
theorem known_1 : keyL 1 [226, 132, 171] = [65, 204, 138] := by decide +kernel
theorem known_2 : keyL 2 [226, 132, 171] = [97, 204, 138] := by decide +kernel
theorem known_3 : keyL 3 [226, 132, 171] = [97, 204, 138] := by decide +kernel

/-- A list of numbers that came in. -/
def NumsIn (w : World) (a : Option Addr) (n : Nat) : Prop := ∀ j, j < n → ∃ b off z, a = some ⟨b, off, none⟩ ∧ w.cell? ⟨b, off + j, none⟩ = some (.int .i64 z) ∧ -9223372036854775808 ≤ z ∧ z ≤ 9223372036854775807 ∧ b < w.heap.size

theorem NumsIn.kept {w w' : World} {a : Option Addr} {n : Nat} (h : NumsIn w a n) (f : Fr (fun _ => False) w w') : NumsIn w' a n := fun j hj => by
  obtain ⟨b, off, z, h1, h2, h3, h4, h5⟩ := h j hj
  exact ⟨b, off, z, h1, f.cell id h5 h2, h3, h4, by have := f.size; omega⟩

end Go.Proofs.YtmhaknejeobfgaaDoor
