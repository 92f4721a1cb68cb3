/- Plain lists: a text cut at all its places; a letter is always one. The law Joined, walked: it answers true. What the listed variables give at the call's first world, and a world that holds them. What the law Joined asks of its arguments, and what its walk gives. -/
import Derived.Test.YtmhaknejeobfgaaGreatDoorBase
import Derived.Lib.TrimAscii
import Derived.Test.YtmhaknejeobfgaaGreatDoorCutting
import Derived.Test.YtmhaknejeobfgaaGreatDoorKeys
import Derived.Laws.Concat
import Derived.Test.YtmhaknejeobfgaaGreatDoorTables
import Derived.Test.YtmhaknejeobfgaaGreatDoorShelf
import Derived.Test.YtmhaknejeobfgaaGreatDoorRows
import Derived.Deep.DeepHandedRow
import Derived.Deep.DeepWitnessRowRef
import Derived.Lib.LaidTab
import Derived.Lib.LaidU8
import Derived.ProofKit
import Derived.Deep.DeepLaidRun
import Derived.OpenShut

/- Joined0. -/
namespace Go.Proofs.YtmhaknejeobfgaaGreatDoor
open Go.RowKit Go.Proofs.YtmhaknejeobfgaaGreatDoor.Stable Go.Proofs.YtmhaknejeobfgaaGreatDoor.Order Go.Proofs.YtmhaknejeobfgaaGreatDoor.Points
open Go.Lib (decodeL decodeL_width)

theorem pts_app : ∀ (n o : Nat) (s v : List UInt8), s.length ≤ n → Begins v → pts o (s ++ v) = pts o s ++ pts (o + s.length) v
  | 0, o, s, v, hn, hv => by
    have : s = [] := List.eq_nil_of_length_eq_zero (by omega)
    subst this
    simp [pts_nil]
  | n + 1, o, s, v, hn, hv => by
    by_cases hne : s = []
    · subst hne
      simp [pts_nil]
    · have hw := decodeL_width s
      have hle := Lib.decodeL_le s hne
      have hl : 0 < s.length := List.length_pos_iff.2 hne
      rw [pts_step o (s ++ v) (by simp [hne]), pts_step o s hne, dec_cut s v hne hv, List.drop_append_of_le_length hle, List.cons_append, pts_app n _ _ v (by rw [List.length_drop]; omega) hv, List.length_drop]
      congr 3
      omega

/-- A place with a letter is a cut. -/
theorem letter_in {m : Int} (s t : List UInt8) (b : UInt8) (h0 : 65 ≤ b.toNat) (h1 : b.toNat ≤ 90) (hs : 0 < s.length) : s.length ∈ cutsOf m (s ++ b :: t) := by
  have hv : Begins (b :: t) := by
    unfold Begins
    simp
    omega
  have hd : decodeL (b :: t) = (b.toNat, 1) := Lib.decodeL_ascii b t (by omega)
  unfold cutsOf
  rw [pts_app s.length 0 s _ (Nat.le_refl _) hv, pts_step _ (b :: t) (by simp), hd]
  refine List.mem_map.2 ⟨(s.length, (b.toNat : Int)), List.mem_filter.2 ⟨by simp, ?_⟩, rfl⟩
  simp [letter_cut (m := m) (c := (b.toNat : Int)) (by omega) (by omega)]
  omega

theorem key_nil (m : Int) : keyL m [] = [] := by
  unfold keyL
  rw [codes_nil]
  have : ∀ ks : List Bool, ks.foldl (fun x k => stg k true x) [] = [] := by
    intro ks
    induction ks with
    | nil => rfl
    | cons k ks ih => exact ih
  unfold form
  rw [show stg (m == 1) false [] = [] from rfl, this]
  rfl

/-- So a letter parts a Key. -/
theorem key_letter {m : Int} (s t : List UInt8) (b : UInt8) (h0 : 65 ≤ b.toNat) (h1 : b.toNat ≤ 90) : keyL m (s ++ b :: t) = keyL m s ++ keyL m (b :: t) := by
  by_cases hs : 0 < s.length
  · have h := key_cut (letter_in (m := m) s t b h0 h1 hs)
    simpa using h
  · have : s = [] := List.eq_nil_of_length_eq_zero (by omega)
    subst this
    simp [key_nil]

/-- Where the part begins that ends at the i-th cut. -/
def fromOf (m : Int) (l : List UInt8) (i : Nat) : Nat := (0 :: cutsOf m l).getD i 0

def atOf (m : Int) (l : List UInt8) (i : Nat) : Nat := (cutsOf m l).getD i 0

theorem from_zero (m : Int) (l : List UInt8) : fromOf m l 0 = 0 := rfl
theorem from_succ (m : Int) (l : List UInt8) (i : Nat) : fromOf m l (i + 1) = atOf m l i := rfl

theorem at_mem {m : Int} {l : List UInt8} {i : Nat} (h : i < (cutsOf m l).length) : atOf m l i ∈ cutsOf m l := by
  unfold atOf
  rw [List.getD_eq_getElem?_getD, List.getElem?_eq_getElem h]
  exact List.getElem_mem h

theorem from_or {m : Int} {l : List UInt8} {i : Nat} (h : i ≤ (cutsOf m l).length) : fromOf m l i = 0 ∨ fromOf m l i ∈ cutsOf m l := by
  cases i with
  | zero => exact .inl rfl
  | succ i => exact .inr (at_mem h)

theorem from_lt {m : Int} {l : List UInt8} {i : Nat} (h : i < (cutsOf m l).length) : fromOf m l i < atOf m l i := by
  cases i with
  | zero => exact (cuts_mem (at_mem h)).1
  | succ i =>
    rw [from_succ]
    have := (List.pairwise_iff_getElem.1 (cuts_rise m l)) i (i + 1) (by omega) h (by omega)
    unfold atOf
    rw [List.getD_eq_getElem?_getD, List.getD_eq_getElem?_getD, List.getElem?_eq_getElem h, List.getElem?_eq_getElem (by omega)]
    exact this

theorem at_lt {m : Int} {l : List UInt8} {i : Nat} (h : i < (cutsOf m l).length) : atOf m l i < l.length := (cuts_mem (at_mem h)).2.1

/-- The key of the parts ahead, and the next part's. -/
theorem key_grow {m : Int} {l : List UInt8} {i : Nat} (h : i < (cutsOf m l).length) : keyL m (l.take (atOf m l i)) = keyL m (l.take (fromOf m l i)) ++ keyL m ((l.drop (fromOf m l i)).take (atOf m l i - fromOf m l i)) :=
  key_cut2 (from_or (Nat.le_of_lt h)) (at_mem h) (from_lt h)

theorem key_last {m : Int} {l : List UInt8} {i : Nat} (h : i ≤ (cutsOf m l).length) : keyL m l = keyL m (l.take (fromOf m l i)) ++ keyL m (l.drop (fromOf m l i)) := by
  rcases from_or h with e | e
  · rw [e]
    simp [key_nil]
  · exact key_cut e

/-- Has the place been met among the first i cuts? -/
def metOf (m : Int) (l : List UInt8) (n : Nat) (i : Nat) : Bool := n == 0 || ((cutsOf m l).take i).contains n

theorem met_zero (m : Int) (l : List UInt8) (n : Nat) : metOf m l n 0 = (n == 0) := by simp [metOf]

theorem met_succ {m : Int} {l : List UInt8} {n i : Nat} (h : i < (cutsOf m l).length) : metOf m l n (i + 1) = (metOf m l n i || (atOf m l i == n)) := by
  unfold metOf atOf
  rw [List.take_add_one, List.getElem?_eq_getElem h, List.getD_eq_getElem?_getD, List.getElem?_eq_getElem h]
  generalize (cutsOf m l).take i = q
  generalize (cutsOf m l)[i] = y
  rw [Bool.eq_iff_iff]
  simp only [List.contains_eq_mem, List.mem_append, Option.toList_some, List.mem_singleton, Bool.or_eq_true, decide_eq_true_eq, beq_iff_eq, Option.getD_some]
  constructor
  · rintro (h | h | h)
    · exact .inl (.inl h)
    · exact .inl (.inr h)
    · exact .inr h.symm
  · rintro ((h | h) | h)
    · exact .inl h
    · exact .inr (.inl h)
    · exact .inr (.inr h.symm)

theorem met_all {m : Int} (s t : List UInt8) (b : UInt8) (h0 : 65 ≤ b.toNat) (h1 : b.toNat ≤ 90) : metOf m (s ++ b :: t) s.length (cutsOf m (s ++ b :: t)).length = true := by
  unfold metOf
  rw [List.take_length]
  by_cases hs : 0 < s.length
  · have := letter_in (m := m) s t b h0 h1 hs
    simp [this]
  · have : s.length = 0 := by omega
    simp [this]

end Go.Proofs.YtmhaknejeobfgaaGreatDoor

/- Joined1. -/
namespace Go.Proofs.YtmhaknejeobfgaaGreatDoor
open Go.RowKit Go.Proofs.YtmhaknejeobfgaaGreatDoor.Stable Go.Proofs.YtmhaknejeobfgaaGreatDoor.Order Go.Proofs.YtmhaknejeobfgaaGreatDoor.Points
attribute [local go_sem ↓] Go.wp_at_zero Go.wp_at_succ

/-- Key, with its text named. -/
theorem key_is {m : Int} (X K : ByteArray) (w : World) (h0 : 0 ≤ m) (h3 : m ≤ 3) (hE : Env w) (hbd : X.data.toList.length ≤ 1048577) (hK : K.data.toList = keyL m X.data.toList) :
    Calls Tryz.prog 14 #[.int .i64 m, .string X] w fun e w' => e = .returned (.tuple #[.string K, .int .i64 0]) ∧ Fr (fun _ => False) w w' := by
  have h := key_calls m X w h0 h3 hE (by omega)
  rw [← hK] at h
  exact h

theorem add_is {a b c : ByteArray} (h : c.data.toList = a.data.toList ++ b.data.toList) (hs : c.data.toList.length ≤ 1099511627776) (w : World) : (Op.stringOp .add a b).run Tryz.prog w = .ok (.string c) w := by
  have e : a ++ b = c := by
    have e : (a ++ b).data = c.data := Array.toList_inj.1 (by rw [h]; simp)
    cases hab : a ++ b; cases c
    rw [hab] at e
    simp at e
    rw [e]
  rw [run_string_add_sum w a b ?_, e]
  rw [Lib.size_eq, Lib.size_eq]
  rw [h, List.length_append] at hs
  omega

theorem text_of (l : List UInt8) : ∃ a : ByteArray, a.data.toList = l := ⟨⟨l.toArray⟩, rfl⟩

/-- The texts that Joined speaks of. -/
structure Jn (m : Int) (s t cb sc whole ct x y k : ByteArray) (b : UInt8) : Prop where
  lo : 65 ≤ b.toNat
  hi : b.toNat ≤ 90
  sz : s.data.toList.length + t.data.toList.length ≤ 1048576
  cb : cb.data.toList = [b]
  sc : sc.data.toList = s.data.toList ++ [b]
  wh : whole.data.toList = s.data.toList ++ b :: t.data.toList
  ct : ct.data.toList = b :: t.data.toList
  x : x.data.toList = keyL m s.data.toList
  y : y.data.toList = keyL m (b :: t.data.toList)
  k : k.data.toList = keyL m (s.data.toList ++ b :: t.data.toList)

theorem jn_of (m : Int) (s t : ByteArray) (b : UInt8) (lo : 65 ≤ b.toNat) (hi : b.toNat ≤ 90) (sz : s.data.toList.length + t.data.toList.length ≤ 1048576) : ∃ cb sc whole ct x y k, Jn m s t cb sc whole ct x y k b := by
  obtain ⟨cb, h1⟩ := text_of [b]
  obtain ⟨sc, h2⟩ := text_of (s.data.toList ++ [b])
  obtain ⟨whole, h3⟩ := text_of (s.data.toList ++ b :: t.data.toList)
  obtain ⟨ct, h4⟩ := text_of (b :: t.data.toList)
  obtain ⟨x, h5⟩ := text_of (keyL m s.data.toList)
  obtain ⟨y, h6⟩ := text_of (keyL m (b :: t.data.toList))
  obtain ⟨k, h7⟩ := text_of (keyL m (s.data.toList ++ b :: t.data.toList))
  exact ⟨cb, sc, whole, ct, x, y, k, lo, hi, sz, h1, h2, h3, h4, h5, h6, h7⟩

theorem Jn.len {m : Int} {s t cb sc whole ct x y k : ByteArray} {b : UInt8} (h : Jn m s t cb sc whole ct x y k b) : whole.data.toList.length ≤ 1048577 ∧ whole.size = whole.data.toList.length := by
  refine ⟨?_, Lib.size_eq _⟩
  rw [h.wh, List.length_append, List.length_cons]
  have := h.sz
  omega

theorem Jn.a1 {m : Int} {s t cb sc whole ct x y k : ByteArray} {b : UInt8} (h : Jn m s t cb sc whole ct x y k b) (w : World) : (Op.stringOp .add s cb).run Tryz.prog w = .ok (.string sc) w := by
  refine add_is (by rw [h.sc, h.cb]) ?_ w
  rw [h.sc, List.length_append, List.length_singleton]
  have := h.sz
  omega

theorem Jn.a2 {m : Int} {s t cb sc whole ct x y k : ByteArray} {b : UInt8} (h : Jn m s t cb sc whole ct x y k b) (w : World) : (Op.stringOp .add sc t).run Tryz.prog w = .ok (.string whole) w := by
  refine add_is (by rw [h.wh, h.sc]; simp) ?_ w
  have := h.len
  omega

theorem Jn.a3 {m : Int} {s t cb sc whole ct x y k : ByteArray} {b : UInt8} (h : Jn m s t cb sc whole ct x y k b) (w : World) : (Op.stringOp .add cb t).run Tryz.prog w = .ok (.string ct) w := by
  refine add_is (by rw [h.ct, h.cb]; simp) ?_ w
  rw [h.ct, List.length_cons]
  have := h.sz
  omega

theorem Jn.key {m : Int} {s t cb sc whole ct x y k : ByteArray} {b : UInt8} (h : Jn m s t cb sc whole ct x y k b) (h0 : 0 ≤ m) (h3 : m ≤ 3) : k.data.toList = keyL m whole.data.toList ∧ k.data.toList.length ≤ 1099511627776 := by
  refine ⟨by rw [h.k, h.wh], ?_⟩
  have h1 := key_size h0 h3 whole.data.toList
  have h2 := h.len
  rw [h.k, ← h.wh]
  omega

theorem Jn.a4 {m : Int} {s t cb sc whole ct x y k : ByteArray} {b : UInt8} (h : Jn m s t cb sc whole ct x y k b) (h0 : 0 ≤ m) (h3 : m ≤ 3) (w : World) : (Op.stringOp .add x y).run Tryz.prog w = .ok (.string k) w :=
  add_is (by rw [h.k, h.x, h.y, key_letter _ _ _ h.lo h.hi]) (h.key h0 h3).2 w

/-- Where the loop stands. -/
structure JAt (m : Int) (whole : ByteArray) (n i f : Nat) (all : ByteArray) (th : Bool) : Prop where
  fr : f = fromOf m whole.data.toList i
  al : all.data.toList = keyL m (whole.data.toList.take f)
  th : th = metOf m whole.data.toList n i

/-- A round of it. -/
structure JStep (m : Int) (whole : ByteArray) (n i f : Nat) (all : ByteArray) (th : Bool) (at_ : Nat) (P Q R all2 k : ByteArray) : Prop where
  row : (rowOf (cutsOf m whole.data.toList))[i]? = some (.int .i64 at_)
  lt : f < at_
  lt2 : at_ < whole.data.toList.length
  kp : P.data.toList = keyL m (whole.extract f at_).data.toList
  kq : Q.data.toList = keyL m (whole.extract 0 at_).data.toList
  kr : R.data.toList = keyL m (whole.extract at_ whole.size).data.toList
  q : ∀ w : World, (Op.stringOp .add Q R).run Tryz.prog w = .ok (.string k) w
  all : ∀ w : World, (Op.stringOp .add all P).run Tryz.prog w = .ok (.string all2) w
  sp : (whole.extract f at_).data.toList.length ≤ 1048577
  sq : (whole.extract 0 at_).data.toList.length ≤ 1048577
  sr : (whole.extract at_ whole.size).data.toList.length ≤ 1048577
  nx : JAt m whole n (i + 1) at_ all2 (th || (at_ == n))

theorem take_key_size {m : Int} (h0 : 0 ≤ m) (h3 : m ≤ 3) {l : List UInt8} (h : l.length ≤ 1048577) : (keyL m l).length ≤ 1099511627776 := by
  have := key_size h0 h3 l
  omega

theorem JAt.next {m : Int} {whole : ByteArray} {n i f : Nat} {all : ByteArray} {th : Bool} (h : JAt m whole n i f all th) (hi : i < (cutsOf m whole.data.toList).length) (h0 : 0 ≤ m) (h3 : m ≤ 3) (hw : whole.data.toList.length ≤ 1048577) {k : ByteArray} (hk : k.data.toList = keyL m whole.data.toList) : ∃ at_ P Q R all2, JStep m whole n i f all th at_ P Q R all2 k := by
  obtain ⟨P, hP⟩ := text_of (keyL m (whole.extract f (atOf m whole.data.toList i)).data.toList)
  obtain ⟨Q, hQ⟩ := text_of (keyL m (whole.extract 0 (atOf m whole.data.toList i)).data.toList)
  obtain ⟨R, hR⟩ := text_of (keyL m (whole.extract (atOf m whole.data.toList i) whole.size).data.toList)
  obtain ⟨all2, hA⟩ := text_of (keyL m (whole.data.toList.take (atOf m whole.data.toList i)))
  have l1 := from_lt hi
  have l2 := at_lt hi
  have e0 : (whole.extract 0 (atOf m whole.data.toList i)).data.toList = whole.data.toList.take (atOf m whole.data.toList i) := by
    rw [Lib.extract_data]
    simp
  have e1 : (whole.extract (atOf m whole.data.toList i) whole.size).data.toList = whole.data.toList.drop (atOf m whole.data.toList i) := by
    rw [Lib.extract_data, List.take_of_length_le (by rw [List.length_drop, Lib.size_eq]; exact Nat.le_refl _)]
  have e2 : (whole.extract f (atOf m whole.data.toList i)).data.toList = (whole.data.toList.drop f).take (atOf m whole.data.toList i - f) := by
    rw [Lib.extract_data]
  refine ⟨atOf m whole.data.toList i, P, Q, R, all2, ?_, by rw [h.fr]; exact l1, l2, hP, hQ, hR, fun w => add_is ?_ ?_ w, fun w => add_is ?_ ?_ w, ?_, ?_, ?_, ⟨from_succ _ _ _, hA, ?_⟩⟩
  · unfold rowOf atOf
    rw [List.getElem?_map, List.getElem?_eq_getElem hi, List.getD_eq_getElem?_getD, List.getElem?_eq_getElem hi]
    rfl
  · rw [hk, hQ, hR, e0, e1]
    exact key_cut (at_mem hi)
  · rw [hk]
    exact take_key_size h0 h3 hw
  · rw [hA, h.al, hP, e2, h.fr]
    exact key_grow hi
  · rw [hA]
    exact take_key_size h0 h3 (by rw [List.length_take]; omega)
  · rw [e2, List.length_take, List.length_drop]
    omega
  · rw [e0, List.length_take]
    omega
  · rw [e1, List.length_drop]
    omega
  · rw [h.th, met_succ hi]

theorem cuts_length (m : Int) (l : List UInt8) : (cutsOf m l).length ≤ l.length := by
  unfold cutsOf
  rw [List.length_map]
  have h1 := List.length_filter_le (fun p : Nat × Int => decide (0 < p.1) && mayCut m p.2) (pts 0 l)
  have h2 := congrArg List.length (pts_codes l.length 0 l (Nat.le_refl _))
  have h3 := codes_length l.length l (Nat.le_refl _)
  rw [List.length_map] at h2
  omega

theorem letter_text {w : World} {cb : ByteArray} {b : UInt8} {r : Nat} (h : cb.data.toList = [b]) (hb : b.toNat = 65 + r) : (convert 55 9 (.slice (some ⟨w.heap.size, 0, none⟩) 1 1)).run Tryz.prog (w.alloc (.cells #[.int .u8 (65 + (r : Int))] 5)) = .ok (.string cb) (w.alloc (.cells #[.int .u8 (65 + (r : Int))] 5)) := by
  have hB : Buf (w.alloc (.cells #[.int .u8 (65 + (r : Int))] 5)) 0 (.slice (some ⟨w.heap.size, 0, none⟩) 1 1) [b] := by
    refine ⟨rfl, .inr ⟨w.heap.size, 1, _, rfl, Nat.zero_le _, heap_alloc_new w _, Nat.le_refl _, by unfold maxLen; omega, rfl, ?_⟩⟩
    simp [Lib.byteCells, hb]
  have e := hB.text
  rw [← h] at e
  exact e

set_option maxRecDepth 100000 in
set_option maxHeartbeats 3200000 in
theorem joined_walk (raw : Int) (s : ByteArray) (letter : Int) (t : ByteArray) (w : World) (h0 : -9223372036854775808 ≤ raw) (h1 : raw ≤ 9223372036854775807) (l0 : -9223372036854775808 ≤ letter) (l1 : letter ≤ 9223372036854775807) (hE : Env w) (hb : s.size + t.size ≤ 1048576) :
    Calls Tryz.prog 12 #[.int .i64 raw, .string s, .int .i64 letter, .string t] w fun e w' => e = .returned (.bool true) ∧ Fr (fun _ => False) w w' := by
  have HE : Hid (Env w) := hE
  have HB : Hid (s.data.toList.length + t.data.toList.length ≤ 1048576) := by rw [Lib.size_eq, Lib.size_eq] at hb; exact hb
  have hnot : ∀ (x : Bool) (w : World), (Op.unary .not (.bool x)).run Tryz.prog w = .ok (.bool (!x)) w := fun _ _ => rfl
  clear hE hb
  go_enter Tryz.func12, Tryz.ntmps12
  go_wp2_with fail
  refine (pick_calls raw 4 _ h0 h1 (by omega) (by omega)).mono ?_
  rintro e w' ⟨m, rfl, hm, hw⟩
  have hw' := hw.symm
  subst hw'
  clear hw
  have hm0 : (0 : Int) ≤ (m : Int) := by omega
  have hm3 : (m : Int) ≤ 3 := by omega
  go_wp2_with fail
  refine (known_calls m _ hm0 hm3 HE.out).mono ?_
  rintro e w1 ⟨rfl, hf1⟩
  have HF1 : Hid (Fr (fun _ => False) w w1) := hf1
  clear hf1
  go_wp2_with fail
  refine (pick_calls letter 26 _ l0 l1 (by omega) (by omega)).mono ?_
  rintro e w' ⟨r, rfl, hr, hw⟩
  have hw' := hw.symm
  subst hw'
  clear hw
  have r0 : (0 : Int) ≤ (r : Int) := by omega
  have r1 : (r : Int) ≤ 25 := by omega
  obtain ⟨b, hbb⟩ : ∃ b : UInt8, b.toNat = 65 + r := ⟨UInt8.ofNat (65 + r), by simp; omega⟩
  obtain ⟨cb, sc, whole, ct, x, y, k, hj⟩ := jn_of (m : Int) s t b (by omega) (by omega) HB.out
  have HJ : Hid (Jn (m : Int) s t cb sc whole ct x y k b ∧ b.toNat = 65 + r) := ⟨hj, hbb⟩
  clear hj hbb hr
  have hcv := letter_text (w := w1) HJ.out.1.cb HJ.out.2
  have ha1 := HJ.out.1.a1
  have ha2 := HJ.out.1.a2
  have ha3 := HJ.out.1.a3
  have ha4 := HJ.out.1.a4 hm0 hm3
  obtain ⟨W0, hW0⟩ : ∃ W0, W0 = w1.alloc (.cells #[.int .u8 (65 + (r : Int))] 5) := ⟨_, rfl⟩
  have HW0 : Hid (Fr (fun _ => False) w W0 ∧ W0 = w1.alloc (.cells #[.int .u8 (65 + (r : Int))] 5)) := ⟨hW0 ▸ HF1.out.alloc _, hW0⟩
  clear hW0
  go_wp2_with fail
  rw [← HW0.out.2]
  clear hcv
  refine (key_is (m := (m : Int)) whole k _ hm0 hm3 (HE.out.kept HW0.out.1 (fun _ _ => id)) HJ.out.1.len.1 (HJ.out.1.key hm0 hm3).1).mono ?_
  rintro e w2 ⟨rfl, hf2⟩
  have HF2 : Hid (Fr (fun _ => False) w w2) := HW0.out.1.trans hf2 (fun _ _ h => h)
  clear hf2
  go_wp2_with fail
  refine (key_is (m := (m : Int)) s x _ hm0 hm3 (HE.out.kept HF2.out (fun _ _ => id)) (by have := HB.out; omega) HJ.out.1.x).mono ?_
  rintro e w3 ⟨rfl, hf3⟩
  have HF3 : Hid (Fr (fun _ => False) w w3) := HF2.out.trans hf3 (fun _ _ h => h)
  clear hf3
  go_wp2_with fail
  refine (key_is (m := (m : Int)) ct y _ hm0 hm3 (HE.out.kept HF3.out (fun _ _ => id)) (by rw [HJ.out.1.ct, List.length_cons]; have := HB.out; omega) (by rw [HJ.out.1.y, HJ.out.1.ct])).mono ?_
  rintro e w4 ⟨rfl, hf4⟩
  have HF4 : Hid (Fr (fun _ => False) w w4) := HF3.out.trans hf4 (fun _ _ h => h)
  clear hf4
  go_wp2_with fail
  refine (cuts_calls (m : Int) whole _ hm0 hm3 (HE.out.kept HF4.out (fun _ _ => id)) (by have := HJ.out.1.len.1; omega)).mono ?_
  rintro e w5 ⟨a, cp, rfl, hrow, hf5⟩
  obtain ⟨n, hn⟩ : ∃ n, n = (cutsOf (m : Int) whole.data.toList).length := ⟨_, rfl⟩
  rw [← hn] at hrow ⊢
  have HR : Hid (w5.ownsRow w4.heap.size 3 1 (.slice a n cp) n (rowOf (cutsOf (m : Int) whole.data.toList)) ∧ n = (cutsOf (m : Int) whole.data.toList).length ∧ Fr (fun _ => False) w w5) := ⟨hrow, hn, HF4.out.trans hf5 (fun _ _ h => h)⟩
  have hn2 : (n : Int) ≤ 1048577 := by
    have h1 := cuts_length (m : Int) whole.data.toList
    have h2 := HJ.out.1.len.1
    omega
  clear hrow hn hf5
  go_wp2
  go_loopw [21, 22, 23, 24] (fun vf va vt vi wr => ∃ (i f : Nat) (all : ByteArray) (th : Bool), vi = .int .i64 i ∧ vf = .int .i64 f ∧ va = .string all ∧ vt = .bool th ∧ i ≤ n ∧ Hid (JAt (m : Int) whole s.data.toList.length i f all th ∧ Fr (fun _ => False) w5 wr)) (fun _ _ _ vi _ => n - (intOf vi).toNat)
  case atStart =>
    refine ⟨0, 0, ⟨#[]⟩, _, rfl, rfl, rfl, rfl, Nat.zero_le _, ⟨rfl, ?_, ?_⟩, Fr.refl _ _⟩
    · rw [List.take_zero, key_nil]
    · rw [met_zero, Lib.size_eq, Bool.eq_iff_iff, beq_iff_eq, beq_iff_eq]
      omega
  case round =>
    obtain ⟨i, f, all, th, rfl, rfl, rfl, rfl, hi, hh⟩ := hrel
    by_cases hlt : i < n
    · obtain ⟨at_, P, Q, R, all2, hst⟩ := JAt.next hh.out.1 (by rw [← HR.out.2.1]; exact hlt) hm0 hm3 HJ.out.1.len.1 (HJ.out.1.key hm0 hm3).1
      obtain ⟨g, rfl, hc⟩ := row_cell (row_kept HR.out.1 hh.out.2 (fun _ _ => id)) hlt hst.row
      have i0 : (0 : Int) ≤ (i : Int) := by omega
      have i1 : (i : Int) < (n : Int) := by omega
      have f0 : (0 : Int) ≤ (f : Int) := by omega
      have f1 : (f : Int) < (at_ : Int) := by have := hst.lt; omega
      have f2 : (at_ : Int) < (whole.size : Int) := by have := hst.lt2; rw [Lib.size_eq]; omega
      have hq := hst.q
      have ha := hst.all
      have HST : Hid (JStep (m : Int) whole s.data.toList.length i f all th at_ P Q R all2 k) := hst
      clear hst
      cases th with
      | true =>
        go_wp2_with fail
        refine (key_is (m := (m : Int)) (whole.extract f at_) P _ hm0 hm3 (HE.out.kept (HR.out.2.2.trans hh.out.2 (fun _ _ h => h)) (fun _ _ => id)) HST.out.sp HST.out.kp).mono ?_
        rintro e w6 ⟨rfl, hf6⟩
        have HF6 : Hid (Fr (fun _ => False) w5 w6) := hh.out.2.trans hf6 (fun _ _ h => h)
        clear hf6
        go_wp2_with fail
        refine (key_is (m := (m : Int)) (whole.extract 0 at_) Q _ hm0 hm3 (HE.out.kept (HR.out.2.2.trans HF6.out (fun _ _ h => h)) (fun _ _ => id)) HST.out.sq HST.out.kq).mono ?_
        rintro e w7 ⟨rfl, hf7⟩
        have HF7 : Hid (Fr (fun _ => False) w5 w7) := HF6.out.trans hf7 (fun _ _ h => h)
        clear hf7
        go_wp2_with fail
        refine (key_is (m := (m : Int)) (whole.extract at_ whole.size) R _ hm0 hm3 (HE.out.kept (HR.out.2.2.trans HF7.out (fun _ _ h => h)) (fun _ _ => id)) HST.out.sr HST.out.kr).mono ?_
        rintro e w8 ⟨rfl, hf8⟩
        have HF8 : Hid (Fr (fun _ => False) w5 w8) := HF7.out.trans hf8 (fun _ _ h => h)
        clear hf8
        go_wp2
        refine ⟨⟨i + 1, at_, all2, _, by go_num, rfl, rfl, rfl, by omega, ?_, HF8.out⟩, by simp [intOf]; omega⟩
        have h := HST.out.nx
        rw [← Lib.size_eq] at h
        rw [← Lib.size_eq]
        exact h
      | false =>
        go_wp2_with fail
        refine (key_is (m := (m : Int)) (whole.extract f at_) P _ hm0 hm3 (HE.out.kept (HR.out.2.2.trans hh.out.2 (fun _ _ h => h)) (fun _ _ => id)) HST.out.sp HST.out.kp).mono ?_
        rintro e w6 ⟨rfl, hf6⟩
        have HF6 : Hid (Fr (fun _ => False) w5 w6) := hh.out.2.trans hf6 (fun _ _ h => h)
        clear hf6
        go_wp2_with fail
        refine (key_is (m := (m : Int)) (whole.extract 0 at_) Q _ hm0 hm3 (HE.out.kept (HR.out.2.2.trans HF6.out (fun _ _ h => h)) (fun _ _ => id)) HST.out.sq HST.out.kq).mono ?_
        rintro e w7 ⟨rfl, hf7⟩
        have HF7 : Hid (Fr (fun _ => False) w5 w7) := HF6.out.trans hf7 (fun _ _ h => h)
        clear hf7
        go_wp2_with fail
        refine (key_is (m := (m : Int)) (whole.extract at_ whole.size) R _ hm0 hm3 (HE.out.kept (HR.out.2.2.trans HF7.out (fun _ _ h => h)) (fun _ _ => id)) HST.out.sr HST.out.kr).mono ?_
        rintro e w8 ⟨rfl, hf8⟩
        have HF8 : Hid (Fr (fun _ => False) w5 w8) := HF7.out.trans hf8 (fun _ _ h => h)
        clear hf8
        go_wp2
        refine ⟨⟨i + 1, at_, all2, _, by go_num, rfl, rfl, rfl, by omega, ?_, HF8.out⟩, by simp [intOf]; omega⟩
        have h := HST.out.nx
        rw [← Lib.size_eq] at h
        rw [← Lib.size_eq]
        have e : (((at_ : Int)) == (s.size : Int)) = (false || (at_ == s.size)) := by
          rw [Bool.false_or, Bool.eq_iff_iff, beq_iff_eq, beq_iff_eq]
          omega
        rw [e]
        exact h
    · obtain rfl : i = n := by omega
      have hJ := hh.out.1
      obtain ⟨P, hP⟩ := text_of (keyL (m : Int) (whole.extract f whole.size).data.toList)
      have hi2 : i ≤ (cutsOf (m : Int) whole.data.toList).length := by rw [← HR.out.2.1]; exact Nat.le_refl _
      have hfl : f ≤ whole.data.toList.length := by
        rw [hJ.fr]
        rcases from_or hi2 with e | e
        · rw [e]; exact Nat.zero_le _
        · exact Nat.le_of_lt (cuts_mem e).2.1
      have e1 : (whole.extract f whole.size).data.toList = whole.data.toList.drop f := by
        rw [Lib.extract_data, List.take_of_length_le (by rw [List.length_drop, Lib.size_eq]; exact Nat.le_refl _)]
      have hadd : ∀ w : World, (Op.stringOp .add all P).run Tryz.prog w = .ok (.string k) w := fun w => by
        refine add_is ?_ (HJ.out.1.key hm0 hm3).2 w
        rw [(HJ.out.1.key hm0 hm3).1, hP, e1, hJ.al, hJ.fr]
        exact key_last hi2
      have hth : th = true := by
        have h1 := hJ.th
        rw [HR.out.2.1, HJ.out.1.wh, met_all _ _ _ HJ.out.1.lo HJ.out.1.hi] at h1
        exact h1
      subst hth
      have f0 : (0 : Int) ≤ (f : Int) := by omega
      have f1 : (f : Int) ≤ (whole.size : Int) := by rw [Lib.size_eq]; omega
      have HP : Hid (P.data.toList = keyL (m : Int) (whole.extract f whole.size).data.toList ∧ (whole.extract f whole.size).data.toList.length ≤ 1048577) := ⟨hP, by rw [e1, List.length_drop]; have := HJ.out.1.len.1; omega⟩
      clear hJ hP hi2 hfl e1
      go_wp2_with fail
      refine (key_is (m := (m : Int)) (whole.extract f whole.size) P _ hm0 hm3 (HE.out.kept (HR.out.2.2.trans hh.out.2 (fun _ _ h => h)) (fun _ _ => id)) HP.out.2 HP.out.1).mono ?_
      rintro e w6 ⟨rfl, hf6⟩
      have HF6 : Hid (Fr (fun _ => False) w5 w6) := hh.out.2.trans hf6 (fun _ _ h => h)
      clear hf6
      go_wp2
      go_ret
      exact ⟨rfl, HR.out.2.2.trans HF6.out (fun _ _ h => h)⟩

end Go.Proofs.YtmhaknejeobfgaaGreatDoor

/- Frame. -/
namespace Go.Proofs.YtmhaknejeobfgaaGreatDoor
open Go.RowKit Go.ChangeShapes Go.WideShapes Go.ChangeAt

theorem own : ownKnob Tryz.prog.godebug = none := by kernel_rfl

theorem int_range {raw : Int} (h : (Lit.int .i64 raw).wf = true) : -9223372036854775808 ≤ raw ∧ raw ≤ 9223372036854775807 := by
  have h' : (decide (IntKind.i64.min ≤ raw) && decide (raw ≤ IntKind.i64.max)) = true := h
  rw [Bool.and_eq_true, decide_eq_true_eq, decide_eq_true_eq] at h'
  have e1 : IntKind.i64.min = -9223372036854775808 := by decide
  have e2 : IntKind.i64.max = 9223372036854775807 := by decide
  rw [e1, e2] at h'
  exact h'

/-- What the rows list. -/
def laidL : List (String × DataW Unit) := Rows.summedUptoRow.laid

theorem laid_first : ("unicode/utf8.first", Lib.firstData) ∈ laidL := by
  have : laidL[8]? = some ("unicode/utf8.first", Lib.firstData) := by kernel_rfl
  exact List.mem_of_getElem? this

theorem laid_accept : ("unicode/utf8.acceptRanges", Lib.acceptData) ∈ laidL := by
  have : laidL[3]? = some ("unicode/utf8.acceptRanges", Lib.acceptData) := by kernel_rfl
  exact List.mem_of_getElem? this

theorem laid_space : ("strings.asciiSpace", Lib.tabData .u8 Lib.asciiSpaceTab) ∈ laidL := by
  have : laidL[7]? = some ("strings.asciiSpace", Lib.tabData .u8 Lib.asciiSpaceTab) := by kernel_rfl
  exact List.mem_of_getElem? this

theorem gSpace : Tryz.prog.globalNamed "strings.asciiSpace" = some 2 := by kernel_rfl
theorem gSpaceType : (Tryz.prog.globals[2]?).map (·.type) = some 171 := by kernel_rfl
theorem cellsTab : Tryz.prog.cellsOf 171 = 256 := by kernel_rfl
theorem cellsByte : Tryz.prog.cellsOf 5 = 1 := by kernel_rfl

theorem tabIs_of_reads {P : Program} {W : World} {name : String} {k : IntKind} {zs : List Int} {g : Nat} {t e : TypeId} {n : Nat}
    (hg : P.globalNamed name = some g) (hty : (P.globals[g]?).map (·.type) = some t) (ht : P.underlying t = some (.array n e)) (he : P.underlying e = some (.int k)) (hce : P.cellsOf e = 1) (hct : P.cellsOf t = n)
    (h : Lib.VarReads P W name (Lib.tabData k zs)) : Lib.TabIs P W name k zs := by
  obtain ⟨g', t', cs, fuel, p, hg', ht', hvar, hd⟩ := h
  obtain rfl := Option.some.inj (hg.symm.trans hg')
  obtain rfl := Option.some.inj (hty.symm.trans ht')
  unfold Lib.TabIs
  rw [hvar, ← Lib.cells_of_tab ht he hce hct hd]

/-- WHAT THE LIST AND THE WORLD'S SHAPE GIVE: all that the walks ask of the globals. -/
theorem env_of {W : World} (hL : laidMetH Tryz.prog laidL W) (hsh : W.ShapedOpen Tryz.prog) : Env W := by
  have hM : laidMet Tryz.prog laidL W := hL
  refine ⟨?_, Tryz.laysM219.s1_3 W hsh, ?_, ?_⟩
  · obtain ⟨cs, h, _⟩ := hsh.1 10 #[.pointer none] 192 (by decide +kernel) (by kernel_rfl)
    exact lt_of h
  · exact tabIs_of_reads gSpace gSpaceType Tryz.underlying171 Tryz.underlying5 cellsByte cellsTab (Lib.laidMet.reads hM laid_space)
  · exact utf8Tabs_of_reads { Tryz.lays260 with } ⟨by kernel_rfl, by kernel_rfl, by kernel_rfl, by kernel_rfl, by kernel_rfl, by kernel_rfl, by kernel_rfl⟩ (Lib.laidMet.reads hM laid_first) (Lib.laidMet.reads hM laid_accept)

/-- The bytes of a listed text. -/
def laidBytes : DataW Unit → List UInt8
  | .iface _ (.ptr (.agg [.lit (.string l)])) => l
  | _ => []

def intsOf : DataW Unit → List Value
  | .agg l => l.map fun | .lit (.int k z) => .int k z | _ => .bool false
  | _ => []

/-- A WORLD FOR THE WITNESS: the settled one with four blocks more (the texts of two errors; a table's ranges; the table), the nine listed variables holding what their initialisers lay. -/
def laidWorld (P : Program) (os : Os) : World :=
  let N := (World.settled P os).heap.size
  let w0 := World.holding P os ⟨#[.cells #[.string ⟨(laidBytes Rows.laid_strconv_ErrRange).toArray⟩] 226, .cells #[.string ⟨(laidBytes Rows.laid_strconv_ErrSyntax).toArray⟩] 226,
    .cells (Lib.whiteT.map fun (z : Nat) => Value.int .u16 (z : Int)).toArray 206, .cells #[.slice (some ⟨N + 2, 0, none⟩) 7 7, .slice none 0 0, .int .i64 2] 203], #[], []⟩
  let put (h : Array Obj) (g : Nat) (cs : Array Value) : Array Obj := h.modify g fun
    | .cells _ t frozen => .cells cs t frozen
    | o => o
  let h1 := put w0.heap 2 (Lib.asciiSpaceTab.map fun z => Value.int .u8 z).toArray
  let h2 := put h1 0 (Lib.firstTab.map fun z => Value.int .u8 z).toArray
  let h3 := put h2 1 ((List.range 16).flatMap fun i => [Value.int .u8 (Lib.accLo i), Value.int .u8 (Lib.accHi i)]).toArray
  let h4 := put h3 3 #[.pointer (some ⟨N + 3, 0, none⟩)]
  let h5 := put h4 5 #[.iface 224 (.pointer (some ⟨N, 0, none⟩))]
  let h6 := put h5 4 #[.iface 224 (.pointer (some ⟨N + 1, 0, none⟩))]
  let h7 := put h6 8 (intsOf Rows.laid_math_bits_deBruijn32tab).toArray
  let h8 := put h7 9 (intsOf Rows.laid_math_bits_deBruijn64tab).toArray
  let h9 := put h8 7 (intsOf Rows.laid_internal_strconv_uint64pow10).toArray
  { w0 with heap := h9 }

theorem laid_met (os : Os) (args : Array Value) : laidMet Tryz.prog laidL ((laidWorld Tryz.prog os).forCall (fun _ _ => 0) ⟨#[], args, []⟩).memory :=
  laidMet_of_run3 8 (by kernel_rfl) (by kernel_rfl) (by kernel_rfl)

end Go.Proofs.YtmhaknejeobfgaaGreatDoor

/- ConJoined. -/
namespace Go.Proofs.YtmhaknejeobfgaaGreatDoor.joinedProof
open Go.ChangeShapes Go.WideShapes Go.ChangeAt Go.RowKit
open Go.ChangeMaps (open_string shut_string)

theorem bound {x0 : Int} {x1 : ByteArray} {x2 : Int} {x3 : ByteArray} {H : Type} (h : Rows.uptoSmall H [.lit (.int .i64 x0), .lit (.string x1.data.toList), .lit (.int .i64 x2), .lit (.string x3.data.toList)] = true) : x1.size ≤ 1048576 ∧ x3.size ≤ 1048576 ∧ x1.size + x3.size ≤ 1048576 := by
  have h := of_decide_eq_true h
  simp only [Rows.uptoBulkAll, Rows.uptoBulk] at h
  have s1 := Lib.size_eq x1
  have s3 := Lib.size_eq x3
  omega

set_option maxRecDepth 100000 in
theorem contract (H : Type) (enc : TypeId × Value → H) (F : Stop.Interp) (W : World) (base : Nat) (args : Array Value) (ds gs : List (DataW H)) (before : List MemPlace)
    (hval : ∀ (j : Nat) t v, Tryz.f12.params[j]? = some t → args[j]? = some v → Value.okWide Tryz.prog W .any base t v)
    (hW : DataW.Whole enc Tryz.prog Tryz.f12.params.toList (Rows.OpenSpec.upto Rows.joinedSpec).vars false W args.toList ds gs before)
    (hcond : ∀ k, (Rows.OpenSpec.upto Rows.joinedSpec).cond = some k → k H (ds ++ gs) = true) (hL : laidMetH Tryz.prog laidL W) (hsh : W.ShapedOpen Tryz.prog) :
    Calls Tryz.prog 12 args W fun e W' => ∃ v, e = .returned v ∧ ((Rows.OpenSpec.upto Rows.joinedSpec).at F).post enc Tryz.prog Tryz.f12 false true false false W args v W' := by
  have hW' := hW
  obtain ⟨p, q, hA0, hV0, rfl, _, _⟩ := hW
  have hA : DataW.TrodAll enc Tryz.prog W 0 (fun _ => true) true Tryz.f12.params.toList args.toList ds p := hA0
  rw [Tryz.params12] at hA hval
  obtain ⟨v0, vs0, d0, ds0, p0, q0, hargs, rfl, rfl, h0, t0⟩ := trodAll_cons hA
  obtain ⟨v1, vs1, d1, ds1, p1, q1, rfl, rfl, rfl, h1, t1⟩ := trodAll_cons t0
  obtain ⟨v2, vs2, d2, ds2, p2, q2, rfl, rfl, rfl, h2, t2⟩ := trodAll_cons t1
  obtain ⟨v3, vs3, d3, ds3, p3, q3, rfl, rfl, rfl, h3, t3⟩ := trodAll_cons t2
  obtain ⟨rfl, rfl, rfl⟩ := trodAll_nil t3
  obtain rfl : args = #[v0, v1, v2, v3] := by cases args; simp_all
  obtain ⟨rfl, rfl⟩ := trodVars_none hV0
  obtain ⟨x0, rfl, rfl, rfl, w0⟩ := open_int Tryz.underlying3 (hval 0 3 v0 rfl rfl) h0
  obtain ⟨x1, rfl, rfl, rfl, w1⟩ := open_string Tryz.underlying9 (hval 1 9 v1 rfl rfl) h1
  obtain ⟨x2, rfl, rfl, rfl, w2⟩ := open_int Tryz.underlying3 (hval 2 3 v2 rfl rfl) h2
  obtain ⟨x3, rfl, rfl, rfl, w3⟩ := open_string Tryz.underlying9 (hval 3 9 v3 rfl rfl) h3
  clear hA0
  simp only [List.append_nil] at hW' hcond
  have hk := hcond Rows.uptoSmall rfl
  have hb := bound hk
  have r0 := int_range w0
  have r2 := int_range w2
  refine (joined_walk x0 x1 x2 x3 W r0.1 r0.2 r2.1 r2.2 (env_of hL hsh) hb.2.2).mono ?_
  rintro e W' ⟨rfl, hf⟩
  have bel := hf.below
  refine ⟨_, rfl, [.lit (.int .i64 x0), .lit (.string x1.data.toList), .lit (.int .i64 x2), .lit (.string x3.data.toList)], [], [], [], [], [], hW', ?_, ?_, ?_, bel.frame _, fun h => by cases h⟩
  · exact trodAll_mk1 (shut_bool Tryz.underlying4 _)
  · exact (trodAll_cons_mk (shut_int Tryz.underlying3 w0) (trodAll_cons_mk (shut_string Tryz.underlying9 w1) (trodAll_cons_mk (shut_int Tryz.underlying3 w2) (trodAll_cons_mk (shut_string Tryz.underlying9 w3) trodAll_mk0))))
  · rfl

end Go.Proofs.YtmhaknejeobfgaaGreatDoor.joinedProof
