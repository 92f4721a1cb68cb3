/- What the listed variables give at the call's first world, and a world that holds them. Lists that came in: read by the walk, and read again behind it. The laws' twelve marks; how many marks wait, in plain lists. The law's twelve marks, walked. The law Waits, walked: it answers true. What the law Waits asks of its arguments, and what its walk gives. -/
import Derived.Test.YtmhaknejeobfgabGreatDoorTables
import Derived.Test.YtmhaknejeobfgabGreatDoorBase
import Derived.Test.YtmhaknejeobfgabGreatDoorShelf
import Derived.Test.YtmhaknejeobfgabGreatDoorRows
import Derived.Deep.DeepHandedRow
import Derived.Deep.DeepWitnessRowRef
import Derived.Lib.LaidTab
import Derived.Lib.LaidU8
import Derived.ProofKit
import Derived.Deep.DeepLaidRun
import Derived.Test.YtmhaknejeobfgabGreatDoorKeys
import Derived.OpenShut
import Derived.ChangeSlices
import Derived.Test.YtmhaknejeobfgabGreatDoorChPlain
import Derived.Handy
import Derived.Test.YtmhaknejeobfgabGreatDoorDigesting

/- Frame. -/
namespace Go.Proofs.YtmhaknejeobfgabGreatDoor
open Go.RowKit Go.ChangeShapes Go.WideShapes Go.ChangeAt

theorem own : ownKnob Tryz.prog.godebug = none := by kernel_rfl

theorem int_range {raw : Int} (h : (Lit.int .i64 raw).wf = true) : -9223372036854775808 ≤ raw ∧ raw ≤ 9223372036854775807 := by
  have h' : (decide (IntKind.i64.min ≤ raw) && decide (raw ≤ IntKind.i64.max)) = true := h
  rw [Bool.and_eq_true, decide_eq_true_eq, decide_eq_true_eq] at h'
  have e1 : IntKind.i64.min = -9223372036854775808 := by decide
  have e2 : IntKind.i64.max = 9223372036854775807 := by decide
  rw [e1, e2] at h'
  exact h'

/-- What the rows list. -/
def laidL : List (String × DataW Unit) := Rows.chunkedUptoRow.laid

theorem laid_first : ("unicode/utf8.first", Lib.firstData) ∈ laidL := by
  have : laidL[8]? = some ("unicode/utf8.first", Lib.firstData) := by kernel_rfl
  exact List.mem_of_getElem? this

theorem laid_accept : ("unicode/utf8.acceptRanges", Lib.acceptData) ∈ laidL := by
  have : laidL[3]? = some ("unicode/utf8.acceptRanges", Lib.acceptData) := by kernel_rfl
  exact List.mem_of_getElem? this

theorem laid_space : ("strings.asciiSpace", Lib.tabData .u8 Lib.asciiSpaceTab) ∈ laidL := by
  have : laidL[7]? = some ("strings.asciiSpace", Lib.tabData .u8 Lib.asciiSpaceTab) := by kernel_rfl
  exact List.mem_of_getElem? this

theorem gSpace : Tryz.prog.globalNamed "strings.asciiSpace" = some 2 := by kernel_rfl
theorem gSpaceType : (Tryz.prog.globals[2]?).map (·.type) = some 179 := by kernel_rfl
theorem cellsTab : Tryz.prog.cellsOf 179 = 256 := by kernel_rfl
theorem cellsByte : Tryz.prog.cellsOf 5 = 1 := by kernel_rfl

theorem tabIs_of_reads {P : Program} {W : World} {name : String} {k : IntKind} {zs : List Int} {g : Nat} {t e : TypeId} {n : Nat}
    (hg : P.globalNamed name = some g) (hty : (P.globals[g]?).map (·.type) = some t) (ht : P.underlying t = some (.array n e)) (he : P.underlying e = some (.int k)) (hce : P.cellsOf e = 1) (hct : P.cellsOf t = n)
    (h : Lib.VarReads P W name (Lib.tabData k zs)) : Lib.TabIs P W name k zs := by
  obtain ⟨g', t', cs, fuel, p, hg', ht', hvar, hd⟩ := h
  obtain rfl := Option.some.inj (hg.symm.trans hg')
  obtain rfl := Option.some.inj (hty.symm.trans ht')
  unfold Lib.TabIs
  rw [hvar, ← Lib.cells_of_tab ht he hce hct hd]

/-- WHAT THE LIST AND THE WORLD'S SHAPE GIVE: all that the walks ask of the globals. -/
theorem env_of {W : World} (hL : laidMetH Tryz.prog laidL W) (hsh : W.ShapedOpen Tryz.prog) : Env W := by
  have hM : laidMet Tryz.prog laidL W := hL
  refine ⟨?_, Tryz.laysM219.s1_3 W hsh, ?_, ?_⟩
  · obtain ⟨cs, h, _⟩ := hsh.1 10 #[.pointer none] 206 (by decide +kernel) (by kernel_rfl)
    exact lt_of h
  · exact tabIs_of_reads gSpace gSpaceType Tryz.underlying179 Tryz.underlying5 cellsByte cellsTab (Lib.laidMet.reads hM laid_space)
  · exact utf8Tabs_of_reads { Tryz.lays260 with } ⟨by kernel_rfl, by kernel_rfl, by kernel_rfl, by kernel_rfl, by kernel_rfl, by kernel_rfl, by kernel_rfl⟩ (Lib.laidMet.reads hM laid_first) (Lib.laidMet.reads hM laid_accept)

/-- The bytes of a listed text. -/
def laidBytes : DataW Unit → List UInt8
  | .iface _ (.ptr (.agg [.lit (.string l)])) => l
  | _ => []

def intsOf : DataW Unit → List Value
  | .agg l => l.map fun | .lit (.int k z) => .int k z | _ => .bool false
  | _ => []

/-- A WORLD FOR THE WITNESS: the settled one with four blocks more (the texts of two errors; a table's ranges; the table), the nine listed variables holding what their initialisers lay. -/
def laidWorld (P : Program) (os : Os) : World :=
  let N := (World.settled P os).heap.size
  let w0 := World.holding P os ⟨#[.cells #[.string ⟨(laidBytes Rows.laid_strconv_ErrRange).toArray⟩] 241, .cells #[.string ⟨(laidBytes Rows.laid_strconv_ErrSyntax).toArray⟩] 241,
    .cells (Lib.whiteT.map fun (z : Nat) => Value.int .u16 (z : Int)).toArray 220, .cells #[.slice (some ⟨N + 2, 0, none⟩) 7 7, .slice none 0 0, .int .i64 2] 217], #[], []⟩
  let put (h : Array Obj) (g : Nat) (cs : Array Value) : Array Obj := h.modify g fun
    | .cells _ t frozen => .cells cs t frozen
    | o => o
  let h1 := put w0.heap 2 (Lib.asciiSpaceTab.map fun z => Value.int .u8 z).toArray
  let h2 := put h1 0 (Lib.firstTab.map fun z => Value.int .u8 z).toArray
  let h3 := put h2 1 ((List.range 16).flatMap fun i => [Value.int .u8 (Lib.accLo i), Value.int .u8 (Lib.accHi i)]).toArray
  let h4 := put h3 3 #[.pointer (some ⟨N + 3, 0, none⟩)]
  let h5 := put h4 5 #[.iface 239 (.pointer (some ⟨N, 0, none⟩))]
  let h6 := put h5 4 #[.iface 239 (.pointer (some ⟨N + 1, 0, none⟩))]
  let h7 := put h6 8 (intsOf Rows.laid_math_bits_deBruijn32tab).toArray
  let h8 := put h7 9 (intsOf Rows.laid_math_bits_deBruijn64tab).toArray
  let h9 := put h8 7 (intsOf Rows.laid_internal_strconv_uint64pow10).toArray
  { w0 with heap := h9 }

theorem laid_met (os : Os) (args : Array Value) : laidMet Tryz.prog laidL ((laidWorld Tryz.prog os).forCall (fun _ _ => 0) ⟨#[], args, []⟩).memory :=
  laidMet_of_run3 8 (by kernel_rfl) (by kernel_rfl) (by kernel_rfl)

end Go.Proofs.YtmhaknejeobfgabGreatDoor

/- Args. -/
namespace Go.Proofs.YtmhaknejeobfgabGreatDoor
open Go.ChangeShapes Go.WideShapes Go.ChangeAt Go.RowKit
open Go.ChangeMaps (open_string shut_string)

theorem Tryz.cells_int : Tryz.prog.cellsOf 3 = 1 := by kernel_rfl

theorem lits_bulk {H : Type} : ∀ zs : List Int, Rows.uptoBulkAll (lits (H := H) .i64 zs) = zs.length
  | [] => by simp [lits, Rows.uptoBulkAll]
  | z :: zs => by
    have ih := lits_bulk (H := H) zs
    simp only [lits, List.map_cons, Rows.uptoBulkAll, Rows.uptoBulk, List.length_cons] at ih ⊢
    omega

theorem shut_nil_slice {H : Type} {enc : TypeId × Value → H} {P : Program} {w : World} {base : Nat} {spare : Nat → Bool} {held : Bool} {t e : TypeId} (ht : P.underlying t = some (.slice e)) : DataW.Trod enc P w base spare held t (.slice none 0 0) .nil [] :=
  ⟨1, by simp [DataW.trod, ht, Value.cells]⟩

set_option maxRecDepth 100000 in
/-- A list of numbers that came in: read by the walk, and read again behind it. -/
theorem nums_arg {H : Type} {enc : TypeId × Value → H} {W : World} {base : Nat} {v : Value} {d : DataW H} {p : List MemPlace} (hok : Value.okWide Tryz.prog W .any base 31 v) (h : DataW.Trod enc Tryz.prog W 0 (fun _ => true) true 31 v d p) :
    ∃ a n cp, v = .slice a n cp ∧ NumsIn W a n ∧ n + 1 ≤ Rows.uptoBulk d ∧ ∀ W', Fr (fun _ => False) W W' → DataW.Trod enc Tryz.prog W' 0 (fun b => decide (b < W.heap.size)) true 31 v d p := by
  obtain ⟨a0, len, cap, rfl⟩ := okWide_slice Tryz.underlying31 hok
  obtain ⟨fuel, hf⟩ := h
  rcases open_ints Tryz.underlying31 Tryz.underlying3 Tryz.cells_int hf with ⟨hcs, hx⟩ | ⟨a, len', cap', zs, hcs, hb, hl, hm, hz, hx, hcell, hwz⟩
  · simp [Value.cells] at hcs
    obtain ⟨rfl, rfl, rfl⟩ := hcs
    simp only [Prod.mk.injEq] at hx
    obtain ⟨rfl, rfl⟩ := hx
    refine ⟨none, 0, 0, rfl, fun j hj => by omega, ?_, fun W' _ => ?_⟩
    · simp [Rows.uptoBulk]
    · exact shut_nil_slice Tryz.underlying31
  · simp [Value.cells] at hcs
    obtain ⟨rfl, rfl, rfl⟩ := hcs
    simp only [Prod.mk.injEq] at hx
    obtain ⟨rfl, rfl⟩ := hx
    simp only [if_true] at hz
    have hin : ∀ j, j < zs.length → a = ⟨a.block, a.off, none⟩ ∧ W.cell? ⟨a.block, a.off + j, none⟩ = some (.int .i64 (zs.getD j 0)) ∧ a.block < W.heap.size := by
      intro j hj
      obtain ⟨b, off, spot⟩ := a
      have hspot : spot = none := by simpa [Addr.add] using World.cell?_spot (hcell 0 (by omega))
      subst hspot
      have hc := hcell j hj
      rw [add_plain] at hc
      exact ⟨rfl, hc, World.block_lt_of_cell? _ ⟨b, off + j, none⟩ hc⟩
    refine ⟨some a, len, cap, rfl, fun j hj => ?_, ?_, fun W' f => ?_⟩
    · obtain ⟨h1, h2, h3⟩ := hin j (by omega)
      have hr := int_range (hwz (zs.getD j 0) (by
        have : zs.getD j 0 = zs[j]'(by omega) := by simp [List.getD, show j < zs.length by omega]
        rw [this]
        exact List.getElem_mem _))
      exact ⟨a.block, a.off, zs.getD j 0, congrArg some h1, h2, hr.1, hr.2, h3⟩
    · simp only [Rows.uptoBulk, lits_bulk, List.length_take]
      omega
    · refine ⟨0 + 2, shut_ints 0 Tryz.underlying31 Tryz.underlying3 Tryz.cells_int (Nat.zero_le _) hl hm ?_ (fun j hj => ?_) hwz⟩
      · by_cases hc : 0 < zs.length
        · rw [if_pos (by simpa using (hin 0 hc).2.2)]
          exact hz
        · have : zs.length = 0 := by omega
          split <;> omega
      · obtain ⟨h1, h2, h3⟩ := hin j hj
        rw [h1, add_plain]
        exact f.cell id h3 h2

end Go.Proofs.YtmhaknejeobfgabGreatDoor

/- Mark0. -/
namespace Go.Proofs.YtmhaknejeobfgabGreatDoor
open Go.Proofs.YtmhaknejeobfgabGreatDoor.Stable Go.Proofs.YtmhaknejeobfgabGreatDoor.Order Go.Proofs.YtmhaknejeobfgabGreatDoor.Points Go.Lib

/-- A mark: its bytes, its class, its code point. -/
structure Mk where
  text : List UInt8
  cls : Int
  cp : Int

def markL : List Mk := [⟨[204, 128], 230, 768⟩, ⟨[204, 129], 230, 769⟩, ⟨[204, 163], 220, 803⟩, ⟨[204, 167], 202, 807⟩, ⟨[204, 184], 1, 824⟩, ⟨[205, 132], 230, 836⟩, ⟨[205, 133], 240, 837⟩, ⟨[214, 180], 14, 1460⟩, ⟨[224, 189, 177], 129, 3953⟩, ⟨[224, 189, 178], 130, 3954⟩, ⟨[227, 130, 153], 8, 12441⟩, ⟨[240, 157, 133, 165], 216, 119141⟩]

def Mk.ok (p : Mk) : Bool := decide (p.text = encodeRune p.cp) && isValid p.cp && decide (clsOf p.cp = p.cls) && decide (p.cls ≠ 0) && decide (p.text.length ≤ 4)

theorem markL_ok : markL.all Mk.ok = true := by decide +kernel

theorem valid_of {c : Int} (h : isValid c = true) : Valid c := by
  unfold isValid at h
  unfold Valid
  simpa using h

theorem Mk.facts {p : Mk} (h : p ∈ markL) : p.text = encodeRune p.cp ∧ Valid p.cp ∧ clsOf p.cp = p.cls ∧ p.cls ≠ 0 ∧ p.text.length ≤ 4 := by
  have h := List.all_eq_true.1 markL_ok p h
  unfold Mk.ok at h
  simp only [Bool.and_eq_true, decide_eq_true_eq] at h
  obtain ⟨⟨⟨⟨h1, h2⟩, h3⟩, h4⟩, h5⟩ := h
  exact ⟨h1, valid_of h2, h3, h4, h5⟩

/-- How many marks there are. -/
def cnt (L : List Int) : Nat := (L.filter (fun c => decide (clsOf c ≠ 0))).length

theorem cnt_nil : cnt [] = 0 := rfl

theorem cnt_mark {c : Int} {l : List Int} (h : clsOf c ≠ 0) : cnt (c :: l) = cnt l + 1 := by
  unfold cnt
  rw [List.filter_cons_of_pos (by simpa using h), List.length_cons]

theorem cnt_letter {c : Int} {l : List Int} (h : clsOf c = 0) : cnt (c :: l) = cnt l := by
  unfold cnt
  rw [List.filter_cons_of_neg (by simpa using h)]

theorem cnt_append (a b : List Int) : cnt (a ++ b) = cnt a + cnt b := by
  unfold cnt
  rw [List.filter_append, List.length_append]

theorem cnt_split (l : List Int) : cnt l + (l.filter (fun c => decide (clsOf c = 0))).length = l.length := by
  induction l with
  | nil => rfl
  | cons c r ih =>
    by_cases h : clsOf c = 0
    · rw [cnt_letter h, List.filter_cons_of_pos (by simpa using h), List.length_cons, List.length_cons]; omega
    · rw [cnt_mark h, List.filter_cons_of_neg (by simpa using h), List.length_cons]; omega

theorem cnt_ord (l : List Int) : cnt (ord clsOf l) = cnt l := by
  have hs := (sw_ord clsOf l).same
  have h1 := hs.length
  have h2 := hs 0
  have a := cnt_split l
  have b := cnt_split (ord clsOf l)
  have h3 : (ord clsOf l).filter (fun c => decide (clsOf c = 0)) = l.filter (fun c => decide (clsOf c = 0)) := h2
  rw [h3] at b
  omega

theorem heldF_le : ∀ (l : List Int) (mo : Nat) (ms : List Int), heldF mo ms l ≤ max mo (ms.length + cnt l)
  | [], mo, ms => by rw [heldF]; omega
  | c :: l, mo, ms => by
    rw [heldF]
    split
    · next h =>
      have := heldF_le l mo []
      rw [cnt_letter h]
      simp at this
      omega
    · next h =>
      have := heldF_le l (max mo (ms.length + 1)) (ms ++ [c])
      rw [cnt_mark h]
      rw [List.length_append, List.length_singleton] at this
      omega

theorem heldOf_le (l : List Int) : heldOf l ≤ cnt l := by
  have := heldF_le l 0 []
  simp at this
  unfold heldOf
  omega

theorem heldF_marks : ∀ (l : List Int) (mo : Nat) (ms : List Int), (∀ c ∈ l, clsOf c ≠ 0) → ms.length ≤ mo → heldF mo ms l = max mo (ms.length + l.length)
  | [], mo, ms, _, h => by rw [heldF, List.length_nil]; omega
  | c :: l, mo, ms, h, hm => by
    rw [heldF, if_neg (h c (by simp)), heldF_marks l _ _ (fun x hx => h x (by simp [hx])) (by rw [List.length_append, List.length_singleton]; omega), List.length_append, List.length_singleton, List.length_cons]
    omega

theorem heldF_mono : ∀ (l : List Int) (mo : Nat) (ms : List Int), mo ≤ heldF mo ms l
  | [], mo, ms => by rw [heldF]; exact Nat.le_refl _
  | c :: l, mo, ms => by
    rw [heldF]
    split
    · exact heldF_mono l mo []
    · have := heldF_mono l (max mo (ms.length + 1)) (ms ++ [c])
      omega

/-- A letter, marks, a letter: all marks wait. -/
theorem held_exact {ms : List Int} (h : ∀ c ∈ ms, clsOf c ≠ 0) (ho : clsOf 111 = 0) : heldOf (111 :: (ms ++ [111])) = ms.length := by
  unfold heldOf
  rw [heldF, if_pos ho, heldF_append, heldF_marks ms 0 [] h (Nat.le_refl _), heldF, if_pos ho, heldF]
  simp

/-- The marks but U+0344, the letter, and what they become. -/
def ring : List Int := [111, 768, 769, 803, 807, 824, 837, 1460, 3953, 3954, 12441, 119141, 953]

def ringOk (c : Int) : Bool := [true, false].all fun k => [true, false].all fun f => (pieces k f c).all (fun x => ring.contains x) && decide (cnt (pieces k f c) ≤ cnt [c]) && (f || decide (pieces k f c = [c]))

theorem ring_ok : ring.all ringOk = true := by decide +kernel

theorem ring_pieces {c : Int} (k f : Bool) (h : c ∈ ring) : (∀ x ∈ pieces k f c, x ∈ ring) ∧ cnt (pieces k f c) ≤ cnt [c] ∧ (f = false → pieces k f c = [c]) := by
  have h1 := List.all_eq_true.1 ring_ok c h
  unfold ringOk at h1
  have h2 := List.all_eq_true.1 h1 k (by cases k <;> simp)
  have h3 := List.all_eq_true.1 h2 f (by cases f <;> simp)
  simp only [Bool.and_eq_true, decide_eq_true_eq, Bool.or_eq_true, List.all_eq_true, List.contains_iff_mem] at h3
  refine ⟨h3.1.1, h3.1.2, fun hf => ?_⟩
  rcases h3.2 with h4 | h4
  · rw [hf] at h4; cases h4
  · exact h4

theorem ring_flat (k f : Bool) : ∀ l : List Int, (∀ c ∈ l, c ∈ ring) → (∀ x ∈ l.flatMap (pieces k f), x ∈ ring) ∧ cnt (l.flatMap (pieces k f)) ≤ cnt l
  | [], _ => ⟨fun x hx => (by cases hx), Nat.le_refl _⟩
  | c :: l, h => by
    obtain ⟨h1, h2⟩ := ring_flat k f l (fun x hx => h x (by simp [hx]))
    obtain ⟨h3, h4, _⟩ := ring_pieces k f (h c (by simp))
    rw [List.flatMap_cons, cnt_append]
    refine ⟨fun x hx => ?_, ?_⟩
    · rcases List.mem_append.1 hx with hx | hx
      · exact h3 x hx
      · exact h1 x hx
    · have e : cnt (c :: l) = cnt [c] + cnt l := by rw [← cnt_append]; rfl
      omega

theorem ring_same (k : Bool) : ∀ l : List Int, (∀ c ∈ l, c ∈ ring) → l.flatMap (pieces k false) = l
  | [], _ => rfl
  | c :: l, h => by rw [List.flatMap_cons, ring_same k l (fun x hx => h x (by simp [hx])), (ring_pieces k false (h c (by simp))).2.2 rfl]; rfl

theorem ring_in (ks : Nat → Bool × Bool) {h : List Int} (hr : ∀ c ∈ h, c ∈ ring) : ∀ i, (∀ c ∈ inE ks (fun _ => true) h i, c ∈ ring) ∧ cnt (inE ks (fun _ => true) h i) ≤ cnt h
  | 0 => ⟨hr, Nat.le_refl _⟩
  | i + 1 => by
    obtain ⟨h1, h2⟩ := ring_in ks hr i
    obtain ⟨h3, h4⟩ := ring_flat (ks i).1 (ks i).2 _ h1
    rw [inE_succ]
    unfold outOf gotE
    rw [if_pos rfl, cnt_ord]
    exact ⟨fun c hc => h3 c (ord_mem.1 hc), by omega⟩

theorem ring_most (ks : Nat → Bool × Bool) {h : List Int} (hr : ∀ c ∈ h, c ∈ ring) : ∀ n, mostOf ks true h n ≤ cnt h
  | 0 => Nat.zero_le _
  | n + 1 => by
    rw [mostOf]
    have h1 := ring_most ks hr n
    obtain ⟨h2, h3⟩ := ring_in ks hr n
    obtain ⟨_, h4⟩ := ring_flat (ks n).1 (ks n).2 _ h2
    have h5 := heldOf_le (gotE ks (fun _ => true) h n)
    unfold gotE at h5 ⊢
    omega

theorem most_first (ks : Nat → Bool × Bool) (h : List Int) : ∀ n, heldOf (gotE ks (fun _ => true) h 0) ≤ mostOf ks true h (n + 1)
  | 0 => by rw [mostOf]; omega
  | n + 1 => by
    have := most_first ks h n
    rw [mostOf]
    omega

theorem letter_111 : clsOf 111 = 0 := by decide +kernel

theorem cnt_marks : ∀ ms : List Int, (∀ c ∈ ms, clsOf c ≠ 0) → cnt ms = ms.length
  | [], _ => rfl
  | c :: r, h => by rw [cnt_mark (h c (by simp)), cnt_marks r (fun x hx => h x (by simp [hx])), List.length_cons]

/-- A letter, marks, a letter: in each mode all marks wait at one time, and no more. -/
theorem most_exact {m : Int} {ms : List Int} (hm : ∀ c ∈ ms, c ∈ ring ∧ clsOf c ≠ 0) : mostOf (kindAt m) true (111 :: (ms ++ [111])) (stagesOf m) = ms.length := by
  have hr : ∀ c ∈ 111 :: (ms ++ [111]), c ∈ ring := fun c hc => by
    rcases List.mem_cons.1 hc with rfl | hc
    · decide
    · rcases List.mem_append.1 hc with hc | hc
      · exact (hm c hc).1
      · rw [List.mem_singleton.1 hc]; decide
  obtain ⟨n, hn⟩ : ∃ n, stagesOf m = n + 1 := by
    unfold stagesOf
    split
    · exact ⟨1, rfl⟩
    · split
      · exact ⟨2, rfl⟩
      · exact ⟨0, rfl⟩
  rw [hn]
  have h1 := ring_most (kindAt m) hr (n + 1)
  have h2 := most_first (kindAt m) (111 :: (ms ++ [111])) n
  have e1 : gotE (kindAt m) (fun _ => true) (111 :: (ms ++ [111])) 0 = 111 :: (ms ++ [111]) := ring_same (m == 1) _ hr
  have e2 : cnt (111 :: (ms ++ [111])) = ms.length := by
    rw [cnt_letter letter_111, cnt_append, cnt_marks ms (fun c hc => (hm c hc).2), cnt_letter letter_111, cnt_nil, Nat.add_zero]
  rw [e1, held_exact (fun c hc => (hm c hc).2) letter_111] at h2
  omega

/-- Of the laws' marks: all but U+0344. -/
theorem Mk.ring {p : Mk} (h : p ∈ markL) (hne : p.text ≠ [205, 132]) : p.cp ∈ ring := by
  have : markL.all (fun p => decide (p.text = [205, 132]) || Go.Proofs.YtmhaknejeobfgabGreatDoor.ring.contains p.cp) = true := by decide +kernel
  have h1 := List.all_eq_true.1 this p h
  simp only [Bool.or_eq_true, decide_eq_true_eq, List.contains_iff_mem] at h1
  rcases h1 with h1 | h1
  · exact absurd h1 hne
  · exact h1

/-- Two that compare as the same were read to their ends. -/
theorem Runs.held {m : Int} {A B : List Chk} {ka : Nat} {ea : Bool} {kb : Nat} {eb : Bool} {t : Nat} {G : Cmp} (h : Runs m A B ka ea kb eb t G) (oa : OkAt A ka ea) (ob : OkAt B kb eb) (he : G.err = 0) (hs : G.sign = 0) : G.ha = heldAt m A A.length true ∧ G.hb = heldAt m B B.length true := by
  induction h using Runs.ind with
  | step h _ ih => exact ih (fetch_ok oa h.1) (fetch_ok ob h.2.1) he hs
  | @stop ka ea kb eb t h =>
    have hl := (Runs.stop h).le oa ob he
    rw [last_calm hl.2.2.1 hl.2.2.2] at hs ⊢
    have hcd : (fetchP m A t ka ea).c = (fetchP m B t kb eb).c := by
      have h1 : signOf (fetchP m A t ka ea).c (fetchP m B t kb eb).c = 0 := hs
      unfold signOf at h1
      split at h1
      · cases h1
      · split at h1
        · cases h1
        · omega
    have hc : (fetchP m A t ka ea).c = -1 := by
      by_cases hc : (fetchP m A t ka ea).c = -1
      · exact hc
      · exact absurd ⟨hl.2.2.1, hl.2.2.2, hcd, hc⟩ h
    have fin : ∀ {L : List Chk} {k : Nat} {e : Bool}, OkAt L k e → (fetchP m L t k e).err = 0 → (fetchP m L t k e).c = -1 → (fetchP m L t k e).e = true ∧ (fetchP m L t k e).k = L.length := by
      intro L k e o h1 h2
      rcases (fetch_is' (m := m) (t := t) o).give with ⟨_, a2, _, _, _, a6⟩ | ⟨a1, _⟩
      · rcases a6 with a6 | ⟨a6, _, _⟩
        · obtain ⟨r, hr⟩ := rel_prefix m L a2
          have hv := full_valid m L _ (List.mem_of_getElem? (at_prefix hr a6))
          rw [h2] at hv
          unfold Valid at hv
          omega
        · exact ⟨a6, a2.2 a6⟩
      · exact absurd h1 a1
    obtain ⟨x1, x2⟩ := fin oa hl.2.2.1 hc
    obtain ⟨y1, y2⟩ := fin ob hl.2.2.2 (by rw [← hcd]; exact hc)
    dsimp only
    rw [x1, x2, y1, y2]
    exact ⟨rfl, rfl⟩

theorem strm_held {m : Int} {A B : List Chk} (hr : (fullOf m A).length ≤ roomOf A) (he : (strm m A B).err = 0) (hs : (strm m A B).sign = 0) : (strm m A B).ha = heldAt m A A.length true ∧ (strm m A B).hb = heldAt m B B.length true :=
  (strm_runs hr).held ⟨Nat.zero_le _, fun h => by cases h⟩ ⟨Nat.zero_le _, fun h => by cases h⟩ he hs

/-- A source that holds a letter, marks, a letter. -/
theorem held_text {m : Int} {L : List Chk} {ms : List Int} (hm : ∀ c ∈ ms, c ∈ ring ∧ clsOf c ≠ 0 ∧ Valid c) (hb : bytesOf L = utf8 (111 :: (ms ++ [111]))) : heldAt m L L.length true = ms.length := by
  unfold heldAt goneIn
  have hv : ∀ c ∈ 111 :: (ms ++ [111]), Valid c := fun c hc => by
    rcases List.mem_cons.1 hc with rfl | hc
    · unfold Valid; omega
    · rcases List.mem_append.1 hc with hc | hc
      · exact (hm c hc).2.2
      · rw [List.mem_singleton.1 hc]; unfold Valid; omega
  rw [if_pos rfl, List.take_length, hb, codes_of_utf8 _ hv]
  exact most_exact (fun c hc => ⟨(hm c hc).1, (hm c hc).2.1⟩)

end Go.Proofs.YtmhaknejeobfgabGreatDoor

/- Mark1. -/
namespace Go.Proofs.YtmhaknejeobfgabGreatDoor
open Go.RowKit Go.Proofs.YtmhaknejeobfgabGreatDoor.Stable Go.Proofs.YtmhaknejeobfgabGreatDoor.Order Go.Proofs.YtmhaknejeobfgabGreatDoor.Points
attribute [local go_sem ↓] Go.wp_at_zero Go.wp_at_succ

/-- A list of marks as cells. -/
def markCells (L : List Mk) : List Value := L.flatMap fun p => [.string ⟨p.text.toArray⟩, .int .i64 p.cls]

theorem mark_at : ∀ (L : List Mk) (r : Nat) (p : Mk), L[r]? = some p → (markCells L)[r * 2]? = some (.string ⟨p.text.toArray⟩) ∧ (markCells L)[r * 2 + 1]? = some (.int .i64 p.cls)
  | [], r, p, h => by simp at h
  | q :: L, 0, p, h => by
    simp at h
    subst h
    exact ⟨rfl, rfl⟩
  | q :: L, r + 1, p, h => by
    have h' : L[r]? = some p := by simpa using h
    have ih := mark_at L r p h'
    have e : markCells (q :: L) = .string ⟨q.text.toArray⟩ :: .int .i64 q.cls :: markCells L := rfl
    rw [e, show (r + 1) * 2 = r * 2 + 1 + 1 by omega, show r * 2 + 1 + 1 + 1 = (r * 2 + 1) + 1 + 1 by omega]
    simp only [List.getElem?_cons_succ]
    exact ih

/-- The result's cells and the list of marks, in new memory. -/
structure MarkW (w w' : World) (r : Nat) (p : Mk) : Prop where
  mem : p ∈ markL
  c0 : w'.cell? ⟨w.heap.size + 1, r * 2, none⟩ = some (.string ⟨p.text.toArray⟩)
  c1 : w'.cell? ⟨w.heap.size + 1, r * 2 + 1, none⟩ = some (.int .i64 p.cls)
  res : w'.heap[w.heap.size]? = some (.cells #[.string ⟨#[]⟩, .int .i64 0] 44 (0, 0))
  fr : Fr (fun x => x = w.heap.size) w w'

theorem mark_facts {w w' : World} {cs : Array Value} {r : Nat} (hw : w' = (w.alloc (.cells #[.string ⟨#[]⟩, .int .i64 0] 44)).alloc (.cells cs 44)) (hc : cs.toList = markCells markL) (hr : r < markL.length) : ∃ p, MarkW w w' r p := by
  obtain ⟨p, hp⟩ : ∃ p, markL[r]? = some p := ⟨_, List.getElem?_eq_getElem hr⟩
  obtain ⟨k0, k1⟩ := mark_at markL r p hp
  obtain ⟨A, hA⟩ : ∃ A, A = w.alloc (.cells #[.string ⟨#[]⟩, .int .i64 0] 44) := ⟨_, rfl⟩
  rw [← hA] at hw
  have sA : A.heap.size = w.heap.size + 1 := by rw [hA]; simp
  have rA : A.heap[w.heap.size]? = some (.cells #[.string ⟨#[]⟩, .int .i64 0] 44 (0, 0)) := by rw [hA]; exact heap_alloc_new w _
  have rB : w'.heap[w.heap.size + 1]? = some (.cells cs 44 (0, 0)) := by rw [hw, ← sA]; exact heap_alloc_new A _
  have fA : Fr (fun x => x = w.heap.size) w A := by rw [hA]; exact (Fr.refl _ _).alloc _
  have fB : Fr (fun _ => False) A w' := by rw [hw]; exact (Fr.refl _ _).alloc _
  refine ⟨p, List.mem_of_getElem? hp, cell_of rB ?_, cell_of rB ?_, (fB.block _ (by omega) id).trans rA, fA.trans fB (fun _ _ h => h.elim)⟩
  · rw [← Array.getElem?_toList, hc]; exact k0
  · rw [← Array.getElem?_toList, hc]; exact k1

set_option maxRecDepth 100000 in
set_option maxHeartbeats 1600000 in
theorem markOf_calls (n : Int) (w : World) (h0 : -9223372036854775808 ≤ n) (h1 : n ≤ 9223372036854775807) :
    Calls Tryz.prog 18 #[.int .i64 n] w fun e w' => ∃ p, p ∈ markL ∧ e = .returned (.agg #[.string ⟨p.text.toArray⟩, .int .i64 p.cls]) ∧ Fr (fun _ => False) w w' := by
  go_enter Tryz.func18, Tryz.ntmps18
  go_wp2_with (go_at_call 12; refine (pick_calls n 12 _ h0 h1 (by omega) (by omega)).mono ?_; rintro e w' ⟨r, rfl, hr, hw⟩; obtain ⟨p, hp⟩ := mark_facts hw (by kernel_rfl) hr; clear hw; have i0 : (0 : Int) ≤ (r : Int) := (by omega); have i1 : (r : Int) < 12 := (by omega); have c0 := hp.c0; have c1 := hp.c1; have d0 : w'.cell? ⟨w.heap.size, 0, none⟩ = some (.string ⟨#[]⟩) := cell_of hp.res rfl; have d1 : w'.cell? ⟨w.heap.size, 1, none⟩ = some (.int .i64 0) := cell_of hp.res rfl; have f0 := frozen_of hp.res 0; have f1 := frozen_of hp.res 1; have HP : Hid (MarkW w w' r p) := hp; clear hp)
  go_wp2
  have rb := HP.out.res
  have e0 : (w'.setCell ⟨w.heap.size, 0, none⟩ (.string ⟨p.text.toArray⟩)).cell? ⟨w.heap.size, 0, none⟩ = some (.string ⟨p.text.toArray⟩) := cell_of (set_of rb 0 _) (by simp)
  have e1 : ((w'.setCell ⟨w.heap.size, 0, none⟩ (.string ⟨p.text.toArray⟩)).setCell ⟨w.heap.size, 1, none⟩ (.int .i64 p.cls)).cell? ⟨w.heap.size, 1, none⟩ = some (.int .i64 p.cls) := cell_of (set_of (set_of rb 0 _) 1 _) (by simp)
  try simp only [Exit.inBlock, Exit.then]
  refine bodyPost_ret (by simp [results, Tryz.results18, go_sem, e0, e1]; try rfl) rfl ?_
  exact ⟨p, HP.out.mem, rfl, ((HP.out.fr.setCell _ _ (fun _ => rfl)).setCell _ _ (fun _ => rfl)).mono (fun i hi h => by omega)⟩

end Go.Proofs.YtmhaknejeobfgabGreatDoor

/- Waits1. -/
namespace Go.Proofs.YtmhaknejeobfgabGreatDoor
open Go.RowKit Go.Proofs.YtmhaknejeobfgabGreatDoor.Stable Go.Proofs.YtmhaknejeobfgabGreatDoor.Order Go.Proofs.YtmhaknejeobfgabGreatDoor.Points
attribute [local go_sem ↓] Go.wp_at_zero Go.wp_at_succ

theorem add_any (a b : ByteArray) (h : a.data.toList.length + b.data.toList.length ≤ 1099511627776) : ∃ c : ByteArray, c.data.toList = a.data.toList ++ b.data.toList ∧ ∀ w : World, (Op.stringOp .add a b).run Tryz.prog w = .ok (.string c) w :=
  ⟨a ++ b, by simp, fun w => run_string_add_sum w a b (by rw [Lib.size_eq, Lib.size_eq]; omega)⟩

theorem sign_same : ∀ l : List Int, signL l l = 0
  | [] => rfl
  | c :: r => by
    unfold signL
    rw [if_neg (by omega), if_neg (by omega)]
    exact sign_same r

/-- What the loop has put together: a letter, and marks. -/
structure Put (t : ByteArray) (ms : List Int) (i n : Nat) : Prop where
  text : t.data.toList = utf8 (111 :: ms)
  len : ms.length = n
  size : t.data.toList.length ≤ 1 + 4 * i
  ok : ∀ c ∈ ms, c ∈ ring ∧ clsOf c ≠ 0 ∧ Valid c
  le : n ≤ i

theorem put_start : Put ⟨#[111]⟩ [] 0 0 := ⟨by decide +kernel, rfl, by decide, fun c hc => (by cases hc), Nat.le_refl _⟩

theorem Put.skip {t : ByteArray} {ms : List Int} {i n : Nat} (h : Put t ms i n) : Put t ms (i + 1) n := ⟨h.text, h.len, by have := h.size; omega, h.ok, by have := h.le; omega⟩

theorem Put.more {t t' : ByteArray} {ms : List Int} {i n : Nat} {p : Mk} (h : Put t ms i n) (hp : p ∈ markL) (hne : p.text ≠ [205, 132]) (ht : t'.data.toList = t.data.toList ++ p.text) : Put t' (ms ++ [p.cp]) (i + 1) (n + 1) := by
  obtain ⟨h1, h2, h3, h4, h5⟩ := Mk.facts hp
  refine ⟨?_, by rw [List.length_append, h.len]; rfl, ?_, fun c hc => ?_, by have := h.le; omega⟩
  · rw [ht, h.text, h1, ← List.cons_append, utf8_append]
    congr 1
    simp [utf8]
  · rw [ht, List.length_append]
    have := h.size
    omega
  · rcases List.mem_append.1 hc with hc | hc
    · exact h.ok c hc
    · rw [List.mem_singleton.1 hc]
      exact ⟨Mk.ring hp hne, by rw [h3]; exact h4, h2⟩

theorem Put.all {t t' : ByteArray} {ms : List Int} {i n : Nat} (h : Put t ms i n) (ht : t'.data.toList = t.data.toList ++ [111]) : t'.data.toList = utf8 (111 :: (ms ++ [111])) := by
  rw [ht, h.text, ← List.cons_append, utf8_append]
  congr 1

set_option maxRecDepth 100000 in
set_option maxHeartbeats 3200000 in
theorem waits_walk (a0 : Option Addr) (n0 p0 : Nat) (a1 : Option Addr) (n1 p1 : Nat) (a2 : Option Addr) (n2 p2 : Nat) (w : World) (hE : Env w) (hn0 : NumsIn w a0 n0) (hn1 : NumsIn w a1 n1) (hn2 : NumsIn w a2 n2) (hb : n0 + n1 + n2 ≤ 1048576) :
    Calls Tryz.prog 5 #[.slice a0 n0 p0, .slice a1 n1 p1, .slice a2 n2 p2] w fun e w' => e = .returned (.bool true) ∧ Fr (fun _ => False) w w' := by
  have HE : Hid (Env w) := hE
  have HB : Hid (n0 + n1 + n2 ≤ 1048576) := hb
  have HNS : Hid (NumsIn w a0 n0 ∧ NumsIn w a1 n1 ∧ NumsIn w a2 n2) := ⟨hn0, hn1, hn2⟩
  have hnot : ∀ (x : Bool) (w : World), (Op.unary .not (.bool x)).run Tryz.prog w = .ok (.bool (!x)) w := fun _ _ => rfl
  have b0 : (n0 : Int) ≤ 1048576 := by omega
  clear hE hb hn0 hn1 hn2
  go_enter Tryz.func5, Tryz.ntmps5
  go_wp2
  go_loopw [7, 8, 9] (fun vs vn vi wr => ∃ (t : ByteArray) (ms : List Int) (i n : Nat), vs = .string t ∧ vn = .int .i64 n ∧ vi = .int .i64 i ∧ i ≤ n0 ∧ n ≤ i ∧ Hid (Put t ms i n ∧ Fr (fun _ => False) w wr)) (fun _ _ vi _ => n0 - (intOf vi).toNat)
  case atStart => exact ⟨⟨#[111]⟩, [], 0, 0, rfl, rfl, rfl, Nat.zero_le _, Nat.le_refl _, put_start, Fr.refl _ _⟩
  case round =>
    obtain ⟨t, ms, i, n, rfl, rfl, rfl, hi, hni, hh⟩ := hrel
    by_cases hlt : i < n0
    · obtain ⟨bb, off, z, rfl, hc, z0, z1, _⟩ := HNS.out.1.kept hh.out.2 i hlt
      have i0 : (0 : Int) ≤ (i : Int) := by omega
      have i1 : (i : Int) < (n0 : Int) := by omega
      go_wp2_with fail
      refine (markOf_calls z _ z0 z1).mono ?_
      rintro e w3 ⟨r, hr, rfl, hf3⟩
      obtain ⟨cr, hcr⟩ : ∃ cr : ByteArray, cr = ⟨r.text.toArray⟩ := ⟨_, rfl⟩
      rw [← hcr]
      obtain ⟨kr, hkr⟩ : ∃ kr, kr = r.cls := ⟨_, rfl⟩
      rw [← hkr]
      have HR : Hid (r ∈ markL ∧ cr.data.toList = r.text ∧ Fr (fun _ => False) w w3) := ⟨hr, by rw [hcr], hh.out.2.trans hf3 (fun _ _ h => h)⟩
      have hrl : cr.data.toList.length ≤ 4 := (by rw [hcr]; exact (Mk.facts hr).2.2.2.2)
      obtain ⟨t2, ht2, hadd⟩ := add_any t cr (by have := HB.out; have := hh.out.1.size; omega)
      have HT2 : Hid (t2.data.toList = t.data.toList ++ cr.data.toList) := ht2
      clear hf3 hcr hkr hr hrl ht2
      by_cases hq : cr.toList = [205, 132]
      · have hq' : (cr.toList == [205, 132]) = true := by rw [beq_iff_eq]; exact hq
        clear hq
        go_wp2
        exact ⟨⟨t, ms, i + 1, n, rfl, rfl, by go_num, by omega, by omega, hh.out.1.skip, HR.out.2.2.alloc _⟩, by simp [intOf]; omega⟩
      · have hq' : (cr.toList == [205, 132]) = false := by rw [beq_eq_false_iff_ne]; exact hq
        have HQ : Hid (r.text ≠ [205, 132]) := by rw [← HR.out.2.1, ← Lib.toList_data]; exact hq
        clear hq
        go_wp2
        exact ⟨⟨t2, ms ++ [r.cp], i + 1, n + 1, rfl, by go_num, by go_num, by omega, by omega, hh.out.1.more HR.out.1 HQ.out (by rw [HT2.out, HR.out.2.1]), HR.out.2.2.alloc _⟩, by simp [intOf]; omega⟩
    · obtain rfl : i = n0 := by omega
      obtain ⟨t3, ht3, hadd⟩ := add_any t ⟨#[111]⟩ (by have := HB.out; have := hh.out.1.size; have e : (⟨#[111]⟩ : ByteArray).data.toList.length = 1 := rfl; omega)
      have HT3 : Hid (t3.data.toList = utf8 (111 :: (ms ++ [111])) ∧ t3.data.toList.length ≤ 2 + 4 * i) := ⟨hh.out.1.all ht3, by rw [ht3, List.length_append]; have := hh.out.1.size; have e : (⟨#[111]⟩ : ByteArray).data.toList.length = 1 := rfl; omega⟩
      have HMS : Hid (ms.length = n ∧ ∀ c ∈ ms, c ∈ ring ∧ clsOf c ≠ 0 ∧ Valid c) := ⟨hh.out.1.len, hh.out.1.ok⟩
      have HV : Hid (Fr (fun _ => False) w wr) := hh.out.2
      obtain ⟨V, rfl⟩ : ∃ V, V = wr := ⟨_, rfl⟩
      clear hh ht3 hi hlt
      go_wp2
      go_loopw [11] (fun vi wr => ∃ k : Nat, vi = .int .i64 k ∧ k ≤ 4 ∧ Hid (Fr (fun _ => False) w wr)) (fun vi _ => 4 - (intOf vi).toNat)
      case atStart => exact ⟨0, rfl, by omega, HV.out⟩
      case round =>
        obtain ⟨m, rfl, hm, hfr⟩ := hrel
        by_cases hlt : m < 4
        · have m0 : (0 : Int) ≤ (m : Int) := by omega
          have m3 : (m : Int) ≤ 3 := by omega
          have m4 : (m : Int) < 4 := by omega
          go_wp2_with fail
          refine (known_calls m _ m0 m3 (HE.out.kept hfr.out (fun _ _ => id))).mono ?_
          rintro e v1 ⟨rfl, g1⟩
          have G1 : Hid (Fr (fun _ => False) w v1) := hfr.out.trans g1 (fun _ _ h => h)
          clear g1
          go_wp2_with fail
          refine (chunked_calls t3 a1 n1 p1 v1 (by have := HT3.out.2; have := HB.out; omega) (HNS.out.2.1.kept G1.out) (by have := HB.out; omega)).mono ?_
          rintro e v2 ⟨la, lc, LA, rfl, c1, c2, c3, c4⟩
          have G2 : Hid (Fr (fun _ => False) w v2) := G1.out.trans c4 (fun _ _ h => h)
          have HLA : Hid (ChunksIn v2 v2.heap.size la LA ∧ bytesOf LA = t3.data.toList ∧ Calm LA) := ⟨c1, c2, c3⟩
          clear c1 c2 c3 c4
          obtain ⟨nA, hnA⟩ : ∃ nA, nA = LA.length := ⟨_, rfl⟩
          rw [← hnA]
          have HNA : Hid (nA = LA.length) := hnA
          clear hnA
          go_wp2_with fail
          refine (chunked_calls t3 a2 n2 p2 v2 (by have := HT3.out.2; have := HB.out; omega) (HNS.out.2.2.kept G2.out) (by have := HB.out; omega)).mono ?_
          rintro e v3 ⟨lb, ld, LB, rfl, c1, c2, c3, c4⟩
          have G3 : Hid (Fr (fun _ => False) w v3) := G2.out.trans c4 (fun _ _ h => h)
          have HLA3 : Hid (ChunksIn v3 v3.heap.size la LA ∧ bytesOf LA = t3.data.toList ∧ Calm LA) := ⟨(HLA.out.1.kept c4 (fun _ _ => id)).mono c4.size, HLA.out.2⟩
          have HLB : Hid (ChunksIn v3 v3.heap.size lb LB ∧ bytesOf LB = t3.data.toList ∧ Calm LB) := ⟨c1, c2, c3⟩
          clear c1 c2 c3 c4 HLA
          obtain ⟨nB, hnB⟩ : ∃ nB, nB = LB.length := ⟨_, rfl⟩
          rw [← hnB]
          have HNB : Hid (nB = LB.length) := hnB
          clear hnB
          go_wp2_with fail
          have hst := stream_calls m la lb lc ld LA LB v3 m0 m3 (HE.out.kept G3.out (fun _ _ => id)) HLA3.out.1 HLB.out.1 (by have := HLA3.out.2.2.1; omega) (by have := HLB.out.2.2.1; omega) (by rw [HLA3.out.2.1]; have := HT3.out.2; have := HB.out; omega) (by rw [HLB.out.2.1]; have := HT3.out.2; have := HB.out; omega)
          rw [← HNA.out, ← HNB.out] at hst
          have hroom : (fullOf (m : Int) LA).length ≤ roomOf LA := rel_length m0 m3 LA LA.length true
          have hcalm : CalmCmp m LA LB (strm m LA LB) := strm_calm HLA3.out.2.2.faults HLB.out.2.2.faults hroom
          have hsg : (strm m LA LB).sign = 0 := by
            rw [hcalm.2.1, full_form m0 m3, full_form m0 m3, HLA3.out.2.1, HLB.out.2.1]
            exact sign_same _
          have hheld := strm_held hroom hcalm.1 hsg
          rw [held_text HMS.out.2 (by rw [HLA3.out.2.1, HT3.out.1]), held_text HMS.out.2 (by rw [HLB.out.2.1, HT3.out.1]), HMS.out.1] at hheld
          rw [hsg, hheld.1, hheld.2, hcalm.1] at hst
          generalize (strm m LA LB).ra = ra at hst
          generalize (strm m LA LB).rb = rb at hst
          refine hst.mono ?_
          clear hst hcalm hsg hheld hroom
          rintro e v4 ⟨rfl, g4⟩
          have G4 : Hid (Fr (fun _ => False) w v4) := G3.out.trans g4 (fun _ _ h => h)
          clear g4 HLA3 HLB HNA HNB G1 G2 G3 hlt
          go_wp2
          exact ⟨⟨m + 1, by go_num, by omega, G4.out.alloc _⟩, by simp [intOf]; omega⟩
        · obtain rfl : m = 4 := by omega
          go_wp2
          go_ret
          exact ⟨rfl, hfr.out⟩

end Go.Proofs.YtmhaknejeobfgabGreatDoor

/- ConWaits. -/
namespace Go.Proofs.YtmhaknejeobfgabGreatDoor.waitsProof
open Go.ChangeShapes Go.WideShapes Go.ChangeAt Go.RowKit
open Go.ChangeMaps (open_string shut_string)

set_option maxRecDepth 100000 in
theorem contract (H : Type) (enc : TypeId × Value → H) (F : Stop.Interp) (W : World) (base : Nat) (args : Array Value) (ds gs : List (DataW H)) (before : List MemPlace)
    (hval : ∀ (j : Nat) t v, Tryz.f5.params[j]? = some t → args[j]? = some v → Value.okWide Tryz.prog W .any base t v)
    (hW : DataW.Whole enc Tryz.prog Tryz.f5.params.toList (Rows.OpenSpec.upto Rows.waitsSpec).vars false W args.toList ds gs before)
    (hcond : ∀ k, (Rows.OpenSpec.upto Rows.waitsSpec).cond = some k → k H (ds ++ gs) = true) (hL : laidMetH Tryz.prog laidL W) (hsh : W.ShapedOpen Tryz.prog) :
    Calls Tryz.prog 5 args W fun e W' => ∃ v, e = .returned v ∧ ((Rows.OpenSpec.upto Rows.waitsSpec).at F).post enc Tryz.prog Tryz.f5 false true false false W args v W' := by
  have hW' := hW
  obtain ⟨p, q, hA0, hV0, rfl, _, _⟩ := hW
  have hA : DataW.TrodAll enc Tryz.prog W 0 (fun _ => true) true Tryz.f5.params.toList args.toList ds p := hA0
  rw [Tryz.params5] at hA hval
  obtain ⟨v0, vs0, d0, ds0, p0, q0, hargs, rfl, rfl, h0, t0⟩ := trodAll_cons hA
  obtain ⟨v1, vs1, d1, ds1, p1, q1, rfl, rfl, rfl, h1, t1⟩ := trodAll_cons t0
  obtain ⟨v2, vs2, d2, ds2, p2, q2, rfl, rfl, rfl, h2, t2⟩ := trodAll_cons t1
  obtain ⟨rfl, rfl, rfl⟩ := trodAll_nil t2
  obtain rfl : args = #[v0, v1, v2] := by cases args; simp_all
  obtain ⟨rfl, rfl⟩ := trodVars_none hV0
  obtain ⟨a0, n0, c0, rfl, i0, u0, s0⟩ := nums_arg (hval 0 31 v0 rfl rfl) h0
  obtain ⟨a1, n1, c1, rfl, i1, u1, s1⟩ := nums_arg (hval 1 31 v1 rfl rfl) h1
  obtain ⟨a2, n2, c2, rfl, i2, u2, s2⟩ := nums_arg (hval 2 31 v2 rfl rfl) h2
  clear hA0
  simp only [List.append_nil] at hW' hcond
  have hk := hcond Rows.uptoSmall rfl
  have hb : n0 + n1 + n2 ≤ 1048576 := by
    have h := of_decide_eq_true hk
    simp only [Rows.uptoBulkAll] at h
    omega
  refine (waits_walk a0 n0 c0 a1 n1 c1 a2 n2 c2 W (env_of hL hsh) i0 i1 i2 (by omega)).mono ?_
  rintro e W' ⟨rfl, hf⟩
  have bel := hf.below
  refine ⟨_, rfl, [d0, d1, d2], [], _, [], (p0 ++ (p1 ++ (p2 ++ []))), [], hW', ?_, ?_, ?_, bel.frame _, fun h => by cases h⟩
  · exact trodAll_mk1 (shut_bool Tryz.underlying4 _)
  · exact (trodAll_cons_mk (s0 W' hf) (trodAll_cons_mk (s1 W' hf) (trodAll_cons_mk (s2 W' hf) trodAll_mk0)))
  · rfl

end Go.Proofs.YtmhaknejeobfgabGreatDoor.waitsProof
