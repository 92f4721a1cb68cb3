/- What the listed variables give at the call's first world, and a world that holds them. Lists that came in: read by the walk, and read again behind it. Lists of chunks that came in: read by the walk, and read again behind it. The document's answer: the sum of a source, walked; the law Digests, walked: it answers true. What the law Digests asks of its arguments, and what its walk gives. -/
import Derived.Test.YtmhaknejeobfgabGreatDoorTables
import Derived.Test.YtmhaknejeobfgabGreatDoorBase
import Derived.Test.YtmhaknejeobfgabGreatDoorShelf
import Derived.Test.YtmhaknejeobfgabGreatDoorRows
import Derived.Deep.DeepHandedRow
import Derived.Deep.DeepWitnessRowRef
import Derived.Lib.LaidTab
import Derived.Lib.LaidU8
import Derived.ProofKit
import Derived.Deep.DeepLaidRun
import Derived.Test.YtmhaknejeobfgabGreatDoorKeys
import Derived.OpenShut
import Derived.ChangeSlices
import Derived.Test.YtmhaknejeobfgabGreatDoorChReads
import Derived.Deep.SlicePairs
import Derived.Test.YtmhaknejeobfgabGreatDoorRefs3
import Derived.Test.YtmhaknejeobfgabGreatDoorDigesting

/- Frame. -/
namespace Go.Proofs.YtmhaknejeobfgabGreatDoor
open Go.RowKit Go.ChangeShapes Go.WideShapes Go.ChangeAt

theorem own : ownKnob Tryz.prog.godebug = none := by kernel_rfl

theorem int_range {raw : Int} (h : (Lit.int .i64 raw).wf = true) : -9223372036854775808 ≤ raw ∧ raw ≤ 9223372036854775807 := by
  have h' : (decide (IntKind.i64.min ≤ raw) && decide (raw ≤ IntKind.i64.max)) = true := h
  rw [Bool.and_eq_true, decide_eq_true_eq, decide_eq_true_eq] at h'
  have e1 : IntKind.i64.min = -9223372036854775808 := by decide
  have e2 : IntKind.i64.max = 9223372036854775807 := by decide
  rw [e1, e2] at h'
  exact h'

/-- What the rows list. -/
def laidL : List (String × DataW Unit) := Rows.chunkedUptoRow.laid

theorem laid_first : ("unicode/utf8.first", Lib.firstData) ∈ laidL := by
  have : laidL[8]? = some ("unicode/utf8.first", Lib.firstData) := by kernel_rfl
  exact List.mem_of_getElem? this

theorem laid_accept : ("unicode/utf8.acceptRanges", Lib.acceptData) ∈ laidL := by
  have : laidL[3]? = some ("unicode/utf8.acceptRanges", Lib.acceptData) := by kernel_rfl
  exact List.mem_of_getElem? this

theorem laid_space : ("strings.asciiSpace", Lib.tabData .u8 Lib.asciiSpaceTab) ∈ laidL := by
  have : laidL[7]? = some ("strings.asciiSpace", Lib.tabData .u8 Lib.asciiSpaceTab) := by kernel_rfl
  exact List.mem_of_getElem? this

theorem gSpace : Tryz.prog.globalNamed "strings.asciiSpace" = some 2 := by kernel_rfl
theorem gSpaceType : (Tryz.prog.globals[2]?).map (·.type) = some 179 := by kernel_rfl
theorem cellsTab : Tryz.prog.cellsOf 179 = 256 := by kernel_rfl
theorem cellsByte : Tryz.prog.cellsOf 5 = 1 := by kernel_rfl

theorem tabIs_of_reads {P : Program} {W : World} {name : String} {k : IntKind} {zs : List Int} {g : Nat} {t e : TypeId} {n : Nat}
    (hg : P.globalNamed name = some g) (hty : (P.globals[g]?).map (·.type) = some t) (ht : P.underlying t = some (.array n e)) (he : P.underlying e = some (.int k)) (hce : P.cellsOf e = 1) (hct : P.cellsOf t = n)
    (h : Lib.VarReads P W name (Lib.tabData k zs)) : Lib.TabIs P W name k zs := by
  obtain ⟨g', t', cs, fuel, p, hg', ht', hvar, hd⟩ := h
  obtain rfl := Option.some.inj (hg.symm.trans hg')
  obtain rfl := Option.some.inj (hty.symm.trans ht')
  unfold Lib.TabIs
  rw [hvar, ← Lib.cells_of_tab ht he hce hct hd]

/-- WHAT THE LIST AND THE WORLD'S SHAPE GIVE: all that the walks ask of the globals. -/
theorem env_of {W : World} (hL : laidMetH Tryz.prog laidL W) (hsh : W.ShapedOpen Tryz.prog) : Env W := by
  have hM : laidMet Tryz.prog laidL W := hL
  refine ⟨?_, Tryz.laysM219.s1_3 W hsh, ?_, ?_⟩
  · obtain ⟨cs, h, _⟩ := hsh.1 10 #[.pointer none] 206 (by decide +kernel) (by kernel_rfl)
    exact lt_of h
  · exact tabIs_of_reads gSpace gSpaceType Tryz.underlying179 Tryz.underlying5 cellsByte cellsTab (Lib.laidMet.reads hM laid_space)
  · exact utf8Tabs_of_reads { Tryz.lays260 with } ⟨by kernel_rfl, by kernel_rfl, by kernel_rfl, by kernel_rfl, by kernel_rfl, by kernel_rfl, by kernel_rfl⟩ (Lib.laidMet.reads hM laid_first) (Lib.laidMet.reads hM laid_accept)

/-- The bytes of a listed text. -/
def laidBytes : DataW Unit → List UInt8
  | .iface _ (.ptr (.agg [.lit (.string l)])) => l
  | _ => []

def intsOf : DataW Unit → List Value
  | .agg l => l.map fun | .lit (.int k z) => .int k z | _ => .bool false
  | _ => []

/-- A WORLD FOR THE WITNESS: the settled one with four blocks more (the texts of two errors; a table's ranges; the table), the nine listed variables holding what their initialisers lay. -/
def laidWorld (P : Program) (os : Os) : World :=
  let N := (World.settled P os).heap.size
  let w0 := World.holding P os ⟨#[.cells #[.string ⟨(laidBytes Rows.laid_strconv_ErrRange).toArray⟩] 241, .cells #[.string ⟨(laidBytes Rows.laid_strconv_ErrSyntax).toArray⟩] 241,
    .cells (Lib.whiteT.map fun (z : Nat) => Value.int .u16 (z : Int)).toArray 220, .cells #[.slice (some ⟨N + 2, 0, none⟩) 7 7, .slice none 0 0, .int .i64 2] 217], #[], []⟩
  let put (h : Array Obj) (g : Nat) (cs : Array Value) : Array Obj := h.modify g fun
    | .cells _ t frozen => .cells cs t frozen
    | o => o
  let h1 := put w0.heap 2 (Lib.asciiSpaceTab.map fun z => Value.int .u8 z).toArray
  let h2 := put h1 0 (Lib.firstTab.map fun z => Value.int .u8 z).toArray
  let h3 := put h2 1 ((List.range 16).flatMap fun i => [Value.int .u8 (Lib.accLo i), Value.int .u8 (Lib.accHi i)]).toArray
  let h4 := put h3 3 #[.pointer (some ⟨N + 3, 0, none⟩)]
  let h5 := put h4 5 #[.iface 239 (.pointer (some ⟨N, 0, none⟩))]
  let h6 := put h5 4 #[.iface 239 (.pointer (some ⟨N + 1, 0, none⟩))]
  let h7 := put h6 8 (intsOf Rows.laid_math_bits_deBruijn32tab).toArray
  let h8 := put h7 9 (intsOf Rows.laid_math_bits_deBruijn64tab).toArray
  let h9 := put h8 7 (intsOf Rows.laid_internal_strconv_uint64pow10).toArray
  { w0 with heap := h9 }

theorem laid_met (os : Os) (args : Array Value) : laidMet Tryz.prog laidL ((laidWorld Tryz.prog os).forCall (fun _ _ => 0) ⟨#[], args, []⟩).memory :=
  laidMet_of_run3 8 (by kernel_rfl) (by kernel_rfl) (by kernel_rfl)

end Go.Proofs.YtmhaknejeobfgabGreatDoor

/- Args. -/
namespace Go.Proofs.YtmhaknejeobfgabGreatDoor
open Go.ChangeShapes Go.WideShapes Go.ChangeAt Go.RowKit
open Go.ChangeMaps (open_string shut_string)

theorem Tryz.cells_int : Tryz.prog.cellsOf 3 = 1 := by kernel_rfl

theorem lits_bulk {H : Type} : ∀ zs : List Int, Rows.uptoBulkAll (lits (H := H) .i64 zs) = zs.length
  | [] => by simp [lits, Rows.uptoBulkAll]
  | z :: zs => by
    have ih := lits_bulk (H := H) zs
    simp only [lits, List.map_cons, Rows.uptoBulkAll, Rows.uptoBulk, List.length_cons] at ih ⊢
    omega

theorem shut_nil_slice {H : Type} {enc : TypeId × Value → H} {P : Program} {w : World} {base : Nat} {spare : Nat → Bool} {held : Bool} {t e : TypeId} (ht : P.underlying t = some (.slice e)) : DataW.Trod enc P w base spare held t (.slice none 0 0) .nil [] :=
  ⟨1, by simp [DataW.trod, ht, Value.cells]⟩

set_option maxRecDepth 100000 in
/-- A list of numbers that came in: read by the walk, and read again behind it. -/
theorem nums_arg {H : Type} {enc : TypeId × Value → H} {W : World} {base : Nat} {v : Value} {d : DataW H} {p : List MemPlace} (hok : Value.okWide Tryz.prog W .any base 31 v) (h : DataW.Trod enc Tryz.prog W 0 (fun _ => true) true 31 v d p) :
    ∃ a n cp, v = .slice a n cp ∧ NumsIn W a n ∧ n + 1 ≤ Rows.uptoBulk d ∧ ∀ W', Fr (fun _ => False) W W' → DataW.Trod enc Tryz.prog W' 0 (fun b => decide (b < W.heap.size)) true 31 v d p := by
  obtain ⟨a0, len, cap, rfl⟩ := okWide_slice Tryz.underlying31 hok
  obtain ⟨fuel, hf⟩ := h
  rcases open_ints Tryz.underlying31 Tryz.underlying3 Tryz.cells_int hf with ⟨hcs, hx⟩ | ⟨a, len', cap', zs, hcs, hb, hl, hm, hz, hx, hcell, hwz⟩
  · simp [Value.cells] at hcs
    obtain ⟨rfl, rfl, rfl⟩ := hcs
    simp only [Prod.mk.injEq] at hx
    obtain ⟨rfl, rfl⟩ := hx
    refine ⟨none, 0, 0, rfl, fun j hj => by omega, ?_, fun W' _ => ?_⟩
    · simp [Rows.uptoBulk]
    · exact shut_nil_slice Tryz.underlying31
  · simp [Value.cells] at hcs
    obtain ⟨rfl, rfl, rfl⟩ := hcs
    simp only [Prod.mk.injEq] at hx
    obtain ⟨rfl, rfl⟩ := hx
    simp only [if_true] at hz
    have hin : ∀ j, j < zs.length → a = ⟨a.block, a.off, none⟩ ∧ W.cell? ⟨a.block, a.off + j, none⟩ = some (.int .i64 (zs.getD j 0)) ∧ a.block < W.heap.size := by
      intro j hj
      obtain ⟨b, off, spot⟩ := a
      have hspot : spot = none := by simpa [Addr.add] using World.cell?_spot (hcell 0 (by omega))
      subst hspot
      have hc := hcell j hj
      rw [add_plain] at hc
      exact ⟨rfl, hc, World.block_lt_of_cell? _ ⟨b, off + j, none⟩ hc⟩
    refine ⟨some a, len, cap, rfl, fun j hj => ?_, ?_, fun W' f => ?_⟩
    · obtain ⟨h1, h2, h3⟩ := hin j (by omega)
      have hr := int_range (hwz (zs.getD j 0) (by
        have : zs.getD j 0 = zs[j]'(by omega) := by simp [List.getD, show j < zs.length by omega]
        rw [this]
        exact List.getElem_mem _))
      exact ⟨a.block, a.off, zs.getD j 0, congrArg some h1, h2, hr.1, hr.2, h3⟩
    · simp only [Rows.uptoBulk, lits_bulk, List.length_take]
      omega
    · refine ⟨0 + 2, shut_ints 0 Tryz.underlying31 Tryz.underlying3 Tryz.cells_int (Nat.zero_le _) hl hm ?_ (fun j hj => ?_) hwz⟩
      · by_cases hc : 0 < zs.length
        · rw [if_pos (by simpa using (hin 0 hc).2.2)]
          exact hz
        · have : zs.length = 0 := by omega
          split <;> omega
      · obtain ⟨h1, h2, h3⟩ := hin j hj
        rw [h1, add_plain]
        exact f.cell id h3 h2

end Go.Proofs.YtmhaknejeobfgabGreatDoor

/- ArgsC. -/
namespace Go.Proofs.YtmhaknejeobfgabGreatDoor
open Go.ChangeShapes Go.WideShapes Go.ChangeAt Go.RowKit Go.Deep

theorem Tryz.cells_chunk : Tryz.prog.cellsOf 49 = 2 := by kernel_rfl
theorem Tryz.cells_string : Tryz.prog.cellsOf 9 = 1 := by kernel_rfl

/-- A list of chunks that came in. -/
structure ChArg (w : World) (a : Option Addr) (L : List Chk) (cp : Nat) : Prop where
  ch : ChunksIn w w.heap.size a L
  le : L.length ≤ cp
  cap : cp ≤ maxLen
  nil : a = none → cp = 0

/-- What chunks weigh. -/
theorem chunks_bulk {H : Type} (K : Nat → Int) (S : Nat → ByteArray) : ∀ l : List Nat, Rows.uptoBulkAll (l.map fun i => (.agg [.lit (.int .i64 (K i)), .lit (.string (S i).data.toList)] : DataW H)) = (bytesOf (l.map fun i => (K i, (S i).data.toList))).length + 3 * l.length
  | [] => by simp [Rows.uptoBulkAll, bytesOf]
  | z :: zs => by
    have ih := chunks_bulk (H := H) K S zs
    simp only [List.map_cons, Rows.uptoBulkAll, Rows.uptoBulk, List.length_cons, bytesOf, List.flatMap_cons, List.length_append] at ih ⊢
    omega

set_option maxRecDepth 100000 in
/-- A list of chunks that came in: read by the walk, and read again behind it. -/
theorem chunks_arg {H : Type} {enc : TypeId × Value → H} {W : World} {base : Nat} {v : Value} {d : DataW H} {p : List MemPlace} (hok : Value.okWide Tryz.prog W .any base 22 v) (h : DataW.Trod enc Tryz.prog W 0 (fun _ => true) true 22 v d p) :
    ∃ a cp L, v = .slice a L.length cp ∧ ChArg W a L cp ∧ (bytesOf L).length + L.length + 1 ≤ Rows.uptoBulk d ∧ ∀ W', Fr (fun _ => False) W W' → DataW.Trod enc Tryz.prog W' 0 (fun b => decide (b < W.heap.size)) true 22 v d p := by
  obtain ⟨a0, len, cap, rfl⟩ := okWide_slice Tryz.underlying22 hok
  obtain ⟨fuel, hf⟩ := h
  rcases open_slice_pairs Tryz.underlying22 Tryz.underlying49 Tryz.cells_chunk rfl rfl Tryz.cells_int Tryz.cells_string hf with ⟨hcs, hx⟩ | ⟨a, len', cap', m, n, V0, V1, D0, D1, P0, P1, hcs, hb, hl, hm, hmm, hx, hi⟩
  · simp [Value.cells] at hcs
    obtain ⟨rfl, rfl, rfl⟩ := hcs
    simp only [Prod.mk.injEq] at hx
    obtain ⟨rfl, rfl⟩ := hx
    refine ⟨none, 0, [], rfl, ⟨fun j c hj => (by cases hj), Nat.le_refl _, Nat.zero_le _, fun _ => rfl⟩, ?_, fun W' _ => ?_⟩
    · simp [Rows.uptoBulk, bytesOf]
    · exact shut_nil_slice Tryz.underlying22
  · simp [Value.cells] at hcs
    obtain ⟨rfl, rfl, rfl⟩ := hcs
    simp only [Prod.mk.injEq] at hx
    obtain ⟨rfl, rfl⟩ := hx
    simp only [if_true] at hmm
    subst hmm
    have each : ∀ i, i < m → ∃ q : Int × ByteArray, V0 i = .int .i64 q.1 ∧ V1 i = .string q.2 ∧ D0 i = .lit (.int .i64 q.1) ∧ D1 i = .lit (.string q.2.data.toList) ∧ P0 i = [] ∧ P1 i = [] ∧ (Lit.int .i64 q.1).wf = true ∧ q.2.size ≤ maxLen := by
      intro i him
      obtain ⟨h1, h2, h3, h4⟩ := hi i him
      obtain ⟨z, z1, z2, z3⟩ := DataW.trod_int Tryz.underlying3 h3
      obtain ⟨s, s1, s2, s3⟩ := DataW.trod_string Tryz.underlying9 h4
      simp only [Prod.mk.injEq, List.cons.injEq, and_true] at z1 z2 s1 s2
      exact ⟨(z, s), z1, s1, z2.1, s2.1, z2.2, s2.2, z3, s3⟩
    obtain ⟨q, hq⟩ := choose_lt (α := Int × ByteArray) each
    have hin : ∀ i, i < m → a = ⟨a.block, a.off, none⟩ ∧ W.cell? ⟨a.block, a.off + i * 2, none⟩ = some (.int .i64 (q i).1) ∧ W.cell? ⟨a.block, a.off + i * 2 + 1, none⟩ = some (.string (q i).2) ∧ a.block < W.heap.size := by
      intro i him
      obtain ⟨b, off, spot⟩ := a
      have hspot : spot = none := by
        have := World.cell?_spot (hi 0 (by omega)).1
        simpa [Addr.add] using this
      subst hspot
      have h1 := (hi i him).1
      have h2 := (hi i him).2.1
      rw [add_plain, (hq i him).1] at h1
      rw [add_plain, (hq i him).2.1, ← Nat.add_assoc] at h2
      exact ⟨rfl, h1, h2, World.block_lt_of_cell? _ ⟨b, off + i * 2, none⟩ h1⟩
    have hlen : ((List.range len).map fun i => ((q i).1, (q i).2.data.toList)).length = len := by simp
    refine ⟨some a, m, (List.range len).map fun i => ((q i).1, (q i).2.data.toList), by rw [hlen], ⟨fun j c hj => ?_, by rw [hlen]; exact hl, hm, fun h => (by cases h)⟩, ?_, fun W' f => ?_⟩
    · have hjl : j < len := by
        have := (List.getElem?_eq_some_iff.1 hj).1
        omega
      have hc : c = ((q j).1, (q j).2.data.toList) := by
        simp [hjl] at hj
        exact hj.symm
      subst hc
      obtain ⟨h1, h2, h3, h4⟩ := hin j (by omega)
      have hr := int_range (hq j (by omega)).2.2.2.2.2.2.1
      exact ⟨a.block, a.off, congrArg some h1, h4, h4, h2, h3, hr.1, hr.2⟩
    · have e1 : (List.range len).map (fun i => DataW.agg [D0 i, D1 i]) = (List.range len).map fun i => (.agg [.lit (.int .i64 (q i).1), .lit (.string (q i).2.data.toList)] : DataW H) := List.map_congr_left fun i hi' => by
        have him : i < m := by have := List.mem_range.1 hi'; omega
        rw [(hq i him).2.2.1, (hq i him).2.2.2.1]
      simp only [Rows.uptoBulk]
      rw [e1, chunks_bulk, hlen, List.length_range]
      omega
    · by_cases hm0 : 0 < m
      · have ha := (hin 0 hm0).1
        have hbl := (hin 0 hm0).2.2.2
        rw [ha]
        exact shut_slice_pairs_whole Tryz.underlying22 Tryz.underlying49 Tryz.cells_chunk rfl rfl Tryz.cells_int Tryz.cells_string (Nat.zero_le _) hl hm (by simpa using hbl) (fun i => .int .i64 (q i).1) (fun i => .string (q i).2) D0 D1 P0 P1
          (fun i him => f.cell id hbl (hin i him).2.1) (fun i him => f.cell id hbl (hin i him).2.2.1)
          (fun i him => ⟨1, by rw [(hq i him).2.2.1, (hq i him).2.2.2.2.1]; exact trod_int_mk 0 Tryz.underlying3 (hq i him).2.2.2.2.2.2.1⟩)
          (fun i him => ⟨1, by rw [(hq i him).2.2.2.1, (hq i him).2.2.2.2.2.1]; have := (hq i him).2.2.2.2.2.2.2; simp [DataW.trod, Tryz.underlying9, this]⟩)
      · obtain rfl : m = 0 := by omega
        obtain rfl : len = 0 := by omega
        refine ⟨1, ?_⟩
        simp [DataW.trod, Tryz.underlying22, Value.cells, MemPlace.row]

end Go.Proofs.YtmhaknejeobfgabGreatDoor

/- Digests1. -/
namespace Go.Proofs.YtmhaknejeobfgabGreatDoor
open Go.RowKit Go.Proofs.YtmhaknejeobfgabGreatDoor.Stable Go.Proofs.YtmhaknejeobfgabGreatDoor.Order Go.Proofs.YtmhaknejeobfgabGreatDoor.Points
attribute [local go_sem ↓] Go.wp_at_zero Go.wp_at_succ

theorem rdigest_none (m : Int) (a1 : Option Addr) (n1 c1 : Nat) (w : World) (h : m < 0 ∨ 3 < m) :
    Calls Tryz.prog 10 #[.int .i64 m, .slice a1 n1 c1] w fun e w' => e = .returned (.tuple #[.int .u64 0, .int .i64 1]) ∧ w' = w := by
  have HM : Hid (m < 0 ∨ 3 < m) := h
  clear h
  go_enter Tryz.func10, Tryz.ntmps10
  go_wp2_with (go_at_call 30; refine (isMode_no m _ HM.out).mono ?_; rintro e w' ⟨rfl, hw⟩; have hw' := hw.symm; subst hw'; clear hw)
  go_ret2
  exact ⟨rfl, rfl⟩

/-- The whole form of a source that has ended. -/
theorem rel_full {m : Int} {L : List Chk} {k : Nat} (h0 : 0 ≤ m) (h3 : m ≤ 3) (h : OkAt L k true) : relOf m L k true = form m (codes (bytesOf L)) := by
  rw [h.2 rfl]
  exact full_form h0 h3 L

set_option maxRecDepth 100000 in
set_option maxHeartbeats 1600000 in
theorem rdigest_calls (m : Int) (a1 : Option Addr) (c1 : Nat) (A : List Chk) (w : World) (h0 : 0 ≤ m) (h3 : m ≤ 3) (hA : ChunksIn w w.heap.size a1 A) (bA : (bytesOf A).length + A.length ≤ 1048576) :
    Calls Tryz.prog 10 #[.int .i64 m, .slice a1 A.length c1] w fun e w' => e = .returned (.tuple #[.int .u64 (digOf m A), .int .i64 (faultOf A)]) ∧ Fr (fun _ => False) w w' := by
  obtain ⟨n1, hn1⟩ : ∃ n1, n1 = A.length := ⟨_, rfl⟩
  obtain ⟨dg, hdg⟩ : ∃ dg, dg = digOf m A := ⟨_, rfl⟩
  obtain ⟨fo, hfo⟩ : ∃ fo, fo = faultOf A := ⟨_, rfl⟩
  rw [← hn1, ← hdg, ← hfo]
  have HM : Hid (0 ≤ m ∧ m ≤ 3 ∧ n1 = A.length ∧ dg = digOf m A ∧ fo = faultOf A) := ⟨h0, h3, hn1, hdg, hfo⟩
  have hnew := rd_new (cp := c1) (lo := w.heap.size + 1) hA h0 h3 bA (Nat.le_refl _) (by omega)
  rw [← hn1] at hnew
  have HN : Hid (RdR (w.alloc (.cells #[.int .i64 m, .slice a1 n1 c1, .int .i64 0, .int .i64 0, .string ⟨#[]⟩, .bool false, .int .i64 0, .int .i64 0, .slice none 0 0, .bool false] 77)) w.heap.size (w.heap.size + 1) w.heap.size m a1 c1 A 0 0 false false ⟨#[]⟩ 0 none 0 0 ∧ Fr (fun _ => False) w (w.alloc (.cells #[.int .i64 m, .slice a1 n1 c1, .int .i64 0, .int .i64 0, .string ⟨#[]⟩, .bool false, .int .i64 0, .int .i64 0, .slice none 0 0, .bool false] 77)) ∧ w.heap.size + 1 ≤ (w.alloc (.cells #[.int .i64 m, .slice a1 n1 c1, .int .i64 0, .int .i64 0, .string ⟨#[]⟩, .bool false, .int .i64 0, .int .i64 0, .slice none 0 0, .bool false] 77)).heap.size) := ⟨hnew, (Fr.refl _ _).alloc _, by simp⟩
  clear h0 h3 hn1 hdg hfo hnew hA bA
  go_enter Tryz.func10, Tryz.ntmps10
  go_wp2_with (go_at_call 30; refine (isMode_yes m _ HM.out.1 HM.out.2.1).mono ?_; rintro e w' ⟨rfl, hw⟩; have hw' := hw.symm; subst hw'; clear hw)
  generalize w.alloc (.cells #[.int .i64 m, .slice a1 n1 c1, .int .i64 0, .int .i64 0, .string ⟨#[]⟩, .bool false, .int .i64 0, .int .i64 0, .slice none 0 0, .bool false] 77) = w1 at *
  obtain ⟨pr, hpr⟩ : ∃ p, p = w.heap.size := ⟨_, rfl⟩
  have HN1 : Hid (RdR w1 w.heap.size (w.heap.size + 1) pr m a1 c1 A 0 0 false false ⟨#[]⟩ 0 none 0 0 ∧ Fr (fun _ => False) w w1 ∧ w.heap.size + 1 ≤ w1.heap.size ∧ pr = w.heap.size) := ⟨by rw [hpr]; exact HN.out.1, HN.out.2.1, HN.out.2.2, hpr⟩
  rw [← hpr]
  clear hpr HN
  go_loopg [8] (stepsOf A 0 false) (fun g _ wr => ∃ (k : Nat) (e : Bool) (s : ByteArray), g = stepsOf A k e ∧ Hid (RdR wr w.heap.size (w.heap.size + 1) pr m a1 c1 A k 0 e false s 0 none 0 0 ∧ (∀ j, j < k → faultAt A j = 0) ∧ Fr (fun _ => False) w wr ∧ w.heap.size + 1 ≤ wr.heap.size))
  case atStart => exact ⟨0, false, _, rfl, HN1.out.1, fun j hj => absurd hj (Nat.not_lt_zero _), HN1.out.2.1, HN1.out.2.2.1⟩
  case round =>
    obtain ⟨k, e, s, hg, HX⟩ := hrel
    have c5 : wr.cell? ⟨pr, 5, none⟩ = some (.bool e) := cell_of HX.out.1.blk rfl
    have hpr : w.heap.size ≤ pr := by have := HN1.out.2.2.2; omega
    cases e with
    | true =>
      have hfo : fo = 0 := by
        have hk := HX.out.1.ok.2 rfl
        rcases fault_spec A with ⟨h, _⟩ | ⟨j, h1, h2, _⟩
        · rw [HM.out.2.2.2.2]; exact h
        · exact absurd (HX.out.2.1 j (by omega)) h2
      obtain ⟨F, hF⟩ : ∃ F, F = form m (codes (bytesOf A)) := ⟨_, rfl⟩
      obtain ⟨K, hK⟩ : ∃ K : ByteArray, K = ⟨(keyL m (bytesOf A)).toArray⟩ := ⟨_, rfl⟩
      have HF : Hid (relOf m A k true = F ∧ (∀ c ∈ F, Valid c) ∧ F.length ≤ 274877906944 ∧ K.data.toList = utf8 F ∧ K.size ≤ 1099511627776 ∧ dg = hashL K.data.toList) := by
        have h1 := form_length HM.out.1 HM.out.2.1 (bytesOf A)
        have h2 := key_size HM.out.1 HM.out.2.1 (bytesOf A)
        have h3 := HX.out.1.small
        refine ⟨by rw [hF]; exact rel_full HM.out.1 HM.out.2.1 HX.out.1.ok, by rw [hF]; exact form_valid (codes_valid _), by rw [hF]; omega, by rw [hK, hF]; rfl, ?_, ?_⟩
        · rw [hK, Lib.size_eq]
          show (keyL m (bytesOf A)).length ≤ _
          omega
        · rw [HM.out.2.2.2.1, digOf, if_pos (by rw [← HM.out.2.2.2.2]; exact hfo), hK]
      subst hfo
      clear hg hF hK
      go_wp2_with (first
        | (go_at_call 34; refine (rdform_calls HX.out.1 HX.out.2.2.2).mono ?_; rintro x w3 ⟨an3, nn3, cn3, rfl, hr3, hf3⟩; have H3 : Hid (nn3 = F.length ∧ IntsAt w3 an3 F ∧ Fr (fun _ => False) w w3) := (by obtain ⟨q1, -, q3⟩ := hr3.now rfl; rw [HF.out.1] at q1 q3; exact ⟨q1, q3, HX.out.2.2.1.trans hf3 (fun i hi e => by omega)⟩); clear hr3 hf3)
        | (go_at_call 33; rw [H3.out.1]; refine (utf8_calls an3 cn3 F _ HF.out.2.1 HF.out.2.2.1 H3.out.2.1).mono ?_; rintro x w4 ⟨t, rfl, ht, hf4⟩; obtain rfl : t = K := (byt_eq ht).trans (byt_eq HF.out.2.2.2.1).symm; have H4 : Hid (Fr (fun _ => False) w w4) := H3.out.2.2.trans hf4 (fun _ _ h => h); clear hf4 ht)
        | (go_at_call 32; refine (rhash_calls _ _ HF.out.2.2.2.2.1).mono ?_; rw [← HF.out.2.2.2.2.2]; rintro x w5 ⟨rfl, hf5⟩; have H5 : Hid (Fr (fun _ => False) w w5) := H4.out.trans hf5 (fun _ _ h => h); clear hf5))
      go_ret2
      exact ⟨rfl, H5.out⟩
    | false =>
      by_cases hk : k = A.length
      · have hst : stepsOf A k true < gk := by rw [hg]; simp [stepsOf]
        clear hg
        go_wp2_with (go_at_call 31; refine (rread_end HX.out.1 hk).mono ?_; rintro x w2 ⟨rfl, hr2, hf2⟩; have H2 : Hid (RdR w2 w.heap.size (w.heap.size + 1) pr m a1 c1 A k 0 true false s 0 none 0 0 ∧ Fr (fun _ => False) w w2 ∧ w.heap.size + 1 ≤ w2.heap.size) := ⟨hr2, HX.out.2.2.1.trans hf2 (fun i hi e => by omega), by have := hf2.size; have := HX.out.2.2.2; omega⟩; clear hr2 hf2)
        go_roundg (stepsOf A k true)
        case measure => exact hst
        case rel => exact ⟨k, true, s, rfl, H2.out.1, HX.out.2.1, H2.out.2.1, H2.out.2.2⟩
      · have hkl : k < A.length := by have := HX.out.1.ok.1; omega
        by_cases hf : faultAt A k = 0
        · have hst : stepsOf A (k + 1) false < gk := by rw [hg]; simp [stepsOf]; omega
          have HF0 : Hid (faultAt A k = 0) := hf
          clear hg hf
          go_wp2_with (go_at_call 31; refine (rread_calls HX.out.1 hkl HX.out.2.2.2).mono ?_; rw [HF0.out]; rintro x w2 ⟨rfl, ⟨s2, hr2⟩, hf2⟩; have H2 : Hid (RdR w2 w.heap.size (w.heap.size + 1) pr m a1 c1 A (k + 1) 0 false false s2 0 none 0 0 ∧ Fr (fun _ => False) w w2 ∧ w.heap.size + 1 ≤ w2.heap.size) := ⟨hr2, HX.out.2.2.1.trans hf2 (fun i hi e => by omega), by have := hf2.size; have := HX.out.2.2.2; omega⟩; clear hr2 hf2)
          go_roundg (stepsOf A (k + 1) false)
          case measure => exact hst
          case rel =>
            refine ⟨k + 1, false, s2, rfl, H2.out.1, fun j hj => ?_, H2.out.2.1, H2.out.2.2⟩
            by_cases e : j = k
            · rw [e]; exact HF0.out
            · exact HX.out.2.1 j (by omega)
        · have hfo : fo = faultAt A k ∧ dg = 0 := by
            rcases fault_spec A with ⟨_, h⟩ | ⟨j, h1, h2, h3, h4⟩
            · exact absurd (h k hkl) hf
            · have hjk : j = k := by
                rcases Nat.lt_trichotomy j k with h | h | h
                · exact absurd (HX.out.2.1 j h) h2
                · exact h
                · exact absurd (h4 k h) hf
              rw [hjk] at h3
              exact ⟨by rw [HM.out.2.2.2.2]; exact h3, by rw [HM.out.2.2.2.1, digOf, if_neg (by rw [h3]; exact hf)]⟩
          obtain ⟨hfo, rfl⟩ := hfo
          have hne : (fo != 0) = true := by rw [bne_iff_ne, hfo]; exact hf
          have HFO : Hid (fo = faultAt A k) := hfo
          clear hg hf hfo
          go_wp2_with (go_at_call 31; refine (rread_calls HX.out.1 hkl HX.out.2.2.2).mono ?_; rw [← HFO.out]; rintro x w2 ⟨rfl, -, hf2⟩; have H2 : Hid (Fr (fun _ => False) w w2) := HX.out.2.2.1.trans hf2 (fun i hi e => by omega); clear hf2)
          go_ret2
          exact ⟨rfl, H2.out⟩

theorem num_any2 (n : Int) (w : World) :
    Calls Tryz.prog 11 #[.int .i64 n] w fun e w' => e = .returned (.int .i64 n) ∧ w' = w := by
  go_enter Tryz.func11, Tryz.ntmps11
  go_wp2
  go_ret
  exact ⟨rfl, rfl⟩

theorem ChunksIn.wide {w : World} {hi hi' : Nat} {a : Option Addr} {L : List Chk} (h : ChunksIn w hi a L) (hh : hi ≤ hi') : ChunksIn w hi' a L := fun j c hj => by
  obtain ⟨b, off, h1, h2, h3⟩ := h j c hj
  exact ⟨b, off, h1, by omega, h3⟩

set_option maxRecDepth 100000 in
set_option maxHeartbeats 1600000 in
theorem digests_walk (m : Int) (a1 : Option Addr) (c1 : Nat) (A : List Chk) (w : World) (hE : Env w) (hA : ChunksIn w w.heap.size a1 A) (hbd : (bytesOf A).length + A.length ≤ 1048576) :
    Calls Tryz.prog 3 #[.int .i64 m, .slice a1 A.length c1] w fun e w' => e = .returned (.bool true) ∧ Fr (fun _ => False) w w' := by
  have HE : Hid (Env w ∧ ChunksIn w w.heap.size a1 A ∧ (bytesOf A).length + A.length ≤ 1048576) := ⟨hE, hA, hbd⟩
  clear hE hA hbd
  by_cases hm : 0 ≤ m ∧ m ≤ 3
  · have hc1 := digest_calls m a1 c1 A w hm.1 hm.2 HE.out.1 HE.out.2.1 (by have := HE.out.2.2; omega) (by have := HE.out.2.2; omega)
    have hc2 := fun w' (f : Fr (fun _ => False) w w') => rdigest_calls m a1 c1 A w' hm.1 hm.2 ((HE.out.2.1.kept f (fun _ _ => id)).wide f.size) HE.out.2.2
    obtain ⟨n1, hn1⟩ : ∃ n1, n1 = A.length := ⟨_, rfl⟩
    obtain ⟨dg, hdg⟩ : ∃ dg, dg = digOf m A := ⟨_, rfl⟩
    obtain ⟨fo, hfo⟩ : ∃ fo, fo = faultOf A := ⟨_, rfl⟩
    rw [← hn1, ← hdg, ← hfo] at hc1
    rw [← hn1, ← hdg, ← hfo] at hc2
    rw [← hn1]
    have HC1 : Hid (Calls Tryz.prog 9 #[.int .i64 m, .slice a1 n1 c1] w fun e w' => e = .returned (.tuple #[.int .u64 dg, .int .i64 fo]) ∧ Fr (fun _ => False) w w') := hc1
    have HC2 : Hid (∀ w', Fr (fun _ => False) w w' → Calls Tryz.prog 10 #[.int .i64 m, .slice a1 n1 c1] w' fun e w'' => e = .returned (.tuple #[.int .u64 dg, .int .i64 fo]) ∧ Fr (fun _ => False) w' w'') := hc2
    clear hc1 hc2 hm hn1 hdg hfo
    go_enter Tryz.func3, Tryz.ntmps3
    go_wp2_with (first
      | (go_at_call 9; refine HC1.out.mono ?_; rintro e w1 ⟨rfl, hf1⟩; have HF1 : Hid (Fr (fun _ => False) w w1) := hf1; clear hf1)
      | (go_at_call 10; refine (HC2.out _ HF1.out).mono ?_; rintro e w2 ⟨rfl, hf2⟩; have HF2 : Hid (Fr (fun _ => False) w w2) := HF1.out.trans hf2 (fun _ _ h => h); clear hf2)
      | (go_at_call 11; refine (num_any2 fo _).mono ?_; rintro e w' ⟨rfl, hw⟩; have hw' := hw.symm; subst hw'; clear hw))
    go_ret
    exact ⟨rfl, HF2.out⟩
  · have hm' : m < 0 ∨ 3 < m := by omega
    have HM : Hid (m < 0 ∨ 3 < m) := hm'
    clear hm hm'
    obtain ⟨n1, hn1⟩ : ∃ n1, n1 = A.length := ⟨_, rfl⟩
    rw [← hn1]
    clear hn1
    go_enter Tryz.func3, Tryz.ntmps3
    go_wp2_with (first
      | (go_at_call 9; refine (digest_none m a1 n1 c1 _ HM.out).mono ?_; rintro e w' ⟨rfl, hw⟩; have hw' := hw.symm; subst hw'; clear hw)
      | (go_at_call 10; refine (rdigest_none m a1 n1 c1 _ HM.out).mono ?_; rintro e w' ⟨rfl, hw⟩; have hw' := hw.symm; subst hw'; clear hw)
      | (go_at_call 11; refine (num_any2 1 _).mono ?_; rintro e w' ⟨rfl, hw⟩; have hw' := hw.symm; subst hw'; clear hw))
    go_ret
    exact ⟨rfl, Fr.refl _ _⟩

end Go.Proofs.YtmhaknejeobfgabGreatDoor

/- ConDigests. -/
namespace Go.Proofs.YtmhaknejeobfgabGreatDoor.digestsProof
open Go.ChangeShapes Go.WideShapes Go.ChangeAt Go.RowKit
open Go.ChangeMaps (open_string shut_string)

set_option maxRecDepth 100000 in
theorem contract (H : Type) (enc : TypeId × Value → H) (F : Stop.Interp) (W : World) (base : Nat) (args : Array Value) (ds gs : List (DataW H)) (before : List MemPlace)
    (hval : ∀ (j : Nat) t v, Tryz.f3.params[j]? = some t → args[j]? = some v → Value.okWide Tryz.prog W .any base t v)
    (hW : DataW.Whole enc Tryz.prog Tryz.f3.params.toList (Rows.OpenSpec.upto Rows.digestsSpec).vars false W args.toList ds gs before)
    (hcond : ∀ k, (Rows.OpenSpec.upto Rows.digestsSpec).cond = some k → k H (ds ++ gs) = true) (hL : laidMetH Tryz.prog laidL W) (hsh : W.ShapedOpen Tryz.prog) :
    Calls Tryz.prog 3 args W fun e W' => ∃ v, e = .returned v ∧ ((Rows.OpenSpec.upto Rows.digestsSpec).at F).post enc Tryz.prog Tryz.f3 false true false false W args v W' := by
  have hW' := hW
  obtain ⟨p, q, hA0, hV0, rfl, _, _⟩ := hW
  have hA : DataW.TrodAll enc Tryz.prog W 0 (fun _ => true) true Tryz.f3.params.toList args.toList ds p := hA0
  rw [Tryz.params3] at hA hval
  obtain ⟨v0, vs0, d0, ds0, p0, q0, hargs, rfl, rfl, h0, t0⟩ := trodAll_cons hA
  obtain ⟨v1, vs1, d1, ds1, p1, q1, rfl, rfl, rfl, h1, t1⟩ := trodAll_cons t0
  obtain ⟨rfl, rfl, rfl⟩ := trodAll_nil t1
  obtain rfl : args = #[v0, v1] := by cases args; simp_all
  obtain ⟨rfl, rfl⟩ := trodVars_none hV0
  obtain ⟨x0, rfl, rfl, rfl, w0⟩ := open_int Tryz.underlying3 (hval 0 3 v0 rfl rfl) h0
  obtain ⟨a1, c1, L1, rfl, i1, u1, s1⟩ := chunks_arg (hval 1 22 v1 rfl rfl) h1
  clear hA0
  simp only [List.append_nil] at hW' hcond
  have hk := hcond Rows.uptoSmall rfl
  have hb : (bytesOf L1).length + L1.length ≤ 1048576 := by
    have h := of_decide_eq_true hk
    simp only [Rows.uptoBulkAll, Rows.uptoBulk] at h
    omega
  have r0 := int_range w0
  refine (digests_walk x0 a1 c1 L1 W (env_of hL hsh) i1.ch (by omega)).mono ?_
  rintro e W' ⟨rfl, hf⟩
  have bel := hf.below
  refine ⟨_, rfl, [.lit (.int .i64 x0), d1], [], _, [], ([] ++ (p1 ++ [])), [], hW', ?_, ?_, ?_, bel.frame _, fun h => by cases h⟩
  · exact trodAll_mk1 (shut_bool Tryz.underlying4 _)
  · exact (trodAll_cons_mk (shut_int Tryz.underlying3 w0) (trodAll_cons_mk (s1 W' hf) trodAll_mk0))
  · rfl

end Go.Proofs.YtmhaknejeobfgabGreatDoor.digestsProof
