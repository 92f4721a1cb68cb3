/- What the listed variables give at the call's first world, and a world that holds them. Lists that came in: read by the walk, and read again behind it. Lists of chunks that came in: read by the walk, and read again behind it. The law Streams, walked: it answers true. What the law Streams asks of its arguments, and what its walk gives. -/
import Derived.Test.YtmhaknejeobfgaaGreatDoorTables
import Derived.Test.YtmhaknejeobfgaaGreatDoorBase
import Derived.Test.YtmhaknejeobfgaaGreatDoorShelf
import Derived.Test.YtmhaknejeobfgaaGreatDoorRows
import Derived.Deep.DeepHandedRow
import Derived.Deep.DeepWitnessRowRef
import Derived.Lib.LaidTab
import Derived.Lib.LaidU8
import Derived.ProofKit
import Derived.Deep.DeepLaidRun
import Derived.Test.YtmhaknejeobfgaaGreatDoorKeys
import Derived.OpenShut
import Derived.ChangeSlices
import Derived.Test.YtmhaknejeobfgaaGreatDoorChReads
import Derived.Deep.SlicePairs
import Derived.Test.YtmhaknejeobfgaaGreatDoorRefs3
import Derived.Test.YtmhaknejeobfgaaGreatDoorStreaming

/- Frame. -/
namespace Go.Proofs.YtmhaknejeobfgaaGreatDoor
open Go.RowKit Go.ChangeShapes Go.WideShapes Go.ChangeAt

theorem own : ownKnob Tryz.prog.godebug = none := by kernel_rfl

theorem int_range {raw : Int} (h : (Lit.int .i64 raw).wf = true) : -9223372036854775808 ≤ raw ∧ raw ≤ 9223372036854775807 := by
  have h' : (decide (IntKind.i64.min ≤ raw) && decide (raw ≤ IntKind.i64.max)) = true := h
  rw [Bool.and_eq_true, decide_eq_true_eq, decide_eq_true_eq] at h'
  have e1 : IntKind.i64.min = -9223372036854775808 := by decide
  have e2 : IntKind.i64.max = 9223372036854775807 := by decide
  rw [e1, e2] at h'
  exact h'

/-- What the rows list. -/
def laidL : List (String × DataW Unit) := Rows.summedUptoRow.laid

theorem laid_first : ("unicode/utf8.first", Lib.firstData) ∈ laidL := by
  have : laidL[8]? = some ("unicode/utf8.first", Lib.firstData) := by kernel_rfl
  exact List.mem_of_getElem? this

theorem laid_accept : ("unicode/utf8.acceptRanges", Lib.acceptData) ∈ laidL := by
  have : laidL[3]? = some ("unicode/utf8.acceptRanges", Lib.acceptData) := by kernel_rfl
  exact List.mem_of_getElem? this

theorem laid_space : ("strings.asciiSpace", Lib.tabData .u8 Lib.asciiSpaceTab) ∈ laidL := by
  have : laidL[7]? = some ("strings.asciiSpace", Lib.tabData .u8 Lib.asciiSpaceTab) := by kernel_rfl
  exact List.mem_of_getElem? this

theorem gSpace : Tryz.prog.globalNamed "strings.asciiSpace" = some 2 := by kernel_rfl
theorem gSpaceType : (Tryz.prog.globals[2]?).map (·.type) = some 171 := by kernel_rfl
theorem cellsTab : Tryz.prog.cellsOf 171 = 256 := by kernel_rfl
theorem cellsByte : Tryz.prog.cellsOf 5 = 1 := by kernel_rfl

theorem tabIs_of_reads {P : Program} {W : World} {name : String} {k : IntKind} {zs : List Int} {g : Nat} {t e : TypeId} {n : Nat}
    (hg : P.globalNamed name = some g) (hty : (P.globals[g]?).map (·.type) = some t) (ht : P.underlying t = some (.array n e)) (he : P.underlying e = some (.int k)) (hce : P.cellsOf e = 1) (hct : P.cellsOf t = n)
    (h : Lib.VarReads P W name (Lib.tabData k zs)) : Lib.TabIs P W name k zs := by
  obtain ⟨g', t', cs, fuel, p, hg', ht', hvar, hd⟩ := h
  obtain rfl := Option.some.inj (hg.symm.trans hg')
  obtain rfl := Option.some.inj (hty.symm.trans ht')
  unfold Lib.TabIs
  rw [hvar, ← Lib.cells_of_tab ht he hce hct hd]

/-- WHAT THE LIST AND THE WORLD'S SHAPE GIVE: all that the walks ask of the globals. -/
theorem env_of {W : World} (hL : laidMetH Tryz.prog laidL W) (hsh : W.ShapedOpen Tryz.prog) : Env W := by
  have hM : laidMet Tryz.prog laidL W := hL
  refine ⟨?_, Tryz.laysM219.s1_3 W hsh, ?_, ?_⟩
  · obtain ⟨cs, h, _⟩ := hsh.1 10 #[.pointer none] 192 (by decide +kernel) (by kernel_rfl)
    exact lt_of h
  · exact tabIs_of_reads gSpace gSpaceType Tryz.underlying171 Tryz.underlying5 cellsByte cellsTab (Lib.laidMet.reads hM laid_space)
  · exact utf8Tabs_of_reads { Tryz.lays260 with } ⟨by kernel_rfl, by kernel_rfl, by kernel_rfl, by kernel_rfl, by kernel_rfl, by kernel_rfl, by kernel_rfl⟩ (Lib.laidMet.reads hM laid_first) (Lib.laidMet.reads hM laid_accept)

/-- The bytes of a listed text. -/
def laidBytes : DataW Unit → List UInt8
  | .iface _ (.ptr (.agg [.lit (.string l)])) => l
  | _ => []

def intsOf : DataW Unit → List Value
  | .agg l => l.map fun | .lit (.int k z) => .int k z | _ => .bool false
  | _ => []

/-- A WORLD FOR THE WITNESS: the settled one with four blocks more (the texts of two errors; a table's ranges; the table), the nine listed variables holding what their initialisers lay. -/
def laidWorld (P : Program) (os : Os) : World :=
  let N := (World.settled P os).heap.size
  let w0 := World.holding P os ⟨#[.cells #[.string ⟨(laidBytes Rows.laid_strconv_ErrRange).toArray⟩] 226, .cells #[.string ⟨(laidBytes Rows.laid_strconv_ErrSyntax).toArray⟩] 226,
    .cells (Lib.whiteT.map fun (z : Nat) => Value.int .u16 (z : Int)).toArray 206, .cells #[.slice (some ⟨N + 2, 0, none⟩) 7 7, .slice none 0 0, .int .i64 2] 203], #[], []⟩
  let put (h : Array Obj) (g : Nat) (cs : Array Value) : Array Obj := h.modify g fun
    | .cells _ t frozen => .cells cs t frozen
    | o => o
  let h1 := put w0.heap 2 (Lib.asciiSpaceTab.map fun z => Value.int .u8 z).toArray
  let h2 := put h1 0 (Lib.firstTab.map fun z => Value.int .u8 z).toArray
  let h3 := put h2 1 ((List.range 16).flatMap fun i => [Value.int .u8 (Lib.accLo i), Value.int .u8 (Lib.accHi i)]).toArray
  let h4 := put h3 3 #[.pointer (some ⟨N + 3, 0, none⟩)]
  let h5 := put h4 5 #[.iface 224 (.pointer (some ⟨N, 0, none⟩))]
  let h6 := put h5 4 #[.iface 224 (.pointer (some ⟨N + 1, 0, none⟩))]
  let h7 := put h6 8 (intsOf Rows.laid_math_bits_deBruijn32tab).toArray
  let h8 := put h7 9 (intsOf Rows.laid_math_bits_deBruijn64tab).toArray
  let h9 := put h8 7 (intsOf Rows.laid_internal_strconv_uint64pow10).toArray
  { w0 with heap := h9 }

theorem laid_met (os : Os) (args : Array Value) : laidMet Tryz.prog laidL ((laidWorld Tryz.prog os).forCall (fun _ _ => 0) ⟨#[], args, []⟩).memory :=
  laidMet_of_run3 8 (by kernel_rfl) (by kernel_rfl) (by kernel_rfl)

end Go.Proofs.YtmhaknejeobfgaaGreatDoor

/- Args. -/
namespace Go.Proofs.YtmhaknejeobfgaaGreatDoor
open Go.ChangeShapes Go.WideShapes Go.ChangeAt Go.RowKit
open Go.ChangeMaps (open_string shut_string)

theorem Tryz.cells_int : Tryz.prog.cellsOf 3 = 1 := by kernel_rfl

theorem lits_bulk {H : Type} : ∀ zs : List Int, Rows.uptoBulkAll (lits (H := H) .i64 zs) = zs.length
  | [] => by simp [lits, Rows.uptoBulkAll]
  | z :: zs => by
    have ih := lits_bulk (H := H) zs
    simp only [lits, List.map_cons, Rows.uptoBulkAll, Rows.uptoBulk, List.length_cons] at ih ⊢
    omega

theorem shut_nil_slice {H : Type} {enc : TypeId × Value → H} {P : Program} {w : World} {base : Nat} {spare : Nat → Bool} {held : Bool} {t e : TypeId} (ht : P.underlying t = some (.slice e)) : DataW.Trod enc P w base spare held t (.slice none 0 0) .nil [] :=
  ⟨1, by simp [DataW.trod, ht, Value.cells]⟩

set_option maxRecDepth 100000 in
/-- A list of numbers that came in: read by the walk, and read again behind it. -/
theorem nums_arg {H : Type} {enc : TypeId × Value → H} {W : World} {base : Nat} {v : Value} {d : DataW H} {p : List MemPlace} (hok : Value.okWide Tryz.prog W .any base 37 v) (h : DataW.Trod enc Tryz.prog W 0 (fun _ => true) true 37 v d p) :
    ∃ a n cp, v = .slice a n cp ∧ NumsIn W a n ∧ n + 1 ≤ Rows.uptoBulk d ∧ ∀ W', Fr (fun _ => False) W W' → DataW.Trod enc Tryz.prog W' 0 (fun b => decide (b < W.heap.size)) true 37 v d p := by
  obtain ⟨a0, len, cap, rfl⟩ := okWide_slice Tryz.underlying37 hok
  obtain ⟨fuel, hf⟩ := h
  rcases open_ints Tryz.underlying37 Tryz.underlying3 Tryz.cells_int hf with ⟨hcs, hx⟩ | ⟨a, len', cap', zs, hcs, hb, hl, hm, hz, hx, hcell, hwz⟩
  · simp [Value.cells] at hcs
    obtain ⟨rfl, rfl, rfl⟩ := hcs
    simp only [Prod.mk.injEq] at hx
    obtain ⟨rfl, rfl⟩ := hx
    refine ⟨none, 0, 0, rfl, fun j hj => by omega, ?_, fun W' _ => ?_⟩
    · simp [Rows.uptoBulk]
    · exact shut_nil_slice Tryz.underlying37
  · simp [Value.cells] at hcs
    obtain ⟨rfl, rfl, rfl⟩ := hcs
    simp only [Prod.mk.injEq] at hx
    obtain ⟨rfl, rfl⟩ := hx
    simp only [if_true] at hz
    have hin : ∀ j, j < zs.length → a = ⟨a.block, a.off, none⟩ ∧ W.cell? ⟨a.block, a.off + j, none⟩ = some (.int .i64 (zs.getD j 0)) ∧ a.block < W.heap.size := by
      intro j hj
      obtain ⟨b, off, spot⟩ := a
      have hspot : spot = none := by simpa [Addr.add] using World.cell?_spot (hcell 0 (by omega))
      subst hspot
      have hc := hcell j hj
      rw [add_plain] at hc
      exact ⟨rfl, hc, World.block_lt_of_cell? _ ⟨b, off + j, none⟩ hc⟩
    refine ⟨some a, len, cap, rfl, fun j hj => ?_, ?_, fun W' f => ?_⟩
    · obtain ⟨h1, h2, h3⟩ := hin j (by omega)
      have hr := int_range (hwz (zs.getD j 0) (by
        have : zs.getD j 0 = zs[j]'(by omega) := by simp [List.getD, show j < zs.length by omega]
        rw [this]
        exact List.getElem_mem _))
      exact ⟨a.block, a.off, zs.getD j 0, congrArg some h1, h2, hr.1, hr.2, h3⟩
    · simp only [Rows.uptoBulk, lits_bulk, List.length_take]
      omega
    · refine ⟨0 + 2, shut_ints 0 Tryz.underlying37 Tryz.underlying3 Tryz.cells_int (Nat.zero_le _) hl hm ?_ (fun j hj => ?_) hwz⟩
      · by_cases hc : 0 < zs.length
        · rw [if_pos (by simpa using (hin 0 hc).2.2)]
          exact hz
        · have : zs.length = 0 := by omega
          split <;> omega
      · obtain ⟨h1, h2, h3⟩ := hin j hj
        rw [h1, add_plain]
        exact f.cell id h3 h2

end Go.Proofs.YtmhaknejeobfgaaGreatDoor

/- ArgsC. -/
namespace Go.Proofs.YtmhaknejeobfgaaGreatDoor
open Go.ChangeShapes Go.WideShapes Go.ChangeAt Go.RowKit Go.Deep

theorem Tryz.cells_chunk : Tryz.prog.cellsOf 144 = 2 := by kernel_rfl
theorem Tryz.cells_string : Tryz.prog.cellsOf 9 = 1 := by kernel_rfl

/-- A list of chunks that came in. -/
structure ChArg (w : World) (a : Option Addr) (L : List Chk) (cp : Nat) : Prop where
  ch : ChunksIn w w.heap.size a L
  le : L.length ≤ cp
  cap : cp ≤ maxLen
  nil : a = none → cp = 0

/-- What chunks weigh. -/
theorem chunks_bulk {H : Type} (K : Nat → Int) (S : Nat → ByteArray) : ∀ l : List Nat, Rows.uptoBulkAll (l.map fun i => (.agg [.lit (.int .i64 (K i)), .lit (.string (S i).data.toList)] : DataW H)) = (bytesOf (l.map fun i => (K i, (S i).data.toList))).length + 3 * l.length
  | [] => by simp [Rows.uptoBulkAll, bytesOf]
  | z :: zs => by
    have ih := chunks_bulk (H := H) K S zs
    simp only [List.map_cons, Rows.uptoBulkAll, Rows.uptoBulk, List.length_cons, bytesOf, List.flatMap_cons, List.length_append] at ih ⊢
    omega

set_option maxRecDepth 100000 in
/-- A list of chunks that came in: read by the walk, and read again behind it. -/
theorem chunks_arg {H : Type} {enc : TypeId × Value → H} {W : World} {base : Nat} {v : Value} {d : DataW H} {p : List MemPlace} (hok : Value.okWide Tryz.prog W .any base 59 v) (h : DataW.Trod enc Tryz.prog W 0 (fun _ => true) true 59 v d p) :
    ∃ a cp L, v = .slice a L.length cp ∧ ChArg W a L cp ∧ (bytesOf L).length + L.length + 1 ≤ Rows.uptoBulk d ∧ ∀ W', Fr (fun _ => False) W W' → DataW.Trod enc Tryz.prog W' 0 (fun b => decide (b < W.heap.size)) true 59 v d p := by
  obtain ⟨a0, len, cap, rfl⟩ := okWide_slice Tryz.underlying59 hok
  obtain ⟨fuel, hf⟩ := h
  rcases open_slice_pairs Tryz.underlying59 Tryz.underlying144 Tryz.cells_chunk rfl rfl Tryz.cells_int Tryz.cells_string hf with ⟨hcs, hx⟩ | ⟨a, len', cap', m, n, V0, V1, D0, D1, P0, P1, hcs, hb, hl, hm, hmm, hx, hi⟩
  · simp [Value.cells] at hcs
    obtain ⟨rfl, rfl, rfl⟩ := hcs
    simp only [Prod.mk.injEq] at hx
    obtain ⟨rfl, rfl⟩ := hx
    refine ⟨none, 0, [], rfl, ⟨fun j c hj => (by cases hj), Nat.le_refl _, Nat.zero_le _, fun _ => rfl⟩, ?_, fun W' _ => ?_⟩
    · simp [Rows.uptoBulk, bytesOf]
    · exact shut_nil_slice Tryz.underlying59
  · simp [Value.cells] at hcs
    obtain ⟨rfl, rfl, rfl⟩ := hcs
    simp only [Prod.mk.injEq] at hx
    obtain ⟨rfl, rfl⟩ := hx
    simp only [if_true] at hmm
    subst hmm
    have each : ∀ i, i < m → ∃ q : Int × ByteArray, V0 i = .int .i64 q.1 ∧ V1 i = .string q.2 ∧ D0 i = .lit (.int .i64 q.1) ∧ D1 i = .lit (.string q.2.data.toList) ∧ P0 i = [] ∧ P1 i = [] ∧ (Lit.int .i64 q.1).wf = true ∧ q.2.size ≤ maxLen := by
      intro i him
      obtain ⟨h1, h2, h3, h4⟩ := hi i him
      obtain ⟨z, z1, z2, z3⟩ := DataW.trod_int Tryz.underlying3 h3
      obtain ⟨s, s1, s2, s3⟩ := DataW.trod_string Tryz.underlying9 h4
      simp only [Prod.mk.injEq, List.cons.injEq, and_true] at z1 z2 s1 s2
      exact ⟨(z, s), z1, s1, z2.1, s2.1, z2.2, s2.2, z3, s3⟩
    obtain ⟨q, hq⟩ := choose_lt (α := Int × ByteArray) each
    have hin : ∀ i, i < m → a = ⟨a.block, a.off, none⟩ ∧ W.cell? ⟨a.block, a.off + i * 2, none⟩ = some (.int .i64 (q i).1) ∧ W.cell? ⟨a.block, a.off + i * 2 + 1, none⟩ = some (.string (q i).2) ∧ a.block < W.heap.size := by
      intro i him
      obtain ⟨b, off, spot⟩ := a
      have hspot : spot = none := by
        have := World.cell?_spot (hi 0 (by omega)).1
        simpa [Addr.add] using this
      subst hspot
      have h1 := (hi i him).1
      have h2 := (hi i him).2.1
      rw [add_plain, (hq i him).1] at h1
      rw [add_plain, (hq i him).2.1, ← Nat.add_assoc] at h2
      exact ⟨rfl, h1, h2, World.block_lt_of_cell? _ ⟨b, off + i * 2, none⟩ h1⟩
    have hlen : ((List.range len).map fun i => ((q i).1, (q i).2.data.toList)).length = len := by simp
    refine ⟨some a, m, (List.range len).map fun i => ((q i).1, (q i).2.data.toList), by rw [hlen], ⟨fun j c hj => ?_, by rw [hlen]; exact hl, hm, fun h => (by cases h)⟩, ?_, fun W' f => ?_⟩
    · have hjl : j < len := by
        have := (List.getElem?_eq_some_iff.1 hj).1
        omega
      have hc : c = ((q j).1, (q j).2.data.toList) := by
        simp [hjl] at hj
        exact hj.symm
      subst hc
      obtain ⟨h1, h2, h3, h4⟩ := hin j (by omega)
      have hr := int_range (hq j (by omega)).2.2.2.2.2.2.1
      exact ⟨a.block, a.off, congrArg some h1, h4, h4, h2, h3, hr.1, hr.2⟩
    · have e1 : (List.range len).map (fun i => DataW.agg [D0 i, D1 i]) = (List.range len).map fun i => (.agg [.lit (.int .i64 (q i).1), .lit (.string (q i).2.data.toList)] : DataW H) := List.map_congr_left fun i hi' => by
        have him : i < m := by have := List.mem_range.1 hi'; omega
        rw [(hq i him).2.2.1, (hq i him).2.2.2.1]
      simp only [Rows.uptoBulk]
      rw [e1, chunks_bulk, hlen, List.length_range]
      omega
    · by_cases hm0 : 0 < m
      · have ha := (hin 0 hm0).1
        have hbl := (hin 0 hm0).2.2.2
        rw [ha]
        exact shut_slice_pairs_whole Tryz.underlying59 Tryz.underlying144 Tryz.cells_chunk rfl rfl Tryz.cells_int Tryz.cells_string (Nat.zero_le _) hl hm (by simpa using hbl) (fun i => .int .i64 (q i).1) (fun i => .string (q i).2) D0 D1 P0 P1
          (fun i him => f.cell id hbl (hin i him).2.1) (fun i him => f.cell id hbl (hin i him).2.2.1)
          (fun i him => ⟨1, by rw [(hq i him).2.2.1, (hq i him).2.2.2.2.1]; exact trod_int_mk 0 Tryz.underlying3 (hq i him).2.2.2.2.2.2.1⟩)
          (fun i him => ⟨1, by rw [(hq i him).2.2.2.1, (hq i him).2.2.2.2.2.1]; have := (hq i him).2.2.2.2.2.2.2; simp [DataW.trod, Tryz.underlying9, this]⟩)
      · obtain rfl : m = 0 := by omega
        obtain rfl : len = 0 := by omega
        refine ⟨1, ?_⟩
        simp [DataW.trod, Tryz.underlying59, Value.cells, MemPlace.row]

end Go.Proofs.YtmhaknejeobfgaaGreatDoor

/- Streams1. -/
namespace Go.Proofs.YtmhaknejeobfgaaGreatDoor
open Go.RowKit Go.Proofs.YtmhaknejeobfgaaGreatDoor.Stable Go.Proofs.YtmhaknejeobfgaaGreatDoor.Order Go.Proofs.YtmhaknejeobfgaaGreatDoor.Points
attribute [local go_sem ↓] Go.wp_at_zero Go.wp_at_succ

theorem num_any (n : Int) (w : World) :
    Calls Tryz.prog 18 #[.int .i64 n] w fun e w' => e = .returned (.int .i64 n) ∧ w' = w := by
  go_enter Tryz.func18, Tryz.ntmps18
  go_wp2
  go_ret
  exact ⟨rfl, rfl⟩

set_option maxRecDepth 100000 in
set_option maxHeartbeats 1600000 in
theorem streams_by {m : Int} {a1 a2 : Option Addr} {n1 c1 n2 c2 : Nat} {w : World} {sg ra rb ha hb er : Int}
    (HC1 : Hid (∀ w', Fr (fun _ => False) w w' → Calls Tryz.prog 31 #[.int .i64 m, .slice a1 n1 c1, .slice a2 n2 c2] w' fun e w'' => e = .returned (.tuple #[.agg #[.int .i64 sg, .int .i64 ra, .int .i64 rb, .int .i64 ha, .int .i64 hb], .int .i64 er]) ∧ Fr (fun _ => False) w' w''))
    (HC2 : Hid (∀ w', Fr (fun _ => False) w w' → Calls Tryz.prog 32 #[.int .i64 m, .slice a1 n1 c1, .slice a2 n2 c2] w' fun e w'' => e = .returned (.tuple #[.agg #[.int .i64 sg, .int .i64 ra, .int .i64 rb, .int .i64 ha, .int .i64 hb], .int .i64 er]) ∧ Fr (fun _ => False) w' w'')) :
    Calls Tryz.prog 13 #[.int .i64 m, .slice a1 n1 c1, .slice a2 n2 c2] w fun e w' => e = .returned (.bool true) ∧ Fr (fun _ => False) w w' := by
  go_enter Tryz.func13, Tryz.ntmps13
  go_upto_region 2 with (go_at_call 31; refine (HC1.out _ (Fr.refl _ _)).mono ?_; rintro e w1 ⟨rfl, hf1⟩; have HF1 : Hid (Fr (fun _ => False) w w1) := hf1; clear hf1)
  change Code.wp _ _ _ _ (w1.alloc (outC sg ra rb ha hb))
  have HF2 : Hid (Fr (fun _ => False) w (w1.alloc (outC sg ra rb ha hb)) ∧ (w1.alloc (outC sg ra rb ha hb)).heap[w1.heap.size]? = some (outC sg ra rb ha hb)) := ⟨HF1.out.alloc _, heap_alloc_new w1 _⟩
  obtain ⟨vo, hvo⟩ : ∃ v, v = w1.heap.size := ⟨_, rfl⟩
  rw [← hvo] at HF2 ⊢
  clear hvo HF1
  generalize w1.alloc (outC sg ra rb ha hb) = w2 at *
  go_upto_region 3 with (go_at_call 32; refine (HC2.out _ HF2.out.1).mono ?_; rintro e w3 ⟨rfl, hf3⟩; have HF3 : Hid (Fr (fun _ => False) w w3 ∧ w3.heap[vo]? = some (outC sg ra rb ha hb)) := ⟨HF2.out.1.trans hf3 (fun _ _ h => h), (hf3.block vo (lt_of HF2.out.2) id).trans HF2.out.2⟩; clear hf3)
  change Code.wp _ _ _ _ (w3.alloc (outC sg ra rb ha hb))
  have f4 : Fr (fun _ => False) w3 (w3.alloc (outC sg ra rb ha hb)) := (Fr.refl _ _).alloc _
  have HF4 : Hid (Fr (fun _ => False) w (w3.alloc (outC sg ra rb ha hb)) ∧ (w3.alloc (outC sg ra rb ha hb)).heap[vo]? = some (outC sg ra rb ha hb) ∧ (w3.alloc (outC sg ra rb ha hb)).heap[w3.heap.size]? = some (outC sg ra rb ha hb)) := ⟨HF3.out.1.alloc _, (f4.block vo (lt_of HF3.out.2) id).trans HF3.out.2, heap_alloc_new w3 _⟩
  obtain ⟨vp, hvp⟩ : ∃ v, v = w3.heap.size := ⟨_, rfl⟩
  rw [← hvp] at HF4 ⊢
  clear hvp HF3 f4
  generalize w3.alloc (outC sg ra rb ha hb) = w4 at *
  have o0 : w4.cell? ⟨vo, 0, none⟩ = some (.int .i64 sg) := cell_of HF4.out.2.1 rfl
  have o1 : w4.cell? ⟨vo, 1, none⟩ = some (.int .i64 ra) := cell_of HF4.out.2.1 rfl
  have o2 : w4.cell? ⟨vo, 2, none⟩ = some (.int .i64 rb) := cell_of HF4.out.2.1 rfl
  have o3 : w4.cell? ⟨vo, 3, none⟩ = some (.int .i64 ha) := cell_of HF4.out.2.1 rfl
  have o4 : w4.cell? ⟨vo, 4, none⟩ = some (.int .i64 hb) := cell_of HF4.out.2.1 rfl
  have p0 : w4.cell? ⟨vp, 0, none⟩ = some (.int .i64 sg) := cell_of HF4.out.2.2 rfl
  have p1 : w4.cell? ⟨vp, 1, none⟩ = some (.int .i64 ra) := cell_of HF4.out.2.2 rfl
  have p2 : w4.cell? ⟨vp, 2, none⟩ = some (.int .i64 rb) := cell_of HF4.out.2.2 rfl
  have p3 : w4.cell? ⟨vp, 3, none⟩ = some (.int .i64 ha) := cell_of HF4.out.2.2 rfl
  have p4 : w4.cell? ⟨vp, 4, none⟩ = some (.int .i64 hb) := cell_of HF4.out.2.2 rfl
  go_wp2_with (go_at_call 18; refine (num_any er _).mono ?_; rintro e w' ⟨rfl, hw⟩; have hw' := hw.symm; subst hw'; clear hw)
  go_ret
  exact ⟨rfl, HF4.out.1⟩

set_option maxRecDepth 100000 in
set_option maxHeartbeats 1600000 in
theorem streams_walk (m : Int) (a1 a2 : Option Addr) (c1 c2 : Nat) (A B : List Chk) (w : World) (hE : Env w) (hA : ChunksIn w w.heap.size a1 A) (hB : ChunksIn w w.heap.size a2 B) (hbd : (bytesOf A).length + A.length + ((bytesOf B).length + B.length) ≤ 1048576) :
    Calls Tryz.prog 13 #[.int .i64 m, .slice a1 A.length c1, .slice a2 B.length c2] w fun e w' => e = .returned (.bool true) ∧ Fr (fun _ => False) w w' := by
  have HA : Hid (ChunksIn w w.heap.size a1 A ∧ ChunksIn w w.heap.size a2 B ∧ (bytesOf A).length + A.length ≤ 1048576 ∧ (bytesOf B).length + B.length ≤ 1048576) := ⟨hA, hB, by omega, by omega⟩
  have HE : Hid (Env w) := hE
  clear hA hB hbd hE
  by_cases hm : 0 ≤ m ∧ m ≤ 3
  · obtain ⟨G, hG⟩ : ∃ G, G = strm m A B := ⟨_, rfl⟩
    have hc1 := fun w' (f : Fr (fun _ => False) w w') => (stream_calls m a1 a2 c1 c2 A B w' hm.1 hm.2 (HE.out.kept f (fun _ _ => id)) ((HA.out.1.kept f (fun _ _ => id)).mono f.size) ((HA.out.2.1.kept f (fun _ _ => id)).mono f.size) (by have := HA.out.2.2; omega) (by have := HA.out.2.2; omega) (by have := HA.out.2.2; omega) (by have := HA.out.2.2; omega))
    have hc2 := fun w' (f : Fr (fun _ => False) w w') => (rstream_calls m a1 a2 c1 c2 A B w' hm.1 hm.2 ((HA.out.1.kept f (fun _ _ => id)).mono f.size) ((HA.out.2.1.kept f (fun _ _ => id)).mono f.size) HA.out.2.2.1 HA.out.2.2.2)
    rw [← hG] at hc1 hc2
    obtain ⟨n1, hn1⟩ : ∃ n1, n1 = A.length := ⟨_, rfl⟩
    obtain ⟨n2, hn2⟩ : ∃ n2, n2 = B.length := ⟨_, rfl⟩
    rw [← hn1, ← hn2] at hc1 hc2 ⊢
    obtain ⟨er, her⟩ : ∃ er, er = G.err := ⟨_, rfl⟩
    obtain ⟨sg, hsg⟩ : ∃ x, x = G.sign := ⟨_, rfl⟩
    obtain ⟨ra, hra⟩ : ∃ x : Int, x = G.ra := ⟨_, rfl⟩
    obtain ⟨rb, hrb⟩ : ∃ x : Int, x = G.rb := ⟨_, rfl⟩
    obtain ⟨ha, hha⟩ : ∃ x : Int, x = G.ha := ⟨_, rfl⟩
    obtain ⟨hb, hhb⟩ : ∃ x : Int, x = G.hb := ⟨_, rfl⟩
    rw [← her, ← hsg, ← hra, ← hrb, ← hha, ← hhb] at hc1 hc2
    have HC1 : Hid (∀ w', Fr (fun _ => False) w w' → Calls Tryz.prog 31 #[.int .i64 m, .slice a1 n1 c1, .slice a2 n2 c2] w' fun e w'' => e = .returned (.tuple #[.agg #[.int .i64 sg, .int .i64 ra, .int .i64 rb, .int .i64 ha, .int .i64 hb], .int .i64 er]) ∧ Fr (fun _ => False) w' w'') := hc1
    have HC2 : Hid (∀ w', Fr (fun _ => False) w w' → Calls Tryz.prog 32 #[.int .i64 m, .slice a1 n1 c1, .slice a2 n2 c2] w' fun e w'' => e = .returned (.tuple #[.agg #[.int .i64 sg, .int .i64 ra, .int .i64 rb, .int .i64 ha, .int .i64 hb], .int .i64 er]) ∧ Fr (fun _ => False) w' w'') := hc2
    exact streams_by HC1 HC2
  · have hm' : m < 0 ∨ 3 < m := by omega
    have HM : Hid (m < 0 ∨ 3 < m) := hm'
    clear hm hm'
    exact streams_by (Hid.mk0 (fun w' _ => stream_none m a1 a2 _ c1 _ c2 w' HM.out)) (Hid.mk0 (fun w' _ => rstream_none m a1 a2 _ c1 _ c2 w' HM.out))

end Go.Proofs.YtmhaknejeobfgaaGreatDoor

/- ConStreams. -/
namespace Go.Proofs.YtmhaknejeobfgaaGreatDoor.streamsProof
open Go.ChangeShapes Go.WideShapes Go.ChangeAt Go.RowKit
open Go.ChangeMaps (open_string shut_string)

set_option maxRecDepth 100000 in
theorem contract (H : Type) (enc : TypeId × Value → H) (F : Stop.Interp) (W : World) (base : Nat) (args : Array Value) (ds gs : List (DataW H)) (before : List MemPlace)
    (hval : ∀ (j : Nat) t v, Tryz.f13.params[j]? = some t → args[j]? = some v → Value.okWide Tryz.prog W .any base t v)
    (hW : DataW.Whole enc Tryz.prog Tryz.f13.params.toList (Rows.OpenSpec.upto Rows.streamsSpec).vars false W args.toList ds gs before)
    (hcond : ∀ k, (Rows.OpenSpec.upto Rows.streamsSpec).cond = some k → k H (ds ++ gs) = true) (hL : laidMetH Tryz.prog laidL W) (hsh : W.ShapedOpen Tryz.prog) :
    Calls Tryz.prog 13 args W fun e W' => ∃ v, e = .returned v ∧ ((Rows.OpenSpec.upto Rows.streamsSpec).at F).post enc Tryz.prog Tryz.f13 false true false false W args v W' := by
  have hW' := hW
  obtain ⟨p, q, hA0, hV0, rfl, _, _⟩ := hW
  have hA : DataW.TrodAll enc Tryz.prog W 0 (fun _ => true) true Tryz.f13.params.toList args.toList ds p := hA0
  rw [Tryz.params13] at hA hval
  obtain ⟨v0, vs0, d0, ds0, p0, q0, hargs, rfl, rfl, h0, t0⟩ := trodAll_cons hA
  obtain ⟨v1, vs1, d1, ds1, p1, q1, rfl, rfl, rfl, h1, t1⟩ := trodAll_cons t0
  obtain ⟨v2, vs2, d2, ds2, p2, q2, rfl, rfl, rfl, h2, t2⟩ := trodAll_cons t1
  obtain ⟨rfl, rfl, rfl⟩ := trodAll_nil t2
  obtain rfl : args = #[v0, v1, v2] := by cases args; simp_all
  obtain ⟨rfl, rfl⟩ := trodVars_none hV0
  obtain ⟨x0, rfl, rfl, rfl, w0⟩ := open_int Tryz.underlying3 (hval 0 3 v0 rfl rfl) h0
  obtain ⟨a1, c1, L1, rfl, i1, u1, s1⟩ := chunks_arg (hval 1 59 v1 rfl rfl) h1
  obtain ⟨a2, c2, L2, rfl, i2, u2, s2⟩ := chunks_arg (hval 2 59 v2 rfl rfl) h2
  clear hA0
  simp only [List.append_nil] at hW' hcond
  have hk := hcond Rows.uptoSmall rfl
  have hb : (bytesOf L1).length + L1.length + (bytesOf L2).length + L2.length ≤ 1048576 := by
    have h := of_decide_eq_true hk
    simp only [Rows.uptoBulkAll, Rows.uptoBulk] at h
    omega
  have r0 := int_range w0
  refine (streams_walk x0 a1 a2 c1 c2 L1 L2 W (env_of hL hsh) i1.ch i2.ch (by omega)).mono ?_
  rintro e W' ⟨rfl, hf⟩
  have bel := hf.below
  refine ⟨_, rfl, [.lit (.int .i64 x0), d1, d2], [], _, [], ([] ++ (p1 ++ (p2 ++ []))), [], hW', ?_, ?_, ?_, bel.frame _, fun h => by cases h⟩
  · exact trodAll_mk1 (shut_bool Tryz.underlying4 _)
  · exact (trodAll_cons_mk (shut_int Tryz.underlying3 w0) (trodAll_cons_mk (s1 W' hf) (trodAll_cons_mk (s2 W' hf) trodAll_mk0)))
  · rfl

end Go.Proofs.YtmhaknejeobfgaaGreatDoor.streamsProof
