/- What the listed variables give at the call's first world, and a world that holds them. Lists that came in: read by the walk, and read again behind it. Lists of chunks that came in: read by the walk, and read again behind it. The laws' own faults: the first chunk at which a source gives up, and why. The law Faulty, walked: it answers true. What the law Faulty asks of its arguments, and what its walk gives. -/
import Derived.Test.YtmhaknejeobfgabGreatDoorTables
import Derived.Test.YtmhaknejeobfgabGreatDoorBase
import Derived.Test.YtmhaknejeobfgabGreatDoorShelf
import Derived.Test.YtmhaknejeobfgabGreatDoorRows
import Derived.Deep.DeepHandedRow
import Derived.Deep.DeepWitnessRowRef
import Derived.Lib.LaidTab
import Derived.Lib.LaidU8
import Derived.ProofKit
import Derived.Deep.DeepLaidRun
import Derived.Test.YtmhaknejeobfgabGreatDoorKeys
import Derived.OpenShut
import Derived.ChangeSlices
import Derived.Test.YtmhaknejeobfgabGreatDoorChReads
import Derived.Deep.SlicePairs
import Derived.Test.YtmhaknejeobfgabGreatDoorChPlain
import Derived.Test.YtmhaknejeobfgabGreatDoorQueues
import Derived.Test.YtmhaknejeobfgabGreatDoorDigesting

/- Frame. -/
namespace Go.Proofs.YtmhaknejeobfgabGreatDoor
open Go.RowKit Go.ChangeShapes Go.WideShapes Go.ChangeAt

theorem own : ownKnob Tryz.prog.godebug = none := by kernel_rfl

theorem int_range {raw : Int} (h : (Lit.int .i64 raw).wf = true) : -9223372036854775808 ≤ raw ∧ raw ≤ 9223372036854775807 := by
  have h' : (decide (IntKind.i64.min ≤ raw) && decide (raw ≤ IntKind.i64.max)) = true := h
  rw [Bool.and_eq_true, decide_eq_true_eq, decide_eq_true_eq] at h'
  have e1 : IntKind.i64.min = -9223372036854775808 := by decide
  have e2 : IntKind.i64.max = 9223372036854775807 := by decide
  rw [e1, e2] at h'
  exact h'

/-- What the rows list. -/
def laidL : List (String × DataW Unit) := Rows.chunkedUptoRow.laid

theorem laid_first : ("unicode/utf8.first", Lib.firstData) ∈ laidL := by
  have : laidL[8]? = some ("unicode/utf8.first", Lib.firstData) := by kernel_rfl
  exact List.mem_of_getElem? this

theorem laid_accept : ("unicode/utf8.acceptRanges", Lib.acceptData) ∈ laidL := by
  have : laidL[3]? = some ("unicode/utf8.acceptRanges", Lib.acceptData) := by kernel_rfl
  exact List.mem_of_getElem? this

theorem laid_space : ("strings.asciiSpace", Lib.tabData .u8 Lib.asciiSpaceTab) ∈ laidL := by
  have : laidL[7]? = some ("strings.asciiSpace", Lib.tabData .u8 Lib.asciiSpaceTab) := by kernel_rfl
  exact List.mem_of_getElem? this

theorem gSpace : Tryz.prog.globalNamed "strings.asciiSpace" = some 2 := by kernel_rfl
theorem gSpaceType : (Tryz.prog.globals[2]?).map (·.type) = some 179 := by kernel_rfl
theorem cellsTab : Tryz.prog.cellsOf 179 = 256 := by kernel_rfl
theorem cellsByte : Tryz.prog.cellsOf 5 = 1 := by kernel_rfl

theorem tabIs_of_reads {P : Program} {W : World} {name : String} {k : IntKind} {zs : List Int} {g : Nat} {t e : TypeId} {n : Nat}
    (hg : P.globalNamed name = some g) (hty : (P.globals[g]?).map (·.type) = some t) (ht : P.underlying t = some (.array n e)) (he : P.underlying e = some (.int k)) (hce : P.cellsOf e = 1) (hct : P.cellsOf t = n)
    (h : Lib.VarReads P W name (Lib.tabData k zs)) : Lib.TabIs P W name k zs := by
  obtain ⟨g', t', cs, fuel, p, hg', ht', hvar, hd⟩ := h
  obtain rfl := Option.some.inj (hg.symm.trans hg')
  obtain rfl := Option.some.inj (hty.symm.trans ht')
  unfold Lib.TabIs
  rw [hvar, ← Lib.cells_of_tab ht he hce hct hd]

/-- WHAT THE LIST AND THE WORLD'S SHAPE GIVE: all that the walks ask of the globals. -/
theorem env_of {W : World} (hL : laidMetH Tryz.prog laidL W) (hsh : W.ShapedOpen Tryz.prog) : Env W := by
  have hM : laidMet Tryz.prog laidL W := hL
  refine ⟨?_, Tryz.laysM219.s1_3 W hsh, ?_, ?_⟩
  · obtain ⟨cs, h, _⟩ := hsh.1 10 #[.pointer none] 206 (by decide +kernel) (by kernel_rfl)
    exact lt_of h
  · exact tabIs_of_reads gSpace gSpaceType Tryz.underlying179 Tryz.underlying5 cellsByte cellsTab (Lib.laidMet.reads hM laid_space)
  · exact utf8Tabs_of_reads { Tryz.lays260 with } ⟨by kernel_rfl, by kernel_rfl, by kernel_rfl, by kernel_rfl, by kernel_rfl, by kernel_rfl, by kernel_rfl⟩ (Lib.laidMet.reads hM laid_first) (Lib.laidMet.reads hM laid_accept)

/-- The bytes of a listed text. -/
def laidBytes : DataW Unit → List UInt8
  | .iface _ (.ptr (.agg [.lit (.string l)])) => l
  | _ => []

def intsOf : DataW Unit → List Value
  | .agg l => l.map fun | .lit (.int k z) => .int k z | _ => .bool false
  | _ => []

/-- A WORLD FOR THE WITNESS: the settled one with four blocks more (the texts of two errors; a table's ranges; the table), the nine listed variables holding what their initialisers lay. -/
def laidWorld (P : Program) (os : Os) : World :=
  let N := (World.settled P os).heap.size
  let w0 := World.holding P os ⟨#[.cells #[.string ⟨(laidBytes Rows.laid_strconv_ErrRange).toArray⟩] 241, .cells #[.string ⟨(laidBytes Rows.laid_strconv_ErrSyntax).toArray⟩] 241,
    .cells (Lib.whiteT.map fun (z : Nat) => Value.int .u16 (z : Int)).toArray 220, .cells #[.slice (some ⟨N + 2, 0, none⟩) 7 7, .slice none 0 0, .int .i64 2] 217], #[], []⟩
  let put (h : Array Obj) (g : Nat) (cs : Array Value) : Array Obj := h.modify g fun
    | .cells _ t frozen => .cells cs t frozen
    | o => o
  let h1 := put w0.heap 2 (Lib.asciiSpaceTab.map fun z => Value.int .u8 z).toArray
  let h2 := put h1 0 (Lib.firstTab.map fun z => Value.int .u8 z).toArray
  let h3 := put h2 1 ((List.range 16).flatMap fun i => [Value.int .u8 (Lib.accLo i), Value.int .u8 (Lib.accHi i)]).toArray
  let h4 := put h3 3 #[.pointer (some ⟨N + 3, 0, none⟩)]
  let h5 := put h4 5 #[.iface 239 (.pointer (some ⟨N, 0, none⟩))]
  let h6 := put h5 4 #[.iface 239 (.pointer (some ⟨N + 1, 0, none⟩))]
  let h7 := put h6 8 (intsOf Rows.laid_math_bits_deBruijn32tab).toArray
  let h8 := put h7 9 (intsOf Rows.laid_math_bits_deBruijn64tab).toArray
  let h9 := put h8 7 (intsOf Rows.laid_internal_strconv_uint64pow10).toArray
  { w0 with heap := h9 }

theorem laid_met (os : Os) (args : Array Value) : laidMet Tryz.prog laidL ((laidWorld Tryz.prog os).forCall (fun _ _ => 0) ⟨#[], args, []⟩).memory :=
  laidMet_of_run3 8 (by kernel_rfl) (by kernel_rfl) (by kernel_rfl)

end Go.Proofs.YtmhaknejeobfgabGreatDoor

/- Args. -/
namespace Go.Proofs.YtmhaknejeobfgabGreatDoor
open Go.ChangeShapes Go.WideShapes Go.ChangeAt Go.RowKit
open Go.ChangeMaps (open_string shut_string)

theorem Tryz.cells_int : Tryz.prog.cellsOf 3 = 1 := by kernel_rfl

theorem lits_bulk {H : Type} : ∀ zs : List Int, Rows.uptoBulkAll (lits (H := H) .i64 zs) = zs.length
  | [] => by simp [lits, Rows.uptoBulkAll]
  | z :: zs => by
    have ih := lits_bulk (H := H) zs
    simp only [lits, List.map_cons, Rows.uptoBulkAll, Rows.uptoBulk, List.length_cons] at ih ⊢
    omega

theorem shut_nil_slice {H : Type} {enc : TypeId × Value → H} {P : Program} {w : World} {base : Nat} {spare : Nat → Bool} {held : Bool} {t e : TypeId} (ht : P.underlying t = some (.slice e)) : DataW.Trod enc P w base spare held t (.slice none 0 0) .nil [] :=
  ⟨1, by simp [DataW.trod, ht, Value.cells]⟩

set_option maxRecDepth 100000 in
/-- A list of numbers that came in: read by the walk, and read again behind it. -/
theorem nums_arg {H : Type} {enc : TypeId × Value → H} {W : World} {base : Nat} {v : Value} {d : DataW H} {p : List MemPlace} (hok : Value.okWide Tryz.prog W .any base 31 v) (h : DataW.Trod enc Tryz.prog W 0 (fun _ => true) true 31 v d p) :
    ∃ a n cp, v = .slice a n cp ∧ NumsIn W a n ∧ n + 1 ≤ Rows.uptoBulk d ∧ ∀ W', Fr (fun _ => False) W W' → DataW.Trod enc Tryz.prog W' 0 (fun b => decide (b < W.heap.size)) true 31 v d p := by
  obtain ⟨a0, len, cap, rfl⟩ := okWide_slice Tryz.underlying31 hok
  obtain ⟨fuel, hf⟩ := h
  rcases open_ints Tryz.underlying31 Tryz.underlying3 Tryz.cells_int hf with ⟨hcs, hx⟩ | ⟨a, len', cap', zs, hcs, hb, hl, hm, hz, hx, hcell, hwz⟩
  · simp [Value.cells] at hcs
    obtain ⟨rfl, rfl, rfl⟩ := hcs
    simp only [Prod.mk.injEq] at hx
    obtain ⟨rfl, rfl⟩ := hx
    refine ⟨none, 0, 0, rfl, fun j hj => by omega, ?_, fun W' _ => ?_⟩
    · simp [Rows.uptoBulk]
    · exact shut_nil_slice Tryz.underlying31
  · simp [Value.cells] at hcs
    obtain ⟨rfl, rfl, rfl⟩ := hcs
    simp only [Prod.mk.injEq] at hx
    obtain ⟨rfl, rfl⟩ := hx
    simp only [if_true] at hz
    have hin : ∀ j, j < zs.length → a = ⟨a.block, a.off, none⟩ ∧ W.cell? ⟨a.block, a.off + j, none⟩ = some (.int .i64 (zs.getD j 0)) ∧ a.block < W.heap.size := by
      intro j hj
      obtain ⟨b, off, spot⟩ := a
      have hspot : spot = none := by simpa [Addr.add] using World.cell?_spot (hcell 0 (by omega))
      subst hspot
      have hc := hcell j hj
      rw [add_plain] at hc
      exact ⟨rfl, hc, World.block_lt_of_cell? _ ⟨b, off + j, none⟩ hc⟩
    refine ⟨some a, len, cap, rfl, fun j hj => ?_, ?_, fun W' f => ?_⟩
    · obtain ⟨h1, h2, h3⟩ := hin j (by omega)
      have hr := int_range (hwz (zs.getD j 0) (by
        have : zs.getD j 0 = zs[j]'(by omega) := by simp [List.getD, show j < zs.length by omega]
        rw [this]
        exact List.getElem_mem _))
      exact ⟨a.block, a.off, zs.getD j 0, congrArg some h1, h2, hr.1, hr.2, h3⟩
    · simp only [Rows.uptoBulk, lits_bulk, List.length_take]
      omega
    · refine ⟨0 + 2, shut_ints 0 Tryz.underlying31 Tryz.underlying3 Tryz.cells_int (Nat.zero_le _) hl hm ?_ (fun j hj => ?_) hwz⟩
      · by_cases hc : 0 < zs.length
        · rw [if_pos (by simpa using (hin 0 hc).2.2)]
          exact hz
        · have : zs.length = 0 := by omega
          split <;> omega
      · obtain ⟨h1, h2, h3⟩ := hin j hj
        rw [h1, add_plain]
        exact f.cell id h3 h2

end Go.Proofs.YtmhaknejeobfgabGreatDoor

/- ArgsC. -/
namespace Go.Proofs.YtmhaknejeobfgabGreatDoor
open Go.ChangeShapes Go.WideShapes Go.ChangeAt Go.RowKit Go.Deep

theorem Tryz.cells_chunk : Tryz.prog.cellsOf 49 = 2 := by kernel_rfl
theorem Tryz.cells_string : Tryz.prog.cellsOf 9 = 1 := by kernel_rfl

/-- A list of chunks that came in. -/
structure ChArg (w : World) (a : Option Addr) (L : List Chk) (cp : Nat) : Prop where
  ch : ChunksIn w w.heap.size a L
  le : L.length ≤ cp
  cap : cp ≤ maxLen
  nil : a = none → cp = 0

/-- What chunks weigh. -/
theorem chunks_bulk {H : Type} (K : Nat → Int) (S : Nat → ByteArray) : ∀ l : List Nat, Rows.uptoBulkAll (l.map fun i => (.agg [.lit (.int .i64 (K i)), .lit (.string (S i).data.toList)] : DataW H)) = (bytesOf (l.map fun i => (K i, (S i).data.toList))).length + 3 * l.length
  | [] => by simp [Rows.uptoBulkAll, bytesOf]
  | z :: zs => by
    have ih := chunks_bulk (H := H) K S zs
    simp only [List.map_cons, Rows.uptoBulkAll, Rows.uptoBulk, List.length_cons, bytesOf, List.flatMap_cons, List.length_append] at ih ⊢
    omega

set_option maxRecDepth 100000 in
/-- A list of chunks that came in: read by the walk, and read again behind it. -/
theorem chunks_arg {H : Type} {enc : TypeId × Value → H} {W : World} {base : Nat} {v : Value} {d : DataW H} {p : List MemPlace} (hok : Value.okWide Tryz.prog W .any base 22 v) (h : DataW.Trod enc Tryz.prog W 0 (fun _ => true) true 22 v d p) :
    ∃ a cp L, v = .slice a L.length cp ∧ ChArg W a L cp ∧ (bytesOf L).length + L.length + 1 ≤ Rows.uptoBulk d ∧ ∀ W', Fr (fun _ => False) W W' → DataW.Trod enc Tryz.prog W' 0 (fun b => decide (b < W.heap.size)) true 22 v d p := by
  obtain ⟨a0, len, cap, rfl⟩ := okWide_slice Tryz.underlying22 hok
  obtain ⟨fuel, hf⟩ := h
  rcases open_slice_pairs Tryz.underlying22 Tryz.underlying49 Tryz.cells_chunk rfl rfl Tryz.cells_int Tryz.cells_string hf with ⟨hcs, hx⟩ | ⟨a, len', cap', m, n, V0, V1, D0, D1, P0, P1, hcs, hb, hl, hm, hmm, hx, hi⟩
  · simp [Value.cells] at hcs
    obtain ⟨rfl, rfl, rfl⟩ := hcs
    simp only [Prod.mk.injEq] at hx
    obtain ⟨rfl, rfl⟩ := hx
    refine ⟨none, 0, [], rfl, ⟨fun j c hj => (by cases hj), Nat.le_refl _, Nat.zero_le _, fun _ => rfl⟩, ?_, fun W' _ => ?_⟩
    · simp [Rows.uptoBulk, bytesOf]
    · exact shut_nil_slice Tryz.underlying22
  · simp [Value.cells] at hcs
    obtain ⟨rfl, rfl, rfl⟩ := hcs
    simp only [Prod.mk.injEq] at hx
    obtain ⟨rfl, rfl⟩ := hx
    simp only [if_true] at hmm
    subst hmm
    have each : ∀ i, i < m → ∃ q : Int × ByteArray, V0 i = .int .i64 q.1 ∧ V1 i = .string q.2 ∧ D0 i = .lit (.int .i64 q.1) ∧ D1 i = .lit (.string q.2.data.toList) ∧ P0 i = [] ∧ P1 i = [] ∧ (Lit.int .i64 q.1).wf = true ∧ q.2.size ≤ maxLen := by
      intro i him
      obtain ⟨h1, h2, h3, h4⟩ := hi i him
      obtain ⟨z, z1, z2, z3⟩ := DataW.trod_int Tryz.underlying3 h3
      obtain ⟨s, s1, s2, s3⟩ := DataW.trod_string Tryz.underlying9 h4
      simp only [Prod.mk.injEq, List.cons.injEq, and_true] at z1 z2 s1 s2
      exact ⟨(z, s), z1, s1, z2.1, s2.1, z2.2, s2.2, z3, s3⟩
    obtain ⟨q, hq⟩ := choose_lt (α := Int × ByteArray) each
    have hin : ∀ i, i < m → a = ⟨a.block, a.off, none⟩ ∧ W.cell? ⟨a.block, a.off + i * 2, none⟩ = some (.int .i64 (q i).1) ∧ W.cell? ⟨a.block, a.off + i * 2 + 1, none⟩ = some (.string (q i).2) ∧ a.block < W.heap.size := by
      intro i him
      obtain ⟨b, off, spot⟩ := a
      have hspot : spot = none := by
        have := World.cell?_spot (hi 0 (by omega)).1
        simpa [Addr.add] using this
      subst hspot
      have h1 := (hi i him).1
      have h2 := (hi i him).2.1
      rw [add_plain, (hq i him).1] at h1
      rw [add_plain, (hq i him).2.1, ← Nat.add_assoc] at h2
      exact ⟨rfl, h1, h2, World.block_lt_of_cell? _ ⟨b, off + i * 2, none⟩ h1⟩
    have hlen : ((List.range len).map fun i => ((q i).1, (q i).2.data.toList)).length = len := by simp
    refine ⟨some a, m, (List.range len).map fun i => ((q i).1, (q i).2.data.toList), by rw [hlen], ⟨fun j c hj => ?_, by rw [hlen]; exact hl, hm, fun h => (by cases h)⟩, ?_, fun W' f => ?_⟩
    · have hjl : j < len := by
        have := (List.getElem?_eq_some_iff.1 hj).1
        omega
      have hc : c = ((q j).1, (q j).2.data.toList) := by
        simp [hjl] at hj
        exact hj.symm
      subst hc
      obtain ⟨h1, h2, h3, h4⟩ := hin j (by omega)
      have hr := int_range (hq j (by omega)).2.2.2.2.2.2.1
      exact ⟨a.block, a.off, congrArg some h1, h4, h4, h2, h3, hr.1, hr.2⟩
    · have e1 : (List.range len).map (fun i => DataW.agg [D0 i, D1 i]) = (List.range len).map fun i => (.agg [.lit (.int .i64 (q i).1), .lit (.string (q i).2.data.toList)] : DataW H) := List.map_congr_left fun i hi' => by
        have him : i < m := by have := List.mem_range.1 hi'; omega
        rw [(hq i him).2.2.1, (hq i him).2.2.2.1]
      simp only [Rows.uptoBulk]
      rw [e1, chunks_bulk, hlen, List.length_range]
      omega
    · by_cases hm0 : 0 < m
      · have ha := (hin 0 hm0).1
        have hbl := (hin 0 hm0).2.2.2
        rw [ha]
        exact shut_slice_pairs_whole Tryz.underlying22 Tryz.underlying49 Tryz.cells_chunk rfl rfl Tryz.cells_int Tryz.cells_string (Nat.zero_le _) hl hm (by simpa using hbl) (fun i => .int .i64 (q i).1) (fun i => .string (q i).2) D0 D1 P0 P1
          (fun i him => f.cell id hbl (hin i him).2.1) (fun i him => f.cell id hbl (hin i him).2.2.1)
          (fun i him => ⟨1, by rw [(hq i him).2.2.1, (hq i him).2.2.2.2.1]; exact trod_int_mk 0 Tryz.underlying3 (hq i him).2.2.2.2.2.2.1⟩)
          (fun i him => ⟨1, by rw [(hq i him).2.2.2.1, (hq i him).2.2.2.2.2.1]; have := (hq i him).2.2.2.2.2.2.2; simp [DataW.trod, Tryz.underlying9, this]⟩)
      · obtain rfl : m = 0 := by omega
        obtain rfl : len = 0 := by omega
        refine ⟨1, ?_⟩
        simp [DataW.trod, Tryz.underlying22, Value.cells, MemPlace.row]

end Go.Proofs.YtmhaknejeobfgabGreatDoor

/- Faulty0. -/
namespace Go.Proofs.YtmhaknejeobfgabGreatDoor
open Go.RowKit Go.Proofs.YtmhaknejeobfgabGreatDoor.Stable Go.Proofs.YtmhaknejeobfgabGreatDoor.Order Go.Proofs.YtmhaknejeobfgabGreatDoor.Points
attribute [local go_sem ↓] Go.wp_at_zero Go.wp_at_succ

theorem fault_first {L : List Chk} {j : Nat} (h1 : j < L.length) (h2 : faultAt L j ≠ 0) (h3 : NoF L j) : faultOf L = faultAt L j := by
  rcases fault_spec L with ⟨_, h⟩ | ⟨i, a1, a2, a3, a4⟩
  · exact absurd (h j h1) h2
  · rw [a3]
    rcases Nat.lt_trichotomy i j with h | rfl | h
    · exact absurd (h3 i h) a2
    · rfl
    · exact absurd (a4 j h) h2

theorem fault_none {L : List Chk} (h : NoF L L.length) : faultOf L = 0 := by
  rcases fault_spec L with ⟨h0, _⟩ | ⟨i, a1, a2, _⟩
  · exact h0
  · exact absurd (h i a1) a2

/-- The place of the first fault; -1: none. -/
def PlaceOf (L : List Chk) (i : Int) : Prop := (i = -1 ∧ NoF L L.length) ∨ ∃ j : Nat, i = j ∧ j < L.length ∧ faultAt L j ≠ 0 ∧ NoF L j

set_option maxRecDepth 100000 in
set_option maxHeartbeats 1600000 in
theorem faults_calls {w : World} {a : Option Addr} {cp : Nat} {L : List Chk} (h : ChunksIn w w.heap.size a L) (hl : L.length ≤ 1099511627776) :
    Calls Tryz.prog 20 #[.slice a L.length cp] w fun e w' => ∃ i, e = .returned (.tuple #[.int .i64 i, .int .i64 (faultOf L)]) ∧ PlaceOf L i ∧ Fr (fun _ => False) w w' := by
  obtain ⟨n, hn⟩ : ∃ n, n = L.length := ⟨_, rfl⟩
  rw [← hn]
  have HN : Hid (n = L.length ∧ L.length ≤ 1099511627776) := ⟨hn, hl⟩
  have HL : Hid (ChunksIn w w.heap.size a L) := h
  obtain ⟨z, hz⟩ : ∃ z, z = faultOf L := ⟨_, rfl⟩
  rw [← hz]
  have HZ : Hid (z = faultOf L) := hz
  have hnb : n ≤ 1099511627776 := by omega
  clear hn hl h hz
  go_enter Tryz.func20, Tryz.ntmps20
  go_wp2
  go_loopw [4, 5] (fun ve vi wr => ∃ k : Nat, ve = .int .i64 (idleOf (L.take k)) ∧ vi = .int .i64 k ∧ k ≤ n ∧ Hid (NoF L k) ∧ Hid (Fr (fun _ => False) w wr)) (fun _ vi _ => n + 1 - (intOf vi).toNat)
  case atStart => exact ⟨0, rfl, rfl, Nat.zero_le _, fun j hj => by omega, Fr.refl _ _⟩
  case round =>
    obtain ⟨k, rfl, rfl, hk, hno, hfr⟩ := hrel
    obtain ⟨q, hq⟩ : ∃ q, q = idleOf (L.take k) := ⟨_, rfl⟩
    rw [← hq]
    have HQ : Hid (q = idleOf (L.take k) ∧ q ≤ n) := ⟨hq, by have := idle_le (L.take k); rw [List.length_take] at this; have := HN.out; omega⟩
    have hqn := HQ.out.2
    clear hq
    by_cases hlt : k < n
    · obtain ⟨c, hc⟩ : ∃ c, L[k]? = some c := ⟨_, List.getElem?_eq_getElem (by have := HN.out; omega)⟩
      have HF : Hid (faultAt L k = faultBy (L.take k) c ∧ L.take (k + 1) = L.take k ++ [c]) := ⟨faultAt_some hc, take_snoc hc⟩
      obtain ⟨b, off, rfl, hb1, hb2, c0, c1, r0, r1⟩ := HL.out k c hc
      have c0' : wr.cell? ⟨b, off + k * 2, none⟩ = some (.int .i64 c.1) := hfr.out.cell id hb2 c0
      have c1' : wr.cell? ⟨b, off + k * 2 + 1, none⟩ = some (.string ⟨c.2.toArray⟩) := hfr.out.cell id hb2 c1
      obtain ⟨z0, tx⟩ := c
      dsimp only at c0' c1' r0 r1
      have q0 : (0 : Int) ≤ (k : Int) := by omega
      have q1 : (k : Int) < (n : Int) := by omega
      clear c0 c1 hb1 hb2 hc
      by_cases h0 : z0 = 0
      · subst h0
        by_cases ht : tx = []
        · subst ht
          have hid : idleOf (L.take k ++ [((0 : Int), [])]) = q + 1 := by rw [idle_snoc, if_pos rfl, HQ.out.1]
          by_cases h64 : q + 1 = 64
          · have e1 : (((q : Int) + 1) == 64) = true := by rw [beq_iff_eq]; omega
            have HE : Hid (faultAt L k = 4) := by
              refine Hid.mk0 ?_
              rw [HF.out.1]
              unfold faultBy
              rw [if_pos rfl, hid, if_pos h64]
            clear hid h64
            go_wp2
            obtain rfl : z = 4 := by rw [HZ.out, fault_first (by have := HN.out; omega) (by rw [HE.out]; simp) hno.out, HE.out]
            go_ret2
            exact ⟨k, rfl, .inr ⟨k, rfl, by have := HN.out; omega, by rw [HE.out]; simp, hno.out⟩, hfr.out⟩
          · have e1 : (((q : Int) + 1) == 64) = false := by rw [beq_eq_false_iff_ne]; omega
            have HE : Hid (faultAt L k = 0 ∧ idleOf (L.take (k + 1)) = q + 1) := by
              refine Hid.mk0 ?_
              rw [HF.out.1]
              unfold faultBy
              rw [if_pos rfl, hid, if_neg h64, HF.out.2, hid]
              exact ⟨rfl, rfl⟩
            clear hid h64
            go_wp2
            exact ⟨⟨k + 1, by rw [HE.out.2]; rfl, by go_num, by omega, fun j hj => by
              rcases Nat.lt_or_ge j k with h | h
              · exact hno.out j h
              · obtain rfl : j = k := by omega
                exact HE.out.1, hfr.out⟩, by simp [intOf]; omega⟩
        · have hne : tx.isEmpty = false := by
            cases tx with
            | nil => exact absurd rfl ht
            | cons => rfl
          have HE : Hid (faultAt L k = 0 ∧ idleOf (L.take (k + 1)) = 0) := by
            refine Hid.mk0 ?_
            rw [HF.out.1, HF.out.2]
            have hid : idleOf (L.take k ++ [((0 : Int), tx)]) = 0 := by rw [idle_snoc, if_neg ht]
            unfold faultBy
            rw [if_pos rfl, hid]
            exact ⟨rfl, rfl⟩
          go_wp2
          exact ⟨⟨k + 1, by rw [HE.out.2]; rfl, by go_num, by omega, fun j hj => by
            rcases Nat.lt_or_ge j k with h | h
            · exact hno.out j h
            · obtain rfl : j = k := by omega
              exact HE.out.1, hfr.out⟩, by simp [intOf]; omega⟩
      · have h0' : (z0 == 0) = false := by rw [beq_eq_false_iff_ne]; exact h0
        by_cases h1 : z0 = 1
        · subst h1
          have HE : Hid (faultAt L k = 2) := by
            refine Hid.mk0 ?_
            rw [HF.out.1]
            unfold faultBy
            rw [if_neg h0, if_pos rfl]
          go_wp2
          obtain rfl : z = 2 := by rw [HZ.out, fault_first (by have := HN.out; omega) (by rw [HE.out]; simp) hno.out, HE.out]
          go_ret2
          exact ⟨k, rfl, .inr ⟨k, rfl, by have := HN.out; omega, by rw [HE.out]; simp, hno.out⟩, hfr.out⟩
        · have h1' : (z0 == 1) = false := by rw [beq_eq_false_iff_ne]; exact h1
          have HE : Hid (faultAt L k = 3) := by
            refine Hid.mk0 ?_
            rw [HF.out.1]
            unfold faultBy
            rw [if_neg h0, if_neg h1]
          go_wp2
          obtain rfl : z = 3 := by rw [HZ.out, fault_first (by have := HN.out; omega) (by rw [HE.out]; simp) hno.out, HE.out]
          go_ret2
          exact ⟨k, rfl, .inr ⟨k, rfl, by have := HN.out; omega, by rw [HE.out]; simp, hno.out⟩, hfr.out⟩
    · have q1 : ¬ (k : Int) < (n : Int) := by omega
      have HK : Hid (k = n) := Hid.mk0 (by omega)
      clear hlt
      go_wp2
      obtain rfl : z = 0 := by rw [HZ.out, fault_none (by rw [← HN.out.1, ← HK.out]; exact hno.out)]
      go_ret2
      exact ⟨-1, rfl, .inl ⟨rfl, by rw [← HN.out.1, ← HK.out]; exact hno.out⟩, hfr.out⟩

end Go.Proofs.YtmhaknejeobfgabGreatDoor

/- Faulty1. -/
namespace Go.Proofs.YtmhaknejeobfgabGreatDoor
open Go.RowKit Go.Proofs.YtmhaknejeobfgabGreatDoor.Stable Go.Proofs.YtmhaknejeobfgabGreatDoor.Order Go.Proofs.YtmhaknejeobfgabGreatDoor.Points
attribute [local go_sem ↓] Go.wp_at_zero Go.wp_at_succ

/-- No fault was read. -/
def OutOf (i : Int) (r : Nat) : Prop := i = -1 ∨ ∃ j : Nat, i = j ∧ r ≤ j

theorem out_of {L : List Chk} {i : Int} {r : Nat} (p : PlaceOf L i) (h : NoF L r) : OutOf i r := by
  rcases p with ⟨rfl, _⟩ | ⟨j, rfl, h1, h2, h3⟩
  · exact .inl rfl
  · refine .inr ⟨j, rfl, ?_⟩
    rcases Nat.lt_or_ge j r with h4 | h4
    · exact absurd (h j h4) h2
    · exact h4

theorem in_of {L : List Chk} {i e : Int} {r : Nat} (p : PlaceOf L i) (h : FirstF L r e) (he : e ≠ 0) : ∃ j : Nat, i = j ∧ r = j + 1 ∧ faultOf L = e := by
  obtain ⟨j, h1, h2, h3, h4⟩ := h
  rcases p with ⟨_, hn⟩ | ⟨j', rfl, k1, k2, k3⟩
  · exact absurd (hn j h2) (by rw [← h3]; exact he)
  · have hf : faultAt L j ≠ 0 := by rw [← h3]; exact he
    obtain rfl : j = j' := by
      rcases Nat.lt_trichotomy j j' with h | h | h
      · exact absurd (k3 j h) hf
      · exact h
      · exact absurd (h4 j' h) k2
    exact ⟨j, rfl, h1, by rw [fault_first h2 hf h4, h3]⟩

theorem faulty_cases {A B : List Chk} {G : Cmp} {i k : Int} (h : AnyCmp A B G) (pa : PlaceOf A i) (pb : PlaceOf B k) :
    (G.err = 0 ∧ OutOf i G.ra ∧ OutOf k G.rb ∧ -1 ≤ G.sign ∧ G.sign ≤ 1) ∨ (G.err ≠ 0 ∧ G.sign = 0 ∧ G.ha = 0 ∧ G.hb = 0 ∧ ((∃ j : Nat, i = j ∧ G.ra = j + 1 ∧ faultOf A = G.err ∧ OutOf k G.rb) ∨ ∃ j : Nat, k = j ∧ G.rb = j + 1 ∧ faultOf B = G.err ∧ OutOf i G.ra)) := by
  by_cases he : G.err = 0
  · obtain ⟨h1, h2, h3, h4⟩ := h.calm he
    exact .inl ⟨he, out_of pa h1, out_of pb h2, h3, h4⟩
  · obtain ⟨h1, h2, h3, h4⟩ := h.bad he
    refine .inr ⟨he, h1, h2, h3, ?_⟩
    rcases h4 with ⟨a, b⟩ | ⟨a, b⟩
    · obtain ⟨j, x, y, z⟩ := in_of pa a he
      exact .inl ⟨j, x, y, z, out_of pb b⟩
    · obtain ⟨j, x, y, z⟩ := in_of pb a he
      exact .inr ⟨j, x, y, z, out_of pa b⟩

set_option maxRecDepth 100000 in
set_option maxHeartbeats 3200000 in
theorem faulty_walk (raw : Int) (a1 : Option Addr) (p1 : Nat) (A : List Chk) (a2 : Option Addr) (p2 : Nat) (B : List Chk) (w : World) (r0 : -9223372036854775808 ≤ raw) (r1 : raw ≤ 9223372036854775807) (hE : Env w) (hA : ChunksIn w w.heap.size a1 A) (hB : ChunksIn w w.heap.size a2 B) (hb : (bytesOf A).length + A.length + ((bytesOf B).length + B.length) ≤ 1048576) :
    Calls Tryz.prog 7 #[.int .i64 raw, .slice a1 A.length p1, .slice a2 B.length p2] w fun e w' => e = .returned (.bool true) ∧ Fr (fun _ => False) w w' := by
  have HE : Hid (Env w) := hE
  have HB : Hid ((bytesOf A).length + A.length + ((bytesOf B).length + B.length) ≤ 1048576) := hb
  have HC : Hid (ChunksIn w w.heap.size a1 A ∧ ChunksIn w w.heap.size a2 B) := ⟨hA, hB⟩
  obtain ⟨nA, hnA⟩ : ∃ nA, nA = A.length := ⟨_, rfl⟩
  obtain ⟨nB, hnB⟩ : ∃ nB, nB = B.length := ⟨_, rfl⟩
  rw [← hnA, ← hnB]
  have HNL : Hid (nA = A.length ∧ nB = B.length) := ⟨hnA, hnB⟩
  clear hE hA hB hb hnA hnB
  go_enter Tryz.func7, Tryz.ntmps7
  go_wp2_with fail
  refine (pick_calls raw 4 w r0 r1 (by omega) (by omega)).mono ?_
  rintro e w' ⟨m, rfl, hm, hw⟩
  have hw' := hw.symm
  subst hw'
  clear hw r0 r1
  have HM : Hid ((0 : Int) ≤ (m : Int) ∧ (m : Int) ≤ 3) := ⟨by omega, by omega⟩
  clear hm
  go_wp2_with fail
  refine (known_calls m w HM.out.1 HM.out.2 HE.out).mono ?_
  rintro e w1 ⟨rfl, hf1⟩
  have HF1 : Hid (Fr (fun _ => False) w w1) := hf1
  clear hf1
  go_wp2_with fail
  have hst := stream_calls m a1 a2 p1 p2 A B w1 HM.out.1 HM.out.2 (HE.out.kept HF1.out (fun _ _ => id)) ((HC.out.1.kept HF1.out (fun _ _ => id)).mono HF1.out.size) ((HC.out.2.kept HF1.out (fun _ _ => id)).mono HF1.out.size) (by have := HB.out; omega) (by have := HB.out; omega) (by have := HB.out; omega) (by have := HB.out; omega)
  rw [← HNL.out.1, ← HNL.out.2] at hst
  have hany : AnyCmp A B (strm m A B) := strm_any (rel_length HM.out.1 HM.out.2 A A.length true)
  obtain ⟨G, hG⟩ : ∃ G, G = strm m A B := ⟨_, rfl⟩
  rw [← hG] at hst hany
  have HG : Hid (AnyCmp A B G) := hany
  clear hG hany
  obtain ⟨sg, ra, rb, ha, hb', er⟩ := G
  dsimp only at hst
  refine hst.mono ?_
  clear hst
  rintro e w5 ⟨rfl, hf5⟩
  have HF5 : Hid (Fr (fun _ => False) w w5) := HF1.out.trans hf5 (fun _ _ h => h)
  clear hf5 HF1
  go_wp2_with fail
  have ho6 : (w5.alloc (outC sg ra rb ha hb')).heap[w5.heap.size]? = some (outC sg ra rb ha hb') := heap_alloc_new w5 _
  have hf6 : Fr (fun _ => False) w5 (w5.alloc (outC sg ra rb ha hb')) := (Fr.refl _ _).alloc _
  change Calls _ _ _ (w5.alloc (outC sg ra rb ha hb')) _
  have HF6 : Hid (Fr (fun _ => False) w (w5.alloc (outC sg ra rb ha hb'))) := HF5.out.trans hf6 (fun _ _ h => h)
  have HO6 : Hid ((w5.alloc (outC sg ra rb ha hb')).heap[w5.heap.size]? = some (outC sg ra rb ha hb')) := ho6
  clear ho6 hf6 HF5
  obtain ⟨vo, hvo⟩ : ∃ vo, vo = w5.heap.size := ⟨_, rfl⟩
  rw [← hvo] at HO6 ⊢
  generalize w5.alloc (outC sg ra rb ha hb') = w6 at *
  clear hvo
  have hfa := faults_calls (cp := p1) ((HC.out.1.kept HF6.out (fun _ _ => id)).mono HF6.out.size) (by have := HB.out; omega)
  rw [← HNL.out.1] at hfa
  refine hfa.mono ?_
  clear hfa
  rintro e w7 ⟨i, rfl, hpa, hf7⟩
  have HPA : Hid (PlaceOf A i) := hpa
  have HF7 : Hid (Fr (fun _ => False) w w7) := HF6.out.trans hf7 (fun _ _ h => h)
  have HO7 : Hid (w7.heap[vo]? = some (outC sg ra rb ha hb')) := (hf7.block vo (lt_of HO6.out) id).trans HO6.out
  clear hpa hf7 HO6 HF6
  obtain ⟨fa, hfa⟩ : ∃ fa, fa = faultOf A := ⟨_, rfl⟩
  rw [← hfa]
  have HFA : Hid (fa = faultOf A) := hfa
  clear hfa
  go_wp2_with fail
  have hfb := faults_calls (cp := p2) ((HC.out.2.kept HF7.out (fun _ _ => id)).mono HF7.out.size) (by have := HB.out; omega)
  rw [← HNL.out.2] at hfb
  refine hfb.mono ?_
  clear hfb
  rintro e w8 ⟨k, rfl, hpb, hf8⟩
  have HPB : Hid (PlaceOf B k) := hpb
  have HF8 : Hid (Fr (fun _ => False) w w8) := HF7.out.trans hf8 (fun _ _ h => h)
  have HO8 : Hid (w8.heap[vo]? = some (outC sg ra rb ha hb')) := (hf8.block vo (lt_of HO7.out) id).trans HO7.out
  clear hpb hf8 HO7 HF7
  obtain ⟨fb, hfb⟩ : ∃ fb, fb = faultOf B := ⟨_, rfl⟩
  rw [← hfb]
  have HFB : Hid (fb = faultOf B) := hfb
  clear hfb
  go_wp2_with fail
  have hdg := digest_calls m a1 p1 A w8 HM.out.1 HM.out.2 (HE.out.kept HF8.out (fun _ _ => id)) ((HC.out.1.kept HF8.out (fun _ _ => id)).mono HF8.out.size) (by have := HB.out; omega) (by have := HB.out; omega)
  rw [← HNL.out.1, ← HFA.out] at hdg
  refine hdg.mono ?_
  clear hdg
  rintro e w9 ⟨rfl, hf9⟩
  have HF9 : Hid (Fr (fun _ => False) w w9) := HF8.out.trans hf9 (fun _ _ h => h)
  have ho9 : w9.heap[vo]? = some (outC sg ra rb ha hb') := (hf9.block vo (lt_of HO8.out) id).trans HO8.out
  have o0 : w9.cell? ⟨vo, 0, none⟩ = some (.int .i64 sg) := cell_of ho9 rfl
  have o1 : w9.cell? ⟨vo, 1, none⟩ = some (.int .i64 ra) := cell_of ho9 rfl
  have o2 : w9.cell? ⟨vo, 2, none⟩ = some (.int .i64 rb) := cell_of ho9 rfl
  have o3 : w9.cell? ⟨vo, 3, none⟩ = some (.int .i64 ha) := cell_of ho9 rfl
  have o4 : w9.cell? ⟨vo, 4, none⟩ = some (.int .i64 hb') := cell_of ho9 rfl
  have hcs := faulty_cases HG.out HPA.out HPB.out
  dsimp only at hcs
  rw [← HFA.out, ← HFB.out] at hcs
  have hra : ra ≤ 1048576 := by have := HG.out.ra; have := HB.out; dsimp only at *; omega
  have hrb : rb ≤ 1048576 := by have := HG.out.rb; have := HB.out; dsimp only at *; omega
  generalize digOf m A = dg
  clear hf9 ho9 HF8 HO8 HE HM HB HC HNL HG HPA HPB HFA HFB
  rcases hcs with ⟨rfl, x1, x2, x3, x4⟩ | ⟨x0, rfl, rfl, rfl, ⟨j, rfl, rfl, rfl, x2⟩ | ⟨j, rfl, rfl, rfl, x2⟩⟩
  · rcases x1 with rfl | ⟨j1, rfl, y1⟩ <;> rcases x2 with rfl | ⟨j2, rfl, y2⟩
    · go_wp2
      go_ret
      exact ⟨rfl, HF9.out⟩
    · have q1 : (0 : Int) ≤ (j2 : Int) := by omega
      have q2 : ¬ (j2 : Int) < (rb : Int) := by omega
      go_wp2
      go_ret
      exact ⟨by simp; omega, HF9.out⟩
    · have q1 : (0 : Int) ≤ (j1 : Int) := by omega
      have q2 : ¬ (j1 : Int) < (ra : Int) := by omega
      go_wp2
      go_ret
      exact ⟨by simp; omega, HF9.out⟩
    · have q1 : (0 : Int) ≤ (j1 : Int) := by omega
      have q2 : ¬ (j1 : Int) < (ra : Int) := by omega
      have q3 : (0 : Int) ≤ (j2 : Int) := by omega
      have q4 : ¬ (j2 : Int) < (rb : Int) := by omega
      go_wp2
      go_ret
      exact ⟨by simp; omega, HF9.out⟩
  · have z0 : (fa == 0) = false := by rw [beq_eq_false_iff_ne]; exact x0
    have q1 : (0 : Int) ≤ (j : Int) := by omega
    have q2 : (j : Int) < ((j + 1 : Nat) : Int) := by omega
    rcases x2 with rfl | ⟨j2, rfl, y2⟩
    · go_wp2
      go_ret
      exact ⟨rfl, HF9.out⟩
    · have q3 : (0 : Int) ≤ (j2 : Int) := by omega
      have q4 : ¬ (j2 : Int) < (rb : Int) := by omega
      go_wp2
      go_ret
      exact ⟨rfl, HF9.out⟩
  · have z0 : (fb == 0) = false := by rw [beq_eq_false_iff_ne]; exact x0
    have q1 : (0 : Int) ≤ (j : Int) := by omega
    have q2 : (j : Int) < ((j + 1 : Nat) : Int) := by omega
    rcases x2 with rfl | ⟨j2, rfl, y2⟩
    · go_wp2
      go_ret
      exact ⟨rfl, HF9.out⟩
    · have q3 : (0 : Int) ≤ (j2 : Int) := by omega
      have q4 : ¬ (j2 : Int) < (ra : Int) := by omega
      go_wp2
      go_ret
      exact ⟨rfl, HF9.out⟩

end Go.Proofs.YtmhaknejeobfgabGreatDoor

/- ConFaulty. -/
namespace Go.Proofs.YtmhaknejeobfgabGreatDoor.faultyProof
open Go.ChangeShapes Go.WideShapes Go.ChangeAt Go.RowKit
open Go.ChangeMaps (open_string shut_string)

set_option maxRecDepth 100000 in
theorem contract (H : Type) (enc : TypeId × Value → H) (F : Stop.Interp) (W : World) (base : Nat) (args : Array Value) (ds gs : List (DataW H)) (before : List MemPlace)
    (hval : ∀ (j : Nat) t v, Tryz.f7.params[j]? = some t → args[j]? = some v → Value.okWide Tryz.prog W .any base t v)
    (hW : DataW.Whole enc Tryz.prog Tryz.f7.params.toList (Rows.OpenSpec.upto Rows.faultySpec).vars false W args.toList ds gs before)
    (hcond : ∀ k, (Rows.OpenSpec.upto Rows.faultySpec).cond = some k → k H (ds ++ gs) = true) (hL : laidMetH Tryz.prog laidL W) (hsh : W.ShapedOpen Tryz.prog) :
    Calls Tryz.prog 7 args W fun e W' => ∃ v, e = .returned v ∧ ((Rows.OpenSpec.upto Rows.faultySpec).at F).post enc Tryz.prog Tryz.f7 false true false false W args v W' := by
  have hW' := hW
  obtain ⟨p, q, hA0, hV0, rfl, _, _⟩ := hW
  have hA : DataW.TrodAll enc Tryz.prog W 0 (fun _ => true) true Tryz.f7.params.toList args.toList ds p := hA0
  rw [Tryz.params7] at hA hval
  obtain ⟨v0, vs0, d0, ds0, p0, q0, hargs, rfl, rfl, h0, t0⟩ := trodAll_cons hA
  obtain ⟨v1, vs1, d1, ds1, p1, q1, rfl, rfl, rfl, h1, t1⟩ := trodAll_cons t0
  obtain ⟨v2, vs2, d2, ds2, p2, q2, rfl, rfl, rfl, h2, t2⟩ := trodAll_cons t1
  obtain ⟨rfl, rfl, rfl⟩ := trodAll_nil t2
  obtain rfl : args = #[v0, v1, v2] := by cases args; simp_all
  obtain ⟨rfl, rfl⟩ := trodVars_none hV0
  obtain ⟨x0, rfl, rfl, rfl, w0⟩ := open_int Tryz.underlying3 (hval 0 3 v0 rfl rfl) h0
  obtain ⟨a1, c1, L1, rfl, i1, u1, s1⟩ := chunks_arg (hval 1 22 v1 rfl rfl) h1
  obtain ⟨a2, c2, L2, rfl, i2, u2, s2⟩ := chunks_arg (hval 2 22 v2 rfl rfl) h2
  clear hA0
  simp only [List.append_nil] at hW' hcond
  have hk := hcond Rows.uptoSmall rfl
  have hb : (bytesOf L1).length + L1.length + (bytesOf L2).length + L2.length ≤ 1048576 := by
    have h := of_decide_eq_true hk
    simp only [Rows.uptoBulkAll, Rows.uptoBulk] at h
    omega
  have r0 := int_range w0
  refine (faulty_walk x0 a1 c1 L1 a2 c2 L2 W r0.1 r0.2 (env_of hL hsh) i1.ch i2.ch (by omega)).mono ?_
  rintro e W' ⟨rfl, hf⟩
  have bel := hf.below
  refine ⟨_, rfl, [.lit (.int .i64 x0), d1, d2], [], _, [], ([] ++ (p1 ++ (p2 ++ []))), [], hW', ?_, ?_, ?_, bel.frame _, fun h => by cases h⟩
  · exact trodAll_mk1 (shut_bool Tryz.underlying4 _)
  · exact (trodAll_cons_mk (shut_int Tryz.underlying3 w0) (trodAll_cons_mk (s1 W' hf) (trodAll_cons_mk (s2 W' hf) trodAll_mk0)))
  · rfl

end Go.Proofs.YtmhaknejeobfgabGreatDoor.faultyProof
