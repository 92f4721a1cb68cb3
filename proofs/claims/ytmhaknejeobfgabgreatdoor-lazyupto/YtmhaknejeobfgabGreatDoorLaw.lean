/- What the listed variables give at the call's first world, and a world that holds them. Lists that came in: read by the walk, and read again behind it. Lists of chunks that came in: read by the walk, and read again behind it. The laws' own with: a list of chunks with others behind its first n. The law Lazy, walked: it answers true. What the law Lazy asks of its arguments, and what its walk gives. -/
import Derived.Test.YtmhaknejeobfgabGreatDoorTables
import Derived.Test.YtmhaknejeobfgabGreatDoorBase
import Derived.Test.YtmhaknejeobfgabGreatDoorShelf
import Derived.Test.YtmhaknejeobfgabGreatDoorRows
import Derived.Deep.DeepHandedRow
import Derived.Deep.DeepWitnessRowRef
import Derived.Lib.LaidTab
import Derived.Lib.LaidU8
import Derived.ProofKit
import Derived.Deep.DeepLaidRun
import Derived.Test.YtmhaknejeobfgabGreatDoorKeys
import Derived.OpenShut
import Derived.ChangeSlices
import Derived.Test.YtmhaknejeobfgabGreatDoorChReads
import Derived.Deep.SlicePairs
import Derived.Test.YtmhaknejeobfgabGreatDoorDigesting
import Derived.Laws.AppendOwnNone
import Derived.Test.YtmhaknejeobfgabGreatDoorChPlain
import Derived.Deep.CutBlock
import Derived.Deep.DeepCutAuto

/- Frame. -/
namespace Go.Proofs.YtmhaknejeobfgabGreatDoor
open Go.RowKit Go.ChangeShapes Go.WideShapes Go.ChangeAt

theorem own : ownKnob Tryz.prog.godebug = none := by kernel_rfl

theorem int_range {raw : Int} (h : (Lit.int .i64 raw).wf = true) : -9223372036854775808 ≤ raw ∧ raw ≤ 9223372036854775807 := by
  have h' : (decide (IntKind.i64.min ≤ raw) && decide (raw ≤ IntKind.i64.max)) = true := h
  rw [Bool.and_eq_true, decide_eq_true_eq, decide_eq_true_eq] at h'
  have e1 : IntKind.i64.min = -9223372036854775808 := by decide
  have e2 : IntKind.i64.max = 9223372036854775807 := by decide
  rw [e1, e2] at h'
  exact h'

/-- What the rows list. -/
def laidL : List (String × DataW Unit) := Rows.chunkedUptoRow.laid

theorem laid_first : ("unicode/utf8.first", Lib.firstData) ∈ laidL := by
  have : laidL[8]? = some ("unicode/utf8.first", Lib.firstData) := by kernel_rfl
  exact List.mem_of_getElem? this

theorem laid_accept : ("unicode/utf8.acceptRanges", Lib.acceptData) ∈ laidL := by
  have : laidL[3]? = some ("unicode/utf8.acceptRanges", Lib.acceptData) := by kernel_rfl
  exact List.mem_of_getElem? this

theorem laid_space : ("strings.asciiSpace", Lib.tabData .u8 Lib.asciiSpaceTab) ∈ laidL := by
  have : laidL[7]? = some ("strings.asciiSpace", Lib.tabData .u8 Lib.asciiSpaceTab) := by kernel_rfl
  exact List.mem_of_getElem? this

theorem gSpace : Tryz.prog.globalNamed "strings.asciiSpace" = some 2 := by kernel_rfl
theorem gSpaceType : (Tryz.prog.globals[2]?).map (·.type) = some 179 := by kernel_rfl
theorem cellsTab : Tryz.prog.cellsOf 179 = 256 := by kernel_rfl
theorem cellsByte : Tryz.prog.cellsOf 5 = 1 := by kernel_rfl

theorem tabIs_of_reads {P : Program} {W : World} {name : String} {k : IntKind} {zs : List Int} {g : Nat} {t e : TypeId} {n : Nat}
    (hg : P.globalNamed name = some g) (hty : (P.globals[g]?).map (·.type) = some t) (ht : P.underlying t = some (.array n e)) (he : P.underlying e = some (.int k)) (hce : P.cellsOf e = 1) (hct : P.cellsOf t = n)
    (h : Lib.VarReads P W name (Lib.tabData k zs)) : Lib.TabIs P W name k zs := by
  obtain ⟨g', t', cs, fuel, p, hg', ht', hvar, hd⟩ := h
  obtain rfl := Option.some.inj (hg.symm.trans hg')
  obtain rfl := Option.some.inj (hty.symm.trans ht')
  unfold Lib.TabIs
  rw [hvar, ← Lib.cells_of_tab ht he hce hct hd]

/-- WHAT THE LIST AND THE WORLD'S SHAPE GIVE: all that the walks ask of the globals. -/
theorem env_of {W : World} (hL : laidMetH Tryz.prog laidL W) (hsh : W.ShapedOpen Tryz.prog) : Env W := by
  have hM : laidMet Tryz.prog laidL W := hL
  refine ⟨?_, Tryz.laysM219.s1_3 W hsh, ?_, ?_⟩
  · obtain ⟨cs, h, _⟩ := hsh.1 10 #[.pointer none] 206 (by decide +kernel) (by kernel_rfl)
    exact lt_of h
  · exact tabIs_of_reads gSpace gSpaceType Tryz.underlying179 Tryz.underlying5 cellsByte cellsTab (Lib.laidMet.reads hM laid_space)
  · exact utf8Tabs_of_reads { Tryz.lays260 with } ⟨by kernel_rfl, by kernel_rfl, by kernel_rfl, by kernel_rfl, by kernel_rfl, by kernel_rfl, by kernel_rfl⟩ (Lib.laidMet.reads hM laid_first) (Lib.laidMet.reads hM laid_accept)

/-- The bytes of a listed text. -/
def laidBytes : DataW Unit → List UInt8
  | .iface _ (.ptr (.agg [.lit (.string l)])) => l
  | _ => []

def intsOf : DataW Unit → List Value
  | .agg l => l.map fun | .lit (.int k z) => .int k z | _ => .bool false
  | _ => []

/-- A WORLD FOR THE WITNESS: the settled one with four blocks more (the texts of two errors; a table's ranges; the table), the nine listed variables holding what their initialisers lay. -/
def laidWorld (P : Program) (os : Os) : World :=
  let N := (World.settled P os).heap.size
  let w0 := World.holding P os ⟨#[.cells #[.string ⟨(laidBytes Rows.laid_strconv_ErrRange).toArray⟩] 241, .cells #[.string ⟨(laidBytes Rows.laid_strconv_ErrSyntax).toArray⟩] 241,
    .cells (Lib.whiteT.map fun (z : Nat) => Value.int .u16 (z : Int)).toArray 220, .cells #[.slice (some ⟨N + 2, 0, none⟩) 7 7, .slice none 0 0, .int .i64 2] 217], #[], []⟩
  let put (h : Array Obj) (g : Nat) (cs : Array Value) : Array Obj := h.modify g fun
    | .cells _ t frozen => .cells cs t frozen
    | o => o
  let h1 := put w0.heap 2 (Lib.asciiSpaceTab.map fun z => Value.int .u8 z).toArray
  let h2 := put h1 0 (Lib.firstTab.map fun z => Value.int .u8 z).toArray
  let h3 := put h2 1 ((List.range 16).flatMap fun i => [Value.int .u8 (Lib.accLo i), Value.int .u8 (Lib.accHi i)]).toArray
  let h4 := put h3 3 #[.pointer (some ⟨N + 3, 0, none⟩)]
  let h5 := put h4 5 #[.iface 239 (.pointer (some ⟨N, 0, none⟩))]
  let h6 := put h5 4 #[.iface 239 (.pointer (some ⟨N + 1, 0, none⟩))]
  let h7 := put h6 8 (intsOf Rows.laid_math_bits_deBruijn32tab).toArray
  let h8 := put h7 9 (intsOf Rows.laid_math_bits_deBruijn64tab).toArray
  let h9 := put h8 7 (intsOf Rows.laid_internal_strconv_uint64pow10).toArray
  { w0 with heap := h9 }

theorem laid_met (os : Os) (args : Array Value) : laidMet Tryz.prog laidL ((laidWorld Tryz.prog os).forCall (fun _ _ => 0) ⟨#[], args, []⟩).memory :=
  laidMet_of_run3 8 (by kernel_rfl) (by kernel_rfl) (by kernel_rfl)

end Go.Proofs.YtmhaknejeobfgabGreatDoor

/- Args. -/
namespace Go.Proofs.YtmhaknejeobfgabGreatDoor
open Go.ChangeShapes Go.WideShapes Go.ChangeAt Go.RowKit
open Go.ChangeMaps (open_string shut_string)

theorem Tryz.cells_int : Tryz.prog.cellsOf 3 = 1 := by kernel_rfl

theorem lits_bulk {H : Type} : ∀ zs : List Int, Rows.uptoBulkAll (lits (H := H) .i64 zs) = zs.length
  | [] => by simp [lits, Rows.uptoBulkAll]
  | z :: zs => by
    have ih := lits_bulk (H := H) zs
    simp only [lits, List.map_cons, Rows.uptoBulkAll, Rows.uptoBulk, List.length_cons] at ih ⊢
    omega

theorem shut_nil_slice {H : Type} {enc : TypeId × Value → H} {P : Program} {w : World} {base : Nat} {spare : Nat → Bool} {held : Bool} {t e : TypeId} (ht : P.underlying t = some (.slice e)) : DataW.Trod enc P w base spare held t (.slice none 0 0) .nil [] :=
  ⟨1, by simp [DataW.trod, ht, Value.cells]⟩

set_option maxRecDepth 100000 in
/-- A list of numbers that came in: read by the walk, and read again behind it. -/
theorem nums_arg {H : Type} {enc : TypeId × Value → H} {W : World} {base : Nat} {v : Value} {d : DataW H} {p : List MemPlace} (hok : Value.okWide Tryz.prog W .any base 31 v) (h : DataW.Trod enc Tryz.prog W 0 (fun _ => true) true 31 v d p) :
    ∃ a n cp, v = .slice a n cp ∧ NumsIn W a n ∧ n + 1 ≤ Rows.uptoBulk d ∧ ∀ W', Fr (fun _ => False) W W' → DataW.Trod enc Tryz.prog W' 0 (fun b => decide (b < W.heap.size)) true 31 v d p := by
  obtain ⟨a0, len, cap, rfl⟩ := okWide_slice Tryz.underlying31 hok
  obtain ⟨fuel, hf⟩ := h
  rcases open_ints Tryz.underlying31 Tryz.underlying3 Tryz.cells_int hf with ⟨hcs, hx⟩ | ⟨a, len', cap', zs, hcs, hb, hl, hm, hz, hx, hcell, hwz⟩
  · simp [Value.cells] at hcs
    obtain ⟨rfl, rfl, rfl⟩ := hcs
    simp only [Prod.mk.injEq] at hx
    obtain ⟨rfl, rfl⟩ := hx
    refine ⟨none, 0, 0, rfl, fun j hj => by omega, ?_, fun W' _ => ?_⟩
    · simp [Rows.uptoBulk]
    · exact shut_nil_slice Tryz.underlying31
  · simp [Value.cells] at hcs
    obtain ⟨rfl, rfl, rfl⟩ := hcs
    simp only [Prod.mk.injEq] at hx
    obtain ⟨rfl, rfl⟩ := hx
    simp only [if_true] at hz
    have hin : ∀ j, j < zs.length → a = ⟨a.block, a.off, none⟩ ∧ W.cell? ⟨a.block, a.off + j, none⟩ = some (.int .i64 (zs.getD j 0)) ∧ a.block < W.heap.size := by
      intro j hj
      obtain ⟨b, off, spot⟩ := a
      have hspot : spot = none := by simpa [Addr.add] using World.cell?_spot (hcell 0 (by omega))
      subst hspot
      have hc := hcell j hj
      rw [add_plain] at hc
      exact ⟨rfl, hc, World.block_lt_of_cell? _ ⟨b, off + j, none⟩ hc⟩
    refine ⟨some a, len, cap, rfl, fun j hj => ?_, ?_, fun W' f => ?_⟩
    · obtain ⟨h1, h2, h3⟩ := hin j (by omega)
      have hr := int_range (hwz (zs.getD j 0) (by
        have : zs.getD j 0 = zs[j]'(by omega) := by simp [List.getD, show j < zs.length by omega]
        rw [this]
        exact List.getElem_mem _))
      exact ⟨a.block, a.off, zs.getD j 0, congrArg some h1, h2, hr.1, hr.2, h3⟩
    · simp only [Rows.uptoBulk, lits_bulk, List.length_take]
      omega
    · refine ⟨0 + 2, shut_ints 0 Tryz.underlying31 Tryz.underlying3 Tryz.cells_int (Nat.zero_le _) hl hm ?_ (fun j hj => ?_) hwz⟩
      · by_cases hc : 0 < zs.length
        · rw [if_pos (by simpa using (hin 0 hc).2.2)]
          exact hz
        · have : zs.length = 0 := by omega
          split <;> omega
      · obtain ⟨h1, h2, h3⟩ := hin j hj
        rw [h1, add_plain]
        exact f.cell id h3 h2

end Go.Proofs.YtmhaknejeobfgabGreatDoor

/- ArgsC. -/
namespace Go.Proofs.YtmhaknejeobfgabGreatDoor
open Go.ChangeShapes Go.WideShapes Go.ChangeAt Go.RowKit Go.Deep

theorem Tryz.cells_chunk : Tryz.prog.cellsOf 49 = 2 := by kernel_rfl
theorem Tryz.cells_string : Tryz.prog.cellsOf 9 = 1 := by kernel_rfl

/-- A list of chunks that came in. -/
structure ChArg (w : World) (a : Option Addr) (L : List Chk) (cp : Nat) : Prop where
  ch : ChunksIn w w.heap.size a L
  le : L.length ≤ cp
  cap : cp ≤ maxLen
  nil : a = none → cp = 0

/-- What chunks weigh. -/
theorem chunks_bulk {H : Type} (K : Nat → Int) (S : Nat → ByteArray) : ∀ l : List Nat, Rows.uptoBulkAll (l.map fun i => (.agg [.lit (.int .i64 (K i)), .lit (.string (S i).data.toList)] : DataW H)) = (bytesOf (l.map fun i => (K i, (S i).data.toList))).length + 3 * l.length
  | [] => by simp [Rows.uptoBulkAll, bytesOf]
  | z :: zs => by
    have ih := chunks_bulk (H := H) K S zs
    simp only [List.map_cons, Rows.uptoBulkAll, Rows.uptoBulk, List.length_cons, bytesOf, List.flatMap_cons, List.length_append] at ih ⊢
    omega

set_option maxRecDepth 100000 in
/-- A list of chunks that came in: read by the walk, and read again behind it. -/
theorem chunks_arg {H : Type} {enc : TypeId × Value → H} {W : World} {base : Nat} {v : Value} {d : DataW H} {p : List MemPlace} (hok : Value.okWide Tryz.prog W .any base 22 v) (h : DataW.Trod enc Tryz.prog W 0 (fun _ => true) true 22 v d p) :
    ∃ a cp L, v = .slice a L.length cp ∧ ChArg W a L cp ∧ (bytesOf L).length + L.length + 1 ≤ Rows.uptoBulk d ∧ ∀ W', Fr (fun _ => False) W W' → DataW.Trod enc Tryz.prog W' 0 (fun b => decide (b < W.heap.size)) true 22 v d p := by
  obtain ⟨a0, len, cap, rfl⟩ := okWide_slice Tryz.underlying22 hok
  obtain ⟨fuel, hf⟩ := h
  rcases open_slice_pairs Tryz.underlying22 Tryz.underlying49 Tryz.cells_chunk rfl rfl Tryz.cells_int Tryz.cells_string hf with ⟨hcs, hx⟩ | ⟨a, len', cap', m, n, V0, V1, D0, D1, P0, P1, hcs, hb, hl, hm, hmm, hx, hi⟩
  · simp [Value.cells] at hcs
    obtain ⟨rfl, rfl, rfl⟩ := hcs
    simp only [Prod.mk.injEq] at hx
    obtain ⟨rfl, rfl⟩ := hx
    refine ⟨none, 0, [], rfl, ⟨fun j c hj => (by cases hj), Nat.le_refl _, Nat.zero_le _, fun _ => rfl⟩, ?_, fun W' _ => ?_⟩
    · simp [Rows.uptoBulk, bytesOf]
    · exact shut_nil_slice Tryz.underlying22
  · simp [Value.cells] at hcs
    obtain ⟨rfl, rfl, rfl⟩ := hcs
    simp only [Prod.mk.injEq] at hx
    obtain ⟨rfl, rfl⟩ := hx
    simp only [if_true] at hmm
    subst hmm
    have each : ∀ i, i < m → ∃ q : Int × ByteArray, V0 i = .int .i64 q.1 ∧ V1 i = .string q.2 ∧ D0 i = .lit (.int .i64 q.1) ∧ D1 i = .lit (.string q.2.data.toList) ∧ P0 i = [] ∧ P1 i = [] ∧ (Lit.int .i64 q.1).wf = true ∧ q.2.size ≤ maxLen := by
      intro i him
      obtain ⟨h1, h2, h3, h4⟩ := hi i him
      obtain ⟨z, z1, z2, z3⟩ := DataW.trod_int Tryz.underlying3 h3
      obtain ⟨s, s1, s2, s3⟩ := DataW.trod_string Tryz.underlying9 h4
      simp only [Prod.mk.injEq, List.cons.injEq, and_true] at z1 z2 s1 s2
      exact ⟨(z, s), z1, s1, z2.1, s2.1, z2.2, s2.2, z3, s3⟩
    obtain ⟨q, hq⟩ := choose_lt (α := Int × ByteArray) each
    have hin : ∀ i, i < m → a = ⟨a.block, a.off, none⟩ ∧ W.cell? ⟨a.block, a.off + i * 2, none⟩ = some (.int .i64 (q i).1) ∧ W.cell? ⟨a.block, a.off + i * 2 + 1, none⟩ = some (.string (q i).2) ∧ a.block < W.heap.size := by
      intro i him
      obtain ⟨b, off, spot⟩ := a
      have hspot : spot = none := by
        have := World.cell?_spot (hi 0 (by omega)).1
        simpa [Addr.add] using this
      subst hspot
      have h1 := (hi i him).1
      have h2 := (hi i him).2.1
      rw [add_plain, (hq i him).1] at h1
      rw [add_plain, (hq i him).2.1, ← Nat.add_assoc] at h2
      exact ⟨rfl, h1, h2, World.block_lt_of_cell? _ ⟨b, off + i * 2, none⟩ h1⟩
    have hlen : ((List.range len).map fun i => ((q i).1, (q i).2.data.toList)).length = len := by simp
    refine ⟨some a, m, (List.range len).map fun i => ((q i).1, (q i).2.data.toList), by rw [hlen], ⟨fun j c hj => ?_, by rw [hlen]; exact hl, hm, fun h => (by cases h)⟩, ?_, fun W' f => ?_⟩
    · have hjl : j < len := by
        have := (List.getElem?_eq_some_iff.1 hj).1
        omega
      have hc : c = ((q j).1, (q j).2.data.toList) := by
        simp [hjl] at hj
        exact hj.symm
      subst hc
      obtain ⟨h1, h2, h3, h4⟩ := hin j (by omega)
      have hr := int_range (hq j (by omega)).2.2.2.2.2.2.1
      exact ⟨a.block, a.off, congrArg some h1, h4, h4, h2, h3, hr.1, hr.2⟩
    · have e1 : (List.range len).map (fun i => DataW.agg [D0 i, D1 i]) = (List.range len).map fun i => (.agg [.lit (.int .i64 (q i).1), .lit (.string (q i).2.data.toList)] : DataW H) := List.map_congr_left fun i hi' => by
        have him : i < m := by have := List.mem_range.1 hi'; omega
        rw [(hq i him).2.2.1, (hq i him).2.2.2.1]
      simp only [Rows.uptoBulk]
      rw [e1, chunks_bulk, hlen, List.length_range]
      omega
    · by_cases hm0 : 0 < m
      · have ha := (hin 0 hm0).1
        have hbl := (hin 0 hm0).2.2.2
        rw [ha]
        exact shut_slice_pairs_whole Tryz.underlying22 Tryz.underlying49 Tryz.cells_chunk rfl rfl Tryz.cells_int Tryz.cells_string (Nat.zero_le _) hl hm (by simpa using hbl) (fun i => .int .i64 (q i).1) (fun i => .string (q i).2) D0 D1 P0 P1
          (fun i him => f.cell id hbl (hin i him).2.1) (fun i him => f.cell id hbl (hin i him).2.2.1)
          (fun i him => ⟨1, by rw [(hq i him).2.2.1, (hq i him).2.2.2.2.1]; exact trod_int_mk 0 Tryz.underlying3 (hq i him).2.2.2.2.2.2.1⟩)
          (fun i him => ⟨1, by rw [(hq i him).2.2.2.1, (hq i him).2.2.2.2.2.1]; have := (hq i him).2.2.2.2.2.2.2; simp [DataW.trod, Tryz.underlying9, this]⟩)
      · obtain rfl : m = 0 := by omega
        obtain rfl : len = 0 := by omega
        refine ⟨1, ?_⟩
        simp [DataW.trod, Tryz.underlying22, Value.cells, MemPlace.row]

end Go.Proofs.YtmhaknejeobfgabGreatDoor

/- Lazy0. -/
namespace Go.Proofs.YtmhaknejeobfgabGreatDoor
open Go.RowKit Go.Proofs.YtmhaknejeobfgabGreatDoor.Stable Go.Proofs.YtmhaknejeobfgabGreatDoor.Order Go.Proofs.YtmhaknejeobfgabGreatDoor.Points
attribute [local go_sem ↓] Go.wp_at_zero Go.wp_at_succ

theorem chCells_split : ∀ (L : List Chk) (j : Nat) (u : Value), (chCells L)[j]? = some u → ∃ c, L[j / 2]? = some c ∧ ((j = j / 2 * 2 ∧ u = .int .i64 c.1) ∨ (j = j / 2 * 2 + 1 ∧ u = .string ⟨c.2.toArray⟩))
  | [], j, u, h => by cases h
  | d :: r, 0, u, h => by
    cases h
    exact ⟨d, rfl, .inl ⟨rfl, rfl⟩⟩
  | d :: r, 1, u, h => by
    cases h
    exact ⟨d, rfl, .inr ⟨rfl, rfl⟩⟩
  | d :: r, j + 2, u, h => by
    have e : chCells (d :: r) = .int .i64 d.1 :: .string ⟨d.2.toArray⟩ :: chCells r := rfl
    rw [e] at h
    obtain ⟨c, h1, h2⟩ := chCells_split r j u h
    have e2 : (j + 2) / 2 = j / 2 + 1 := by omega
    refine ⟨c, by rw [e2]; exact h1, ?_⟩
    rw [e2]
    rcases h2 with ⟨h3, h4⟩ | ⟨h3, h4⟩
    · exact .inl ⟨by omega, h4⟩
    · exact .inr ⟨by omega, h4⟩

theorem ChunksIn.cells {w : World} {hi : Nat} {ad : Addr} {L : List Chk} (h : ChunksIn w hi (some ad) L) : ∀ j u, (chCells L)[j]? = some u → w.cell? (ad.add j) = some u := fun j u hj => by
  obtain ⟨c, h1, h2⟩ := chCells_split L j u hj
  obtain ⟨b, off, e, _, _, c0, c1, _⟩ := h (j / 2) c h1
  cases e
  rw [show (⟨b, off, none⟩ : Addr).add j = ⟨b, off + j, none⟩ by unfold Addr.add; split <;> simp_all]
  rcases h2 with ⟨h3, rfl⟩ | ⟨h3, rfl⟩
  · rw [h3]; exact c0
  · rw [h3, ← Nat.add_assoc]; exact c1

theorem ChunksIn.take {w : World} {hi : Nat} {a : Option Addr} {L : List Chk} (h : ChunksIn w hi a L) (n : Nat) : ChunksIn w hi a (L.take n) := fun j c hj => by
  refine h j c ?_
  rw [List.getElem?_take] at hj
  split at hj
  · exact hj
  · cases hj

theorem ChunksIn.range {w : World} {hi : Nat} {a : Option Addr} {L : List Chk} (h : ChunksIn w hi a L) : ∀ c ∈ L, -9223372036854775808 ≤ c.1 ∧ c.1 ≤ 9223372036854775807 := fun c hc => by
  obtain ⟨j, hj⟩ := List.getElem?_of_mem hc
  obtain ⟨_, _, _, _, _, _, _, h1⟩ := h j c hj
  exact h1

theorem ChArg.kept {w w' : World} {a : Option Addr} {L : List Chk} {cp : Nat} (h : ChArg w a L cp) (f : Fr (fun _ => False) w w') : ChArg w' a L cp :=
  ⟨(h.ch.kept f (fun _ _ => id)).mono f.size, h.le, h.cap, h.nil⟩

theorem ChRow.arg {w : World} {base : Nat} {a : Option Addr} {cp : Nat} {L : List Chk} (h : ChRow w base a cp L) (hk : ∀ c ∈ L, -9223372036854775808 ≤ c.1 ∧ c.1 ≤ 9223372036854775807) : ChArg w a L cp := by
  rcases h.2 with ⟨h1, h2⟩ | ⟨g, cap, cur, hs, hb, hgg, h1, h2, h3, h4⟩
  · have h3 := h1
    rw [h2] at h3
    cases h3
    exact ⟨h.chunks hk, by omega, Nat.zero_le _, fun _ => rfl⟩
  · cases hs
    exact ⟨h.chunks hk, h1, h2, fun h => by cases h⟩

theorem ChRow.app {w' : World} {base : Nat} {L M : List Chk} {v' : Value} (h : w'.ownsRow base 49 2 v' (L.length + M.length) (chCells L ++ chCells M)) : ∃ a' c', v' = .slice a' (L ++ M).length c' ∧ ChRow w' base a' c' (L ++ M) := by
  obtain ⟨a', c', rfl⟩ := row_form h
  have e : (L ++ M).length = L.length + M.length := by simp
  refine ⟨a', c', by rw [e], ?_⟩
  unfold ChRow
  rw [e, chCells_append]
  exact h

theorem ChRow.row {w : World} {base : Nat} {a : Option Addr} {cp n : Nat} {L : List Chk} (h : ChRow w base a cp L) (hn : L.length = n) : w.ownsRow base 49 2 (.slice a n cp) n (chCells L) := by
  rw [← hn]
  exact h

theorem ChRow.of {w : World} {base : Nat} {v : Value} {n : Nat} {L : List Chk} (hn : L.length = n) (h : w.ownsRow base 49 2 v n (chCells L)) : ∃ a' c', v = .slice a' n c' ∧ ChRow w base a' c' L := by
  obtain ⟨a', c', rfl⟩ := row_form h
  refine ⟨a', c', rfl, ?_⟩
  unfold ChRow
  rw [hn]
  exact h

set_option maxRecDepth 100000 in
set_option maxHeartbeats 1600000 in
theorem with_calls {w : World} {al am : Option Addr} {cl cm n : Nat} {L M : List Chk} (hL : ChArg w al L cl) (hM : ChArg w am M cm) (hn : n ≤ L.length) (hb : L.length + M.length ≤ 4194304) :
    Calls Tryz.prog 19 #[.slice al L.length cl, .int .i64 n, .slice am M.length cm] w fun e w' => ∃ a cp, e = .returned (.slice a (L.take n ++ M).length cp) ∧ ChArg w' a (L.take n ++ M) cp ∧ Fr (fun _ => False) w w' := by
  obtain ⟨i0, hi0, hz0, hz1, hz2⟩ := info_parts Tryz.info_chunk
  have HI : Hid (Tryz.prog.info? 49 = some i0 ∧ i0.zero = some (.agg #[.int .i64 0, .string ⟨#[]⟩]) ∧ i0.size = 2 ∧ i0.bytes = 24) := ⟨hi0, hz0, hz1, hz2⟩
  have hcap : cl ≤ 9223372036854775807 := hL.cap
  have hncl : n ≤ cl := Nat.le_trans hn hL.le
  have htk : (L.take n).length = n := by rw [List.length_take]; omega
  have hpf : ChunksIn w w.heap.size al (L.take n) := hL.ch.take n
  have hall : ∀ c ∈ L.take n ++ M, -9223372036854775808 ≤ c.1 ∧ c.1 ≤ 9223372036854775807 := fun c hc => by
    rcases List.mem_append.1 hc with hc | hc
    · exact hL.ch.range c (List.mem_of_mem_take hc)
    · exact hM.ch.range c hc
  have hnil : al = none → cl = 0 := hL.nil
  generalize L.take n = Pf at *
  generalize L.length = nL at *
  obtain ⟨nM, hnM⟩ : ∃ nM, nM = M.length := ⟨_, rfl⟩
  obtain ⟨nT, hnT⟩ : ∃ nT, nT = (Pf ++ M).length := ⟨_, rfl⟩
  obtain ⟨T, hT⟩ : ∃ T, T = Pf ++ M := ⟨_, rfl⟩
  rw [← hnM, ← hnT, ← hT]
  have HT : Hid (T = Pf ++ M ∧ nT = n + nM ∧ nM = M.length ∧ Pf.length = n ∧ T.length = nT) := ⟨hT, by rw [hnT, List.length_append, htk, hnM], hnM, htk, by rw [hT, hnT]⟩
  have HB : Hid (nL + nM ≤ 4194304 ∧ n ≤ nL) := ⟨by rw [hnM]; exact hb, hn⟩
  have HM : Hid (ChArg w am M cm) := hM
  have HP : Hid (ChunksIn w w.heap.size al Pf) := hpf
  have hfin : Hid (∀ (a' : Option Addr) (c' : Nat) (w1 : World), ChRow w1 w.heap.size a' c' T → ChArg w1 a' T c') := Hid.mk0 (fun a' c' w1 h => h.arg (by rw [hT]; exact hall))
  clear hi0 hz0 hz1 hz2 hL hM hn hb hnM hnT hT htk hpf hall
  go_enter Tryz.func19, Tryz.ntmps19
  cases al with
  | none =>
    have hcl : cl = 0 := hnil rfl
    subst hcl
    have hn0 : n = 0 := by omega
    subst hn0
    have HPN : Hid (Pf = []) := Hid.mk0 (List.length_eq_zero_iff.1 HT.out.2.2.2.1)
    clear hnil
    cases am with
    | none =>
      have hcm : cm = 0 := HM.out.nil rfl
      subst hcm
      have hm0 : nM = 0 := by have := HM.out.le; have := HT.out; omega
      subst hm0
      have ht0 : nT = 0 := by have := HT.out; omega
      subst ht0
      go_wp2
      go_ret
      have e : T = [] := List.length_eq_zero_iff.1 HT.out.2.2.2.2
      exact ⟨none, 0, rfl, hfin.out none 0 w (by rw [e]; exact ChRow.none _ _), Fr.refl _ _⟩
    | some am =>
      go_wp2_with (at_builtin; refine wpList_append_own_at _ rfl _ _ 22 rfl w.heap.size 49 i0 (.agg #[.int .i64 0, .string ⟨#[]⟩]) 2 24 Tryz.underlying22 HI.out.1 HI.out.2.1 HI.out.2.2.1 HI.out.2.2.2 rfl (by decide) (.slice none 0 0) 0 [] rfl ?own am nM cm (chCells M) rfl ?ln ?cells (chCells_one _) ?len ?bytes ?base ?grow)
      case own => exact ChRow.none _ _
      case ln => rw [chCells_length, HT.out.2.2.1]
      case cells => exact HM.out.ch.cells
      case len => have := HB.out; unfold maxLen; omega
      case bytes => have := HB.out; omega
      case base => exact Nat.le_refl _
      case grow =>
        intro v1 w1 k1 g1 _ _
        have HM2 : Hid (∃ a' c', v1 = .slice a' nT c' ∧ ChRow w1 w.heap.size a' c' T) := Hid.mk0 (ChRow.of HT.out.2.2.2.2 (by
          rw [HT.out.1, HPN.out, List.nil_append, HT.out.2.1]
          simpa using k1))
        have HF : Hid (Fr (fun _ => False) w w1) := chGrown (Fr.refl _ _) (ChRow.none w w.heap.size) (Nat.le_refl _) g1
        clear k1 g1
        obtain ⟨a', c', rfl, hm⟩ := HM2.out
        have HM3 : Hid (ChRow w1 w.heap.size a' c' T) := hm
        clear hm HM2
        go_wp2
        go_ret
        exact ⟨a', c', rfl, hfin.out a' c' w1 HM3.out, HF.out⟩
  | some ad =>
    clear hnil
    go_wp2_with (at_builtin; refine wpList_append_own_at _ rfl _ _ 22 rfl w.heap.size 49 i0 (.agg #[.int .i64 0, .string ⟨#[]⟩]) 2 24 Tryz.underlying22 HI.out.1 HI.out.2.1 HI.out.2.2.1 HI.out.2.2.2 rfl (by decide) (.slice none 0 0) 0 [] rfl ?own ad n cl (chCells Pf) rfl ?ln ?cells (chCells_one _) ?len ?bytes ?base ?grow)
    case own => exact ChRow.none _ _
    case ln => rw [chCells_length, HT.out.2.2.2.1]
    case cells => exact HP.out.cells
    case len => have := HB.out; unfold maxLen; omega
    case bytes => have := HB.out; omega
    case base => exact Nat.le_refl _
    case grow =>
      intro v1 w1 k1 g1 _ _
      have HM2 : Hid (∃ a' c', v1 = .slice a' n c' ∧ ChRow w1 w.heap.size a' c' Pf) := Hid.mk0 (ChRow.of HT.out.2.2.2.1 (by simpa using k1))
      have HF : Hid (Fr (fun _ => False) w w1) := chGrown (Fr.refl _ _) (ChRow.none w w.heap.size) (Nat.le_refl _) g1
      clear k1 g1
      obtain ⟨a', c', rfl, hm⟩ := HM2.out
      have HM3 : Hid (ChRow w1 w.heap.size a' c' Pf) := hm
      clear hm HM2
      cases am with
      | none =>
        have hcm : cm = 0 := HM.out.nil rfl
        subst hcm
        have hm0 : nM = 0 := by have := HM.out.le; have := HT.out; omega
        subst hm0
        have ht0 : nT = n := by have := HT.out; omega
        subst ht0
        have e : T = Pf := by
          have : M.length = 0 := HT.out.2.2.1.symm
          rw [HT.out.1, List.length_eq_zero_iff.1 this, List.append_nil]
        subst e
        go_wp2_with (at_builtin; go_must (refine wpList_append_own_none rfl _ _ 22 rfl w.heap.size 49 i0 2 Tryz.underlying22 HI.out.1 (.slice a' nT c') nT (chCells T) rfl (HM3.out.row HT.out.2.2.2.2) rfl ?_))
        go_ret
        exact ⟨a', c', rfl, hfin.out a' c' w1 HM3.out, HF.out⟩
      | some am =>
        go_wp2_with (at_builtin; refine wpList_append_own_at _ rfl _ _ 22 rfl w.heap.size 49 i0 (.agg #[.int .i64 0, .string ⟨#[]⟩]) 2 24 Tryz.underlying22 HI.out.1 HI.out.2.1 HI.out.2.2.1 HI.out.2.2.2 rfl (by decide) (.slice a' n c') n (chCells Pf) rfl ?own am nM cm (chCells M) rfl ?ln ?cells (chCells_one _) ?len ?bytes ?base ?grow)
        case own => exact HM3.out.row HT.out.2.2.2.1
        case ln => rw [chCells_length, HT.out.2.2.1]
        case cells => exact (HM.out.kept HF.out).ch.cells
        case len => have := HB.out; unfold maxLen; omega
        case bytes => have := HB.out; omega
        case base => exact HF.out.size
        case grow =>
          intro v2 w2 k1 g1 _ _
          have HM4 : Hid (∃ a2 c2, v2 = .slice a2 nT c2 ∧ ChRow w2 w.heap.size a2 c2 T) := Hid.mk0 (ChRow.of HT.out.2.2.2.2 (by
            rw [HT.out.1, chCells_append, HT.out.2.1]
            exact k1))
          have HF2 : Hid (Fr (fun _ => False) w w2) := chGrown HF.out HM3.out (Nat.le_refl _) g1
          clear k1 g1
          obtain ⟨a2, c2, rfl, hm⟩ := HM4.out
          have HM5 : Hid (ChRow w2 w.heap.size a2 c2 T) := hm
          clear hm HM4
          go_wp2
          go_ret
          exact ⟨a2, c2, rfl, hfin.out a2 c2 w2 HM5.out, HF2.out⟩

end Go.Proofs.YtmhaknejeobfgabGreatDoor

/- Lazy1. -/
namespace Go.Proofs.YtmhaknejeobfgabGreatDoor
open Go.RowKit Go.Proofs.YtmhaknejeobfgabGreatDoor.Stable Go.Proofs.YtmhaknejeobfgabGreatDoor.Order Go.Proofs.YtmhaknejeobfgabGreatDoor.Points
attribute [local go_sem ↓] Go.wp_at_zero Go.wp_at_succ

theorem full_room {m : Int} (h0 : 0 ≤ m) (h3 : m ≤ 3) (L : List Chk) : (fullOf m L).length ≤ roomOf L := rel_length h0 h3 L L.length true

/-- A list of chunks that is small. -/
def Small (L : List Chk) : Prop := L.length ≤ 2097152 ∧ (bytesOf L).length ≤ 2097152

theorem bytes_take (L : List Chk) (n : Nat) : (bytesOf (L.take n)).length ≤ (bytesOf L).length := by
  conv => rhs; rw [← List.take_append_drop n L, bytes_append, List.length_append]
  omega

/-- The same up to a place, others behind. -/
theorem same_with {A M : List Chk} {n : Nat} (h : n < A.length) : Same A (A.take n ++ M) n := by
  have e : (A.take n).length = n := by rw [List.length_take]; omega
  refine ⟨h, by rw [List.length_append]; omega, ?_⟩
  rw [List.take_append_of_le_length (by omega), List.take_of_length_le (by omega)]

theorem small_with {A M : List Chk} {n : Nat} (h : (bytesOf A).length + A.length + (bytesOf M).length + M.length ≤ 2097152) : Small (A.take n ++ M) := by
  unfold Small
  rw [bytes_append, List.length_append, List.length_append, List.length_take]
  have := bytes_take A n
  omega

theorem stream_arg {m : Int} {a1 a2 : Option Addr} {c1 c2 n1 n2 : Nat} {A B : List Chk} {w : World} (h0 : 0 ≤ m) (h3 : m ≤ 3) (hE : Env w) (hA : ChArg w a1 A c1) (hB : ChArg w a2 B c2) (sA : Small A) (sB : Small B) (e1 : n1 = A.length) (e2 : n2 = B.length) :
    Calls Tryz.prog 16 #[.int .i64 m, .slice a1 n1 c1, .slice a2 n2 c2] w fun e w' => e = .returned (.tuple #[.agg #[.int .i64 (strm m A B).sign, .int .i64 (strm m A B).ra, .int .i64 (strm m A B).rb, .int .i64 (strm m A B).ha, .int .i64 (strm m A B).hb], .int .i64 (strm m A B).err]) ∧ Fr (fun _ => False) w w' := by
  have := sA.1
  have := sA.2
  have := sB.1
  have := sB.2
  rw [e1, e2]
  exact stream_calls m a1 a2 c1 c2 A B w h0 h3 hE hA.ch hB.ch (by omega) (by omega) (by omega) (by omega)

theorem with_arg {w : World} {al am : Option Addr} {cl cm n n1 n2 : Nat} {L M : List Chk} (hL : ChArg w al L cl) (hM : ChArg w am M cm) (hn : n ≤ L.length) (hb : L.length + M.length ≤ 4194304) (e1 : n1 = L.length) (e2 : n2 = M.length) :
    Calls Tryz.prog 19 #[.slice al n1 cl, .int .i64 n, .slice am n2 cm] w fun e w' => ∃ a cp nT, e = .returned (.slice a nT cp) ∧ nT = (L.take n ++ M).length ∧ ChArg w' a (L.take n ++ M) cp ∧ Fr (fun _ => False) w w' := by
  rw [e1, e2]
  refine (with_calls hL hM hn hb).mono ?_
  rintro e w' ⟨a, cp, h1, h2, h3⟩
  exact ⟨a, cp, _, h1, rfl, h2, h3⟩

/-- The one chunk that fails. -/
theorem stop_arg {w9 : World} {sg : Int} {ra rb ha hb : Nat} : ChArg ((w9.alloc (outC sg ra rb ha hb)).alloc (.cells #[.int .i64 1, .string ⟨#[]⟩] 49)) (some ⟨w9.heap.size + 1, 0, none⟩) [((1 : Int), [])] 1 := by
  have hb : ((w9.alloc (outC sg ra rb ha hb)).alloc (.cells #[.int .i64 1, .string ⟨#[]⟩] 49)).heap[w9.heap.size + 1]? = some (.cells #[.int .i64 1, .string ⟨#[]⟩] 49 (0, 0)) := by
    have := heap_alloc_new (w9.alloc (outC sg ra rb ha hb)) (.cells #[.int .i64 1, .string ⟨#[]⟩] 49)
    rwa [show (w9.alloc (outC sg ra rb ha hb)).heap.size = w9.heap.size + 1 by simp] at this
  refine ⟨fun j c hj => ?_, Nat.le_refl _, by unfold maxLen; omega, fun h => by cases h⟩
  have hj0 : j = 0 := by
    have := (List.getElem?_eq_some_iff.1 hj).1
    simp at this
    exact this
  subst hj0
  cases hj
  exact ⟨_, _, rfl, lt_of hb, lt_of hb, cell_of hb rfl, cell_of hb rfl, by decide, by decide⟩

theorem stop_at {A : List Chk} {r : Nat} (h : r < A.length) : (A.take r ++ [((1 : Int), [])])[r]? = some ((1 : Int), []) := by
  have e : (A.take r).length = r := by rw [List.length_take]; omega
  rw [List.getElem?_append_right (by omega), e, Nat.sub_self]
  rfl

/-- A source that may have been changed behind r reads. -/
structure SideArg (w : World) (a : Option Addr) (n cp : Nat) (A A' : List Chk) (r : Nat) : Prop where
  arg : ChArg w a A' cp
  len : n = A'.length
  side : Side A A' r
  small : Small A'

theorem SideArg.kept {w w' : World} {a : Option Addr} {n cp : Nat} {A A' : List Chk} {r : Nat} (h : SideArg w a n cp A A' r) (f : Fr (fun _ => False) w w') : SideArg w' a n cp A A' r := { h with arg := h.arg.kept f }

set_option maxRecDepth 100000 in
set_option maxHeartbeats 3200000 in
theorem lazy_walk (raw : Int) (a1 : Option Addr) (p1 : Nat) (A : List Chk) (a2 : Option Addr) (p2 : Nat) (B : List Chk) (a3 : Option Addr) (p3 : Nat) (M : List Chk) (w : World) (r0 : -9223372036854775808 ≤ raw) (r1 : raw ≤ 9223372036854775807) (hE : Env w) (hA : ChArg w a1 A p1) (hB : ChArg w a2 B p2) (hM : ChArg w a3 M p3) (hb : (bytesOf A).length + A.length + ((bytesOf B).length + B.length) + ((bytesOf M).length + M.length) ≤ 1048576) :
    Calls Tryz.prog 6 #[.int .i64 raw, .slice a1 A.length p1, .slice a2 B.length p2, .slice a3 M.length p3] w fun e w' => e = .returned (.bool true) ∧ Fr (fun _ => False) w w' := by
  have HE : Hid (Env w) := hE
  have HB : Hid ((bytesOf A).length + A.length + ((bytesOf B).length + B.length) + ((bytesOf M).length + M.length) ≤ 1048576) := hb
  have HC : Hid (ChArg w a1 A p1 ∧ ChArg w a2 B p2 ∧ ChArg w a3 M p3) := ⟨hA, hB, hM⟩
  obtain ⟨nA, hnA⟩ : ∃ nA, nA = A.length := ⟨_, rfl⟩
  obtain ⟨nB, hnB⟩ : ∃ nB, nB = B.length := ⟨_, rfl⟩
  obtain ⟨nM, hnM⟩ : ∃ nM, nM = M.length := ⟨_, rfl⟩
  rw [← hnA, ← hnB, ← hnM]
  have HNL : Hid (nA = A.length ∧ nB = B.length ∧ nM = M.length) := ⟨hnA, hnB, hnM⟩
  have HSM : Hid (Small A ∧ Small B) := ⟨⟨by omega, by omega⟩, by omega, by omega⟩
  clear hE hA hB hM hb hnA hnB hnM
  go_enter Tryz.func6, Tryz.ntmps6
  go_wp2_with fail
  refine (pick_calls raw 4 w r0 r1 (by omega) (by omega)).mono ?_
  rintro e w' ⟨m, rfl, hm, hw⟩
  have hw' := hw.symm
  subst hw'
  clear hw r0 r1
  have HM : Hid ((0 : Int) ≤ (m : Int) ∧ (m : Int) ≤ 3) := ⟨by omega, by omega⟩
  clear hm
  go_wp2_with fail
  refine (known_calls m w HM.out.1 HM.out.2 HE.out).mono ?_
  rintro e w1 ⟨rfl, hf1⟩
  have HF1 : Hid (Fr (fun _ => False) w w1) := hf1
  clear hf1
  go_wp2_with fail
  have hst := stream_arg (n1 := nA) (n2 := nB) HM.out.1 HM.out.2 (HE.out.kept HF1.out (fun _ _ => id)) (HC.out.1.kept HF1.out) (HC.out.2.1.kept HF1.out) HSM.out.1 HSM.out.2 HNL.out.1 HNL.out.2.1
  have hany : AnyCmp A B (strm m A B) := strm_any (rel_length HM.out.1 HM.out.2 A A.length true)
  obtain ⟨G, hG⟩ : ∃ G, strm m A B = G := ⟨_, rfl⟩
  rw [hG] at hst hany
  have HG : Hid (strm m A B = G) := hG
  obtain ⟨sg, ra, rb, ha, hb', er⟩ := G
  have k1 : ra ≤ nA := by rw [HNL.out.1]; exact hany.ra
  have k2 : rb ≤ nB := by rw [HNL.out.2.1]; exact hany.rb
  dsimp only at hst
  refine hst.mono ?_
  clear hst hG hany
  rintro e w5 ⟨rfl, hf5⟩
  have HF5 : Hid (Fr (fun _ => False) w w5) := HF1.out.trans hf5 (fun _ _ h => h)
  clear hf5 HF1
  have k3 : (0 : Int) ≤ (ra : Int) := by omega
  have k4 : (ra : Int) ≤ (nA : Int) := by omega
  have k5 : (0 : Int) ≤ (rb : Int) := by omega
  have k6 : (rb : Int) ≤ (nB : Int) := by omega
  by_cases her : er = 0
  case neg =>
    have z0 : (er != 0) = true := by rw [bne_iff_ne]; exact her
    go_wp2
    go_ret
    exact ⟨rfl, HF5.out.alloc _⟩
  subst her
  go_upto_if 66 with fail
  change Code.wp _ _ _ _ (w5.alloc (outC sg ra rb ha hb'))
  have ho6 : (w5.alloc (outC sg ra rb ha hb')).heap[w5.heap.size]? = some (outC sg ra rb ha hb') := heap_alloc_new w5 _
  have hf6 : Fr (fun _ => False) w5 (w5.alloc (outC sg ra rb ha hb')) := (Fr.refl _ _).alloc _
  have HF6 : Hid (Fr (fun _ => False) w (w5.alloc (outC sg ra rb ha hb'))) := HF5.out.trans hf6 (fun _ _ h => h)
  have HO6 : Hid ((w5.alloc (outC sg ra rb ha hb')).heap[w5.heap.size]? = some (outC sg ra rb ha hb')) := ho6
  clear ho6 hf6 HF5
  obtain ⟨vo, hvo⟩ : ∃ vo, vo = w5.heap.size := ⟨_, rfl⟩
  rw [← hvo] at HO6 ⊢
  generalize w5.alloc (outC sg ra rb ha hb') = w6 at *
  clear hvo
  have o1 : w6.cell? ⟨vo, 1, none⟩ = some (.int .i64 ra) := cell_of HO6.out rfl
  go_cut [13] (fun v13 wc => ∃ ax nx cx A', v13 = .slice ax nx cx ∧ Hid (SideArg wc ax nx cx A A' ra) ∧ Hid (Fr (fun _ => False) w6 wc))
  case first =>
    by_cases hlt : ra < nA
    · have t1 : (ra : Int) < (nA : Int) := by omega
      have t2 : decide (ra < nA) = true := decide_eq_true hlt
      have HLT : Hid (ra < nA) := hlt
      clear hlt
      go_wp2_with fail
      refine (with_arg (HC.out.1.kept HF6.out) (HC.out.2.2.kept HF6.out) (by have := HLT.out; have := HNL.out; omega) (by have := HB.out; omega) HNL.out.1 HNL.out.2.2).mono ?_
      rintro e w7 ⟨ax, cx, nx, rfl, e1, e2, e3⟩
      have HS : Hid (SideArg w7 ax nx cx A (A.take ra ++ M) ra ∧ Fr (fun _ => False) w6 w7) := ⟨⟨e2, e1, .inr (same_with (by have := HLT.out; have := HNL.out; omega)), small_with (by have := HB.out; omega)⟩, e3⟩
      clear e1 e2 e3
      go_wp2
      go_meet
      case rel => exact ⟨ax, nx, cx, _, rfl, HS.out.1, HS.out.2⟩
    · have t1 : ¬ (ra : Int) < (nA : Int) := by omega
      have t2 : decide (ra < nA) = false := decide_eq_false hlt
      clear hlt
      go_wp2
      go_meet
      case rel => exact ⟨a1, nA, p1, A, rfl, ⟨HC.out.1.kept HF6.out, HNL.out.1, .inl rfl, HSM.out.1⟩, Fr.refl _ _⟩
  case rest =>
    obtain ⟨wv, hwv⟩ : ∃ wv, wv = wc := ⟨_, rfl⟩
    subst hwv
    obtain ⟨ax, nx, cx, A', rfl, HSA, HFc⟩ := hcut
    have HO7 : Hid (wv.heap[vo]? = some (outC sg ra rb ha hb')) := (HFc.out.block vo (lt_of HO6.out) id).trans HO6.out
    have HF7 : Hid (Fr (fun _ => False) w wv) := HF6.out.trans HFc.out (fun _ _ h => h)
    have o2 : wv.cell? ⟨vo, 2, none⟩ = some (.int .i64 rb) := cell_of HO7.out rfl
    clear o1 HF6 HO6 HFc
    go_upto_if 77 with fail
    go_cut [14] (fun v14 wx => ∃ ay ny cy B', v14 = .slice ay ny cy ∧ Hid (SideArg wx ay ny cy B B' rb) ∧ Hid (Fr (fun _ => False) wv wx))
    case first =>
      by_cases hlt : rb < nB
      · have t1 : (rb : Int) < (nB : Int) := by omega
        have t2 : decide (rb < nB) = true := decide_eq_true hlt
        have HLT : Hid (rb < nB) := hlt
        clear hlt
        go_wp2_with fail
        refine (with_arg (HC.out.2.1.kept HF7.out) (HC.out.2.2.kept HF7.out) (by have := HLT.out; have := HNL.out; omega) (by have := HB.out; omega) HNL.out.2.1 HNL.out.2.2).mono ?_
        rintro e w7 ⟨ay, cy, ny, rfl, e1, e2, e3⟩
        have HS : Hid (SideArg w7 ay ny cy B (B.take rb ++ M) rb ∧ Fr (fun _ => False) wv w7) := ⟨⟨e2, e1, .inr (same_with (by have := HLT.out; have := HNL.out; omega)), small_with (by have := HB.out; omega)⟩, e3⟩
        clear e1 e2 e3
        go_wp2
        go_meet
        case rel => exact ⟨ay, ny, cy, _, rfl, HS.out.1, HS.out.2⟩
      · have t1 : ¬ (rb : Int) < (nB : Int) := by omega
        have t2 : decide (rb < nB) = false := decide_eq_false hlt
        clear hlt
        go_wp2
        go_meet
        case rel => exact ⟨a2, nB, p2, B, rfl, ⟨HC.out.2.1.kept HF7.out, HNL.out.2.1, .inl rfl, HSM.out.2⟩, Fr.refl _ _⟩
    case rest =>
      obtain ⟨wd, hwd⟩ : ∃ wd, wd = wc := ⟨_, rfl⟩
      subst hwd
      obtain ⟨ay, ny, cy, B', rfl, HSB, HFd⟩ := hcut
      have HO8 : Hid (wd.heap[vo]? = some (outC sg ra rb ha hb')) := (HFd.out.block vo (lt_of HO7.out) id).trans HO7.out
      have HF8 : Hid (Fr (fun _ => False) w wd) := HF7.out.trans HFd.out (fun _ _ h => h)
      have HSA8 : Hid (SideArg wd ax nx cx A A' ra) := HSA.out.kept HFd.out
      clear o2 HF7 HO7 HFd HSA
      go_wp2_with fail
      have hst := stream_arg HM.out.1 HM.out.2 (HE.out.kept HF8.out (fun _ _ => id)) HSA8.out.arg HSB.out.arg HSA8.out.small HSB.out.small HSA8.out.len HSB.out.len
      rw [strm_side (rel_length HM.out.1 HM.out.2 A A.length true) (rel_length HM.out.1 HM.out.2 A' A'.length true) (by rw [HG.out]) (by rw [HG.out]; exact HSA8.out.side) (by rw [HG.out]; exact HSB.out.side), HG.out] at hst
      dsimp only at hst
      refine hst.mono ?_
      clear hst
      rintro e w9 ⟨rfl, hf9⟩
      have HF9 : Hid (Fr (fun _ => False) w w9) := HF8.out.trans hf9 (fun _ _ h => h)
      have HO9 : Hid (w9.heap[vo]? = some (outC sg ra rb ha hb')) := (hf9.block vo (lt_of HO8.out) id).trans HO8.out
      have hvo : vo < w9.heap.size := lt_of HO9.out
      have o0 : w9.cell? ⟨vo, 0, none⟩ = some (.int .i64 sg) := cell_of HO9.out rfl
      have o1 : w9.cell? ⟨vo, 1, none⟩ = some (.int .i64 ra) := cell_of HO9.out rfl
      have o2 : w9.cell? ⟨vo, 2, none⟩ = some (.int .i64 rb) := cell_of HO9.out rfl
      have o3 : w9.cell? ⟨vo, 3, none⟩ = some (.int .i64 ha) := cell_of HO9.out rfl
      have o4 : w9.cell? ⟨vo, 4, none⟩ = some (.int .i64 hb') := cell_of HO9.out rfl
      clear hf9 HF8 HO8 HSA8 HSB
      go_upto_if 101 with fail
      change Code.wp _ _ _ _ ((w9.alloc (outC sg ra rb ha hb')).alloc (.cells #[.int .i64 1, .string ⟨#[]⟩] 49))
      have HSTu := Hid.mk0 (stop_arg (w9 := w9) (sg := sg) (ra := ra) (rb := rb) (ha := ha) (hb := hb'))
      have hf10 : Fr (fun _ => False) w9 ((w9.alloc (outC sg ra rb ha hb')).alloc (.cells #[.int .i64 1, .string ⟨#[]⟩] 49)) := ((Fr.refl _ _).alloc _).alloc _
      have HFu : Hid (Fr (fun _ => False) w ((w9.alloc (outC sg ra rb ha hb')).alloc (.cells #[.int .i64 1, .string ⟨#[]⟩] 49))) := HF9.out.trans hf10 (fun _ _ h => h)
      have HOu : Hid (((w9.alloc (outC sg ra rb ha hb')).alloc (.cells #[.int .i64 1, .string ⟨#[]⟩] 49)).heap[vo]? = some (outC sg ra rb ha hb')) := (hf10.block vo (lt_of HO9.out) id).trans HO9.out
      clear hf10 o0 o1 o2 o3 o4 hvo HF9 HO9
      obtain ⟨vs, hvs⟩ : ∃ vs, vs = w9.heap.size + 1 := ⟨_, rfl⟩
      obtain ⟨vp, hvp⟩ : ∃ vp, vp = w9.heap.size := ⟨_, rfl⟩
      rw [← hvs] at HSTu ⊢
      rw [← hvp]
      generalize ((w9.alloc (outC sg ra rb ha hb')).alloc (.cells #[.int .i64 1, .string ⟨#[]⟩] 49)) = wu at *
      clear hvs hvp
      have o1 : wu.cell? ⟨vo, 1, none⟩ = some (.int .i64 ra) := cell_of HOu.out rfl
      go_cut [18] (fun _ wx => Hid (Fr (fun _ => False) wu wx))
      case first =>
        by_cases hz : 0 < ra
        · have t1 : (0 : Int) < (ra : Int) := by omega
          have t2 : decide (0 < ra) = true := decide_eq_true hz
          obtain ⟨r, hr⟩ : ∃ r, ra = r + 1 := ⟨ra - 1, by omega⟩
          have HR : Hid (ra = r + 1 ∧ ra ≤ nA) := ⟨hr, by omega⟩
          have hra : (r : Int) ≤ 1048576 := by have := HB.out; have := HNL.out; omega
          have hsub : IntKind.i64.wrap ((ra : Int) - 1) = (r : Int) := by
            rw [show (ra : Int) - 1 = (r : Int) by omega]
            exact Go.IntWalk.i64_in _ ⟨by omega, by omega⟩
          clear hz hr
          go_wp2_with fail
          refine (with_arg (HC.out.1.kept HFu.out) HSTu.out (n := r) (by have := HR.out; have := HNL.out; omega) (by have := HB.out; simp; omega) HNL.out.1 (by rfl)).mono ?_
          rintro e wy ⟨az, cz, nz, rfl, e1, e2, e3⟩
          have HT : Hid (ChArg wy az (A.take r ++ [((1 : Int), [])]) cz ∧ nz = (A.take r ++ [((1 : Int), [])]).length ∧ Small (A.take r ++ [((1 : Int), [])])) := ⟨e2, e1, small_with (by have := HB.out; simp [bytesOf] at this ⊢; omega)⟩
          have HFy : Hid (Fr (fun _ => False) wu wy) := e3
          have HFx : Hid (Fr (fun _ => False) w wy) := HFu.out.trans e3 (fun _ _ h => h)
          clear e1 e2 e3 hsub
          go_wp2_with fail
          have hst := stream_arg HM.out.1 HM.out.2 (HE.out.kept HFx.out (fun _ _ => id)) HT.out.1 (HC.out.2.1.kept HFx.out) HT.out.2.2 HSM.out.2 HT.out.2.1 HNL.out.2.1
          have hne : (strm m (A.take r ++ [((1 : Int), [])]) B).err = 2 := strm_needA (rel_length HM.out.1 HM.out.2 A A.length true) (full_room HM.out.1 HM.out.2 _) (by rw [HG.out]) (by rw [HG.out]; exact HR.out.1) (same_with (by have := HR.out; have := HNL.out; omega)) (stop_at (by have := HR.out; have := HNL.out; omega))
          obtain ⟨G2, hG2⟩ : ∃ G2, strm m (A.take r ++ [((1 : Int), [])]) B = G2 := ⟨_, rfl⟩
          rw [hG2] at hst hne
          obtain ⟨sg2, ra2, rb2, ha2, hb2, er2⟩ := G2
          dsimp only at hst hne
          subst hne
          clear hG2
          refine hst.mono ?_
          clear hst
          rintro e wz ⟨rfl, hfz⟩
          have HFz : Hid (Fr (fun _ => False) wu wz) := HFy.out.trans hfz (fun _ _ h => h)
          clear hfz HFy HFx HT HR
          go_wp2
          go_meet
          case rel => exact HFz.out.alloc _
        · have t1 : ¬ (0 : Int) < (ra : Int) := by omega
          have t2 : decide (0 < ra) = false := decide_eq_false hz
          clear hz
          go_wp2
          go_meet
          case rel => exact Fr.refl _ _
      case rest =>
        have HFc : Hid (Fr (fun _ => False) wu wc) := hcut
        have HSTc := Hid.mk0 (HSTu.out.kept HFc.out)
        have HFw : Hid (Fr (fun _ => False) w wc) := HFu.out.trans HFc.out (fun _ _ h => h)
        have HOc : Hid (wc.heap[vo]? = some (outC sg ra rb ha hb')) := (HFc.out.block vo (lt_of HOu.out) id).trans HOu.out
        clear hcut HFc HSTu HFu HOu o1
        obtain ⟨wu, hwu⟩ : ∃ wu, wu = wc := ⟨_, rfl⟩
        subst hwu
        have HSTu := HSTc
        have HFu := HFw
        clear HSTc HFw
        have o2 : wu.cell? ⟨vo, 2, none⟩ = some (.int .i64 rb) := cell_of HOc.out rfl
        by_cases hz : 0 < rb
        · have t1 : (0 : Int) < (rb : Int) := by omega
          have t2 : decide (0 < rb) = true := decide_eq_true hz
          obtain ⟨r, hr⟩ : ∃ r, rb = r + 1 := ⟨rb - 1, by omega⟩
          have HR : Hid (rb = r + 1 ∧ rb ≤ nB) := ⟨hr, by omega⟩
          have hra : (r : Int) ≤ 1048576 := by have := HB.out; have := HNL.out; omega
          have hsub : IntKind.i64.wrap ((rb : Int) - 1) = (r : Int) := by
            rw [show (rb : Int) - 1 = (r : Int) by omega]
            exact Go.IntWalk.i64_in _ ⟨by omega, by omega⟩
          clear hz hr
          go_wp2_with fail
          refine (with_arg (HC.out.2.1.kept HFu.out) HSTu.out (n := r) (by have := HR.out; have := HNL.out; omega) (by have := HB.out; simp; omega) HNL.out.2.1 (by rfl)).mono ?_
          rintro e wy ⟨az, cz, nz, rfl, e1, e2, e3⟩
          have HT : Hid (ChArg wy az (B.take r ++ [((1 : Int), [])]) cz ∧ nz = (B.take r ++ [((1 : Int), [])]).length ∧ Small (B.take r ++ [((1 : Int), [])])) := ⟨e2, e1, small_with (by have := HB.out; simp [bytesOf] at this ⊢; omega)⟩
          have HFy : Hid (Fr (fun _ => False) wu wy) := e3
          have HFx : Hid (Fr (fun _ => False) w wy) := HFu.out.trans e3 (fun _ _ h => h)
          clear e1 e2 e3 hsub
          go_wp2_with fail
          have hst := stream_arg HM.out.1 HM.out.2 (HE.out.kept HFx.out (fun _ _ => id)) (HC.out.1.kept HFx.out) HT.out.1 HSM.out.1 HT.out.2.2 HNL.out.1 HT.out.2.1
          have hne : (strm m A (B.take r ++ [((1 : Int), [])])).err = 2 := strm_needB (rel_length HM.out.1 HM.out.2 A A.length true) (by rw [HG.out]) (by rw [HG.out]; exact HR.out.1) (same_with (by have := HR.out; have := HNL.out; omega)) (stop_at (by have := HR.out; have := HNL.out; omega))
          obtain ⟨G2, hG2⟩ : ∃ G2, strm m A (B.take r ++ [((1 : Int), [])]) = G2 := ⟨_, rfl⟩
          rw [hG2] at hst hne
          obtain ⟨sg2, ra2, rb2, ha2, hb2, er2⟩ := G2
          dsimp only at hst hne
          subst hne
          clear hG2
          refine hst.mono ?_
          clear hst
          rintro e wz ⟨rfl, hfz⟩
          have HFz : Hid (Fr (fun _ => False) wu wz) := HFy.out.trans hfz (fun _ _ h => h)
          clear hfz HFy HFx HT HR
          go_wp2
          go_ret
          exact ⟨rfl, HFu.out.trans (HFz.out.alloc _) (fun _ _ h => h)⟩
        · have t1 : ¬ (0 : Int) < (rb : Int) := by omega
          have t2 : decide (0 < rb) = false := decide_eq_false hz
          clear hz
          go_wp2
          go_ret
          exact ⟨rfl, HFu.out⟩

end Go.Proofs.YtmhaknejeobfgabGreatDoor

/- ConLazy. -/
namespace Go.Proofs.YtmhaknejeobfgabGreatDoor.lazyProof
open Go.ChangeShapes Go.WideShapes Go.ChangeAt Go.RowKit
open Go.ChangeMaps (open_string shut_string)

set_option maxRecDepth 100000 in
theorem contract (H : Type) (enc : TypeId × Value → H) (F : Stop.Interp) (W : World) (base : Nat) (args : Array Value) (ds gs : List (DataW H)) (before : List MemPlace)
    (hval : ∀ (j : Nat) t v, Tryz.f6.params[j]? = some t → args[j]? = some v → Value.okWide Tryz.prog W .any base t v)
    (hW : DataW.Whole enc Tryz.prog Tryz.f6.params.toList (Rows.OpenSpec.upto Rows.lazySpec).vars false W args.toList ds gs before)
    (hcond : ∀ k, (Rows.OpenSpec.upto Rows.lazySpec).cond = some k → k H (ds ++ gs) = true) (hL : laidMetH Tryz.prog laidL W) (hsh : W.ShapedOpen Tryz.prog) :
    Calls Tryz.prog 6 args W fun e W' => ∃ v, e = .returned v ∧ ((Rows.OpenSpec.upto Rows.lazySpec).at F).post enc Tryz.prog Tryz.f6 false true false false W args v W' := by
  have hW' := hW
  obtain ⟨p, q, hA0, hV0, rfl, _, _⟩ := hW
  have hA : DataW.TrodAll enc Tryz.prog W 0 (fun _ => true) true Tryz.f6.params.toList args.toList ds p := hA0
  rw [Tryz.params6] at hA hval
  obtain ⟨v0, vs0, d0, ds0, p0, q0, hargs, rfl, rfl, h0, t0⟩ := trodAll_cons hA
  obtain ⟨v1, vs1, d1, ds1, p1, q1, rfl, rfl, rfl, h1, t1⟩ := trodAll_cons t0
  obtain ⟨v2, vs2, d2, ds2, p2, q2, rfl, rfl, rfl, h2, t2⟩ := trodAll_cons t1
  obtain ⟨v3, vs3, d3, ds3, p3, q3, rfl, rfl, rfl, h3, t3⟩ := trodAll_cons t2
  obtain ⟨rfl, rfl, rfl⟩ := trodAll_nil t3
  obtain rfl : args = #[v0, v1, v2, v3] := by cases args; simp_all
  obtain ⟨rfl, rfl⟩ := trodVars_none hV0
  obtain ⟨x0, rfl, rfl, rfl, w0⟩ := open_int Tryz.underlying3 (hval 0 3 v0 rfl rfl) h0
  obtain ⟨a1, c1, L1, rfl, i1, u1, s1⟩ := chunks_arg (hval 1 22 v1 rfl rfl) h1
  obtain ⟨a2, c2, L2, rfl, i2, u2, s2⟩ := chunks_arg (hval 2 22 v2 rfl rfl) h2
  obtain ⟨a3, c3, L3, rfl, i3, u3, s3⟩ := chunks_arg (hval 3 22 v3 rfl rfl) h3
  clear hA0
  simp only [List.append_nil] at hW' hcond
  have hk := hcond Rows.uptoSmall rfl
  have hb : (bytesOf L1).length + L1.length + (bytesOf L2).length + L2.length + (bytesOf L3).length + L3.length ≤ 1048576 := by
    have h := of_decide_eq_true hk
    simp only [Rows.uptoBulkAll, Rows.uptoBulk] at h
    omega
  have r0 := int_range w0
  refine (lazy_walk x0 a1 c1 L1 a2 c2 L2 a3 c3 L3 W r0.1 r0.2 (env_of hL hsh) i1 i2 i3 (by omega)).mono ?_
  rintro e W' ⟨rfl, hf⟩
  have bel := hf.below
  refine ⟨_, rfl, [.lit (.int .i64 x0), d1, d2, d3], [], _, [], ([] ++ (p1 ++ (p2 ++ (p3 ++ [])))), [], hW', ?_, ?_, ?_, bel.frame _, fun h => by cases h⟩
  · exact trodAll_mk1 (shut_bool Tryz.underlying4 _)
  · exact (trodAll_cons_mk (shut_int Tryz.underlying3 w0) (trodAll_cons_mk (s1 W' hf) (trodAll_cons_mk (s2 W' hf) (trodAll_cons_mk (s3 W' hf) trodAll_mk0))))
  · rfl

end Go.Proofs.YtmhaknejeobfgabGreatDoor.lazyProof
