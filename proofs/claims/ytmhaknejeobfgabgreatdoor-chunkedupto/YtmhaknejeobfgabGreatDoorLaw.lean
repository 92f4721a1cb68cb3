/- What the listed variables give at the call's first world, and a world that holds them. Lists that came in: read by the walk, and read again behind it. The law Chunked, walked: it answers true. What the law Chunked asks of its arguments, and what its walk gives. -/
import Derived.Test.YtmhaknejeobfgabGreatDoorTables
import Derived.Test.YtmhaknejeobfgabGreatDoorBase
import Derived.Test.YtmhaknejeobfgabGreatDoorShelf
import Derived.Test.YtmhaknejeobfgabGreatDoorRows
import Derived.Deep.DeepHandedRow
import Derived.Deep.DeepWitnessRowRef
import Derived.Lib.LaidTab
import Derived.Lib.LaidU8
import Derived.ProofKit
import Derived.Deep.DeepLaidRun
import Derived.Test.YtmhaknejeobfgabGreatDoorKeys
import Derived.OpenShut
import Derived.ChangeSlices
import Derived.Test.YtmhaknejeobfgabGreatDoorChPlain
import Derived.Test.YtmhaknejeobfgabGreatDoorDigesting
import Derived.Test.YtmhaknejeobfgabGreatDoorComparing

/- Frame. -/
namespace Go.Proofs.YtmhaknejeobfgabGreatDoor
open Go.RowKit Go.ChangeShapes Go.WideShapes Go.ChangeAt

theorem own : ownKnob Tryz.prog.godebug = none := by kernel_rfl

theorem int_range {raw : Int} (h : (Lit.int .i64 raw).wf = true) : -9223372036854775808 ≤ raw ∧ raw ≤ 9223372036854775807 := by
  have h' : (decide (IntKind.i64.min ≤ raw) && decide (raw ≤ IntKind.i64.max)) = true := h
  rw [Bool.and_eq_true, decide_eq_true_eq, decide_eq_true_eq] at h'
  have e1 : IntKind.i64.min = -9223372036854775808 := by decide
  have e2 : IntKind.i64.max = 9223372036854775807 := by decide
  rw [e1, e2] at h'
  exact h'

/-- What the rows list. -/
def laidL : List (String × DataW Unit) := Rows.chunkedUptoRow.laid

theorem laid_first : ("unicode/utf8.first", Lib.firstData) ∈ laidL := by
  have : laidL[8]? = some ("unicode/utf8.first", Lib.firstData) := by kernel_rfl
  exact List.mem_of_getElem? this

theorem laid_accept : ("unicode/utf8.acceptRanges", Lib.acceptData) ∈ laidL := by
  have : laidL[3]? = some ("unicode/utf8.acceptRanges", Lib.acceptData) := by kernel_rfl
  exact List.mem_of_getElem? this

theorem laid_space : ("strings.asciiSpace", Lib.tabData .u8 Lib.asciiSpaceTab) ∈ laidL := by
  have : laidL[7]? = some ("strings.asciiSpace", Lib.tabData .u8 Lib.asciiSpaceTab) := by kernel_rfl
  exact List.mem_of_getElem? this

theorem gSpace : Tryz.prog.globalNamed "strings.asciiSpace" = some 2 := by kernel_rfl
theorem gSpaceType : (Tryz.prog.globals[2]?).map (·.type) = some 179 := by kernel_rfl
theorem cellsTab : Tryz.prog.cellsOf 179 = 256 := by kernel_rfl
theorem cellsByte : Tryz.prog.cellsOf 5 = 1 := by kernel_rfl

theorem tabIs_of_reads {P : Program} {W : World} {name : String} {k : IntKind} {zs : List Int} {g : Nat} {t e : TypeId} {n : Nat}
    (hg : P.globalNamed name = some g) (hty : (P.globals[g]?).map (·.type) = some t) (ht : P.underlying t = some (.array n e)) (he : P.underlying e = some (.int k)) (hce : P.cellsOf e = 1) (hct : P.cellsOf t = n)
    (h : Lib.VarReads P W name (Lib.tabData k zs)) : Lib.TabIs P W name k zs := by
  obtain ⟨g', t', cs, fuel, p, hg', ht', hvar, hd⟩ := h
  obtain rfl := Option.some.inj (hg.symm.trans hg')
  obtain rfl := Option.some.inj (hty.symm.trans ht')
  unfold Lib.TabIs
  rw [hvar, ← Lib.cells_of_tab ht he hce hct hd]

/-- WHAT THE LIST AND THE WORLD'S SHAPE GIVE: all that the walks ask of the globals. -/
theorem env_of {W : World} (hL : laidMetH Tryz.prog laidL W) (hsh : W.ShapedOpen Tryz.prog) : Env W := by
  have hM : laidMet Tryz.prog laidL W := hL
  refine ⟨?_, Tryz.laysM219.s1_3 W hsh, ?_, ?_⟩
  · obtain ⟨cs, h, _⟩ := hsh.1 10 #[.pointer none] 206 (by decide +kernel) (by kernel_rfl)
    exact lt_of h
  · exact tabIs_of_reads gSpace gSpaceType Tryz.underlying179 Tryz.underlying5 cellsByte cellsTab (Lib.laidMet.reads hM laid_space)
  · exact utf8Tabs_of_reads { Tryz.lays260 with } ⟨by kernel_rfl, by kernel_rfl, by kernel_rfl, by kernel_rfl, by kernel_rfl, by kernel_rfl, by kernel_rfl⟩ (Lib.laidMet.reads hM laid_first) (Lib.laidMet.reads hM laid_accept)

/-- The bytes of a listed text. -/
def laidBytes : DataW Unit → List UInt8
  | .iface _ (.ptr (.agg [.lit (.string l)])) => l
  | _ => []

def intsOf : DataW Unit → List Value
  | .agg l => l.map fun | .lit (.int k z) => .int k z | _ => .bool false
  | _ => []

/-- A WORLD FOR THE WITNESS: the settled one with four blocks more (the texts of two errors; a table's ranges; the table), the nine listed variables holding what their initialisers lay. -/
def laidWorld (P : Program) (os : Os) : World :=
  let N := (World.settled P os).heap.size
  let w0 := World.holding P os ⟨#[.cells #[.string ⟨(laidBytes Rows.laid_strconv_ErrRange).toArray⟩] 241, .cells #[.string ⟨(laidBytes Rows.laid_strconv_ErrSyntax).toArray⟩] 241,
    .cells (Lib.whiteT.map fun (z : Nat) => Value.int .u16 (z : Int)).toArray 220, .cells #[.slice (some ⟨N + 2, 0, none⟩) 7 7, .slice none 0 0, .int .i64 2] 217], #[], []⟩
  let put (h : Array Obj) (g : Nat) (cs : Array Value) : Array Obj := h.modify g fun
    | .cells _ t frozen => .cells cs t frozen
    | o => o
  let h1 := put w0.heap 2 (Lib.asciiSpaceTab.map fun z => Value.int .u8 z).toArray
  let h2 := put h1 0 (Lib.firstTab.map fun z => Value.int .u8 z).toArray
  let h3 := put h2 1 ((List.range 16).flatMap fun i => [Value.int .u8 (Lib.accLo i), Value.int .u8 (Lib.accHi i)]).toArray
  let h4 := put h3 3 #[.pointer (some ⟨N + 3, 0, none⟩)]
  let h5 := put h4 5 #[.iface 239 (.pointer (some ⟨N, 0, none⟩))]
  let h6 := put h5 4 #[.iface 239 (.pointer (some ⟨N + 1, 0, none⟩))]
  let h7 := put h6 8 (intsOf Rows.laid_math_bits_deBruijn32tab).toArray
  let h8 := put h7 9 (intsOf Rows.laid_math_bits_deBruijn64tab).toArray
  let h9 := put h8 7 (intsOf Rows.laid_internal_strconv_uint64pow10).toArray
  { w0 with heap := h9 }

theorem laid_met (os : Os) (args : Array Value) : laidMet Tryz.prog laidL ((laidWorld Tryz.prog os).forCall (fun _ _ => 0) ⟨#[], args, []⟩).memory :=
  laidMet_of_run3 8 (by kernel_rfl) (by kernel_rfl) (by kernel_rfl)

end Go.Proofs.YtmhaknejeobfgabGreatDoor

/- Args. -/
namespace Go.Proofs.YtmhaknejeobfgabGreatDoor
open Go.ChangeShapes Go.WideShapes Go.ChangeAt Go.RowKit
open Go.ChangeMaps (open_string shut_string)

theorem Tryz.cells_int : Tryz.prog.cellsOf 3 = 1 := by kernel_rfl

theorem lits_bulk {H : Type} : ∀ zs : List Int, Rows.uptoBulkAll (lits (H := H) .i64 zs) = zs.length
  | [] => by simp [lits, Rows.uptoBulkAll]
  | z :: zs => by
    have ih := lits_bulk (H := H) zs
    simp only [lits, List.map_cons, Rows.uptoBulkAll, Rows.uptoBulk, List.length_cons] at ih ⊢
    omega

theorem shut_nil_slice {H : Type} {enc : TypeId × Value → H} {P : Program} {w : World} {base : Nat} {spare : Nat → Bool} {held : Bool} {t e : TypeId} (ht : P.underlying t = some (.slice e)) : DataW.Trod enc P w base spare held t (.slice none 0 0) .nil [] :=
  ⟨1, by simp [DataW.trod, ht, Value.cells]⟩

set_option maxRecDepth 100000 in
/-- A list of numbers that came in: read by the walk, and read again behind it. -/
theorem nums_arg {H : Type} {enc : TypeId × Value → H} {W : World} {base : Nat} {v : Value} {d : DataW H} {p : List MemPlace} (hok : Value.okWide Tryz.prog W .any base 31 v) (h : DataW.Trod enc Tryz.prog W 0 (fun _ => true) true 31 v d p) :
    ∃ a n cp, v = .slice a n cp ∧ NumsIn W a n ∧ n + 1 ≤ Rows.uptoBulk d ∧ ∀ W', Fr (fun _ => False) W W' → DataW.Trod enc Tryz.prog W' 0 (fun b => decide (b < W.heap.size)) true 31 v d p := by
  obtain ⟨a0, len, cap, rfl⟩ := okWide_slice Tryz.underlying31 hok
  obtain ⟨fuel, hf⟩ := h
  rcases open_ints Tryz.underlying31 Tryz.underlying3 Tryz.cells_int hf with ⟨hcs, hx⟩ | ⟨a, len', cap', zs, hcs, hb, hl, hm, hz, hx, hcell, hwz⟩
  · simp [Value.cells] at hcs
    obtain ⟨rfl, rfl, rfl⟩ := hcs
    simp only [Prod.mk.injEq] at hx
    obtain ⟨rfl, rfl⟩ := hx
    refine ⟨none, 0, 0, rfl, fun j hj => by omega, ?_, fun W' _ => ?_⟩
    · simp [Rows.uptoBulk]
    · exact shut_nil_slice Tryz.underlying31
  · simp [Value.cells] at hcs
    obtain ⟨rfl, rfl, rfl⟩ := hcs
    simp only [Prod.mk.injEq] at hx
    obtain ⟨rfl, rfl⟩ := hx
    simp only [if_true] at hz
    have hin : ∀ j, j < zs.length → a = ⟨a.block, a.off, none⟩ ∧ W.cell? ⟨a.block, a.off + j, none⟩ = some (.int .i64 (zs.getD j 0)) ∧ a.block < W.heap.size := by
      intro j hj
      obtain ⟨b, off, spot⟩ := a
      have hspot : spot = none := by simpa [Addr.add] using World.cell?_spot (hcell 0 (by omega))
      subst hspot
      have hc := hcell j hj
      rw [add_plain] at hc
      exact ⟨rfl, hc, World.block_lt_of_cell? _ ⟨b, off + j, none⟩ hc⟩
    refine ⟨some a, len, cap, rfl, fun j hj => ?_, ?_, fun W' f => ?_⟩
    · obtain ⟨h1, h2, h3⟩ := hin j (by omega)
      have hr := int_range (hwz (zs.getD j 0) (by
        have : zs.getD j 0 = zs[j]'(by omega) := by simp [List.getD, show j < zs.length by omega]
        rw [this]
        exact List.getElem_mem _))
      exact ⟨a.block, a.off, zs.getD j 0, congrArg some h1, h2, hr.1, hr.2, h3⟩
    · simp only [Rows.uptoBulk, lits_bulk, List.length_take]
      omega
    · refine ⟨0 + 2, shut_ints 0 Tryz.underlying31 Tryz.underlying3 Tryz.cells_int (Nat.zero_le _) hl hm ?_ (fun j hj => ?_) hwz⟩
      · by_cases hc : 0 < zs.length
        · rw [if_pos (by simpa using (hin 0 hc).2.2)]
          exact hz
        · have : zs.length = 0 := by omega
          split <;> omega
      · obtain ⟨h1, h2, h3⟩ := hin j hj
        rw [h1, add_plain]
        exact f.cell id h3 h2

end Go.Proofs.YtmhaknejeobfgabGreatDoor

/- Chunked1. -/
namespace Go.Proofs.YtmhaknejeobfgabGreatDoor
open Go.RowKit Go.Proofs.YtmhaknejeobfgabGreatDoor.Stable Go.Proofs.YtmhaknejeobfgabGreatDoor.Order Go.Proofs.YtmhaknejeobfgabGreatDoor.Points
attribute [local go_sem ↓] Go.wp_at_zero Go.wp_at_succ

/-- A text in chunks: what there is to be said of it. -/
structure InChunks (w : World) (s : ByteArray) (a : Option Addr) (L : List Chk) : Prop where
  ch : ChunksIn w w.heap.size a L
  all : bytesOf L = s.data.toList
  calm : Calm L

theorem InChunks.kept {w w' : World} {s : ByteArray} {a : Option Addr} {L : List Chk} (h : InChunks w s a L) (f : Fr (fun _ => False) w w') : InChunks w' s a L :=
  ⟨(h.ch.kept f (fun _ _ => id)).mono f.size, h.all, h.calm⟩

theorem calm_digest {L : List Chk} (h : Calm L) (m : Int) : faultOf L = 0 ∧ digOf m L = hashL (keyL m (bytesOf L)) := by
  have h0 : faultOf L = 0 := by
    rcases fault_spec L with ⟨h1, _⟩ | ⟨j, h1, h2, _⟩
    · exact h1
    · exact absurd (h.faults j h1) h2
  refine ⟨h0, ?_⟩
  unfold digOf
  rw [if_pos h0]

set_option maxRecDepth 100000 in
set_option maxHeartbeats 3200000 in
theorem chunked_walk (raw : Int) (a b : ByteArray) (a1 : Option Addr) (n1 p1 : Nat) (a2 : Option Addr) (n2 p2 : Nat) (w : World) (r0 : -9223372036854775808 ≤ raw) (r1 : raw ≤ 9223372036854775807) (hE : Env w) (hn1 : NumsIn w a1 n1) (hn2 : NumsIn w a2 n2) (hb : a.size + b.size + n1 + n2 ≤ 1048576) :
    Calls Tryz.prog 4 #[.int .i64 raw, .string a, .string b, .slice a1 n1 p1, .slice a2 n2 p2] w fun e w' => e = .returned (.bool true) ∧ Fr (fun _ => False) w w' := by
  have HE : Hid (Env w) := hE
  have HB : Hid (a.data.toList.length + b.data.toList.length + n1 + n2 ≤ 1048576) := Hid.mk0 (by rw [← Lib.size_eq, ← Lib.size_eq]; exact hb)
  have HNS : Hid (NumsIn w a1 n1 ∧ NumsIn w a2 n2) := ⟨hn1, hn2⟩
  clear hE hn1 hn2 hb
  go_enter Tryz.func4, Tryz.ntmps4
  go_wp2_with fail
  refine (pick_calls raw 4 w r0 r1 (by omega) (by omega)).mono ?_
  rintro e w' ⟨m, rfl, hm, hw⟩
  have hw' := hw.symm
  subst hw'
  clear hw r0 r1
  have HM : Hid ((0 : Int) ≤ (m : Int) ∧ (m : Int) ≤ 3) := ⟨by omega, by omega⟩
  clear hm
  go_wp2_with fail
  refine (known_calls m w HM.out.1 HM.out.2 HE.out).mono ?_
  rintro e w1 ⟨rfl, hf1⟩
  have HF1 : Hid (Fr (fun _ => False) w w1) := hf1
  clear hf1
  go_wp2_with fail
  refine (chunked_calls a a1 n1 p1 w1 (by have := HB.out; omega) (HNS.out.1.kept HF1.out) (by have := HB.out; omega)).mono ?_
  rintro e w2 ⟨la, lc, LA, rfl, c1, c2, c3, c4⟩
  have HF2 : Hid (Fr (fun _ => False) w w2) := HF1.out.trans c4 (fun _ _ h => h)
  have HLA : Hid (InChunks w2 a la LA) := ⟨c1, c2, c3⟩
  clear c1 c2 c3 c4
  obtain ⟨nA, hnA⟩ : ∃ nA, nA = LA.length := ⟨_, rfl⟩
  rw [← hnA]
  have HNA : Hid (nA = LA.length) := hnA
  clear hnA
  go_wp2_with fail
  refine (chunked_calls b a2 n2 p2 w2 (by have := HB.out; omega) (HNS.out.2.kept HF2.out) (by have := HB.out; omega)).mono ?_
  rintro e w3 ⟨lb, ld, LB, rfl, c1, c2, c3, c4⟩
  have HF3 : Hid (Fr (fun _ => False) w w3) := HF2.out.trans c4 (fun _ _ h => h)
  have HLA3 : Hid (InChunks w3 a la LA) := HLA.out.kept c4
  have HLB : Hid (InChunks w3 b lb LB) := ⟨c1, c2, c3⟩
  clear c1 c2 c3 c4
  obtain ⟨nB, hnB⟩ : ∃ nB, nB = LB.length := ⟨_, rfl⟩
  rw [← hnB]
  have HNB : Hid (nB = LB.length) := hnB
  clear hnB HLA HF2
  go_wp2_with fail
  refine (compare_calls m a b w3 HM.out.1 HM.out.2 (HE.out.kept HF3.out (fun _ _ => id)) (by have := HB.out; omega) (by have := HB.out; omega)).mono ?_
  rintro e w4 ⟨rfl, hf4⟩
  have HF4 : Hid (Fr (fun _ => False) w w4) := HF3.out.trans hf4 (fun _ _ h => h)
  have HLA4 : Hid (InChunks w4 a la LA) := HLA3.out.kept hf4
  have HLB4 : Hid (InChunks w4 b lb LB) := HLB.out.kept hf4
  clear hf4 HLA3 HLB
  obtain ⟨sg, hsg⟩ : ∃ sg, sg = cmpL m a.data.toList b.data.toList := ⟨_, rfl⟩
  rw [← hsg]
  have HSG : Hid (sg = cmpL m a.data.toList b.data.toList) := hsg
  clear hsg
  go_wp2_with fail
  have hst := stream_calls m la lb lc ld LA LB w4 HM.out.1 HM.out.2 (HE.out.kept HF4.out (fun _ _ => id)) HLA4.out.ch HLB4.out.ch (by have := HLA4.out.calm.1; omega) (by have := HLB4.out.calm.1; omega) (by rw [HLA4.out.all]; have := HB.out; omega) (by rw [HLB4.out.all]; have := HB.out; omega)
  rw [← HNA.out, ← HNB.out] at hst
  have hcalm : CalmCmp m LA LB (strm m LA LB) := strm_calm HLA4.out.calm.faults HLB4.out.calm.faults (rel_length HM.out.1 HM.out.2 LA LA.length true)
  obtain ⟨G, hG⟩ : ∃ G, G = strm m LA LB := ⟨_, rfl⟩
  rw [← hG] at hst hcalm
  obtain ⟨g1, g2, g3, g4, g5⟩ := hcalm
  rw [full_form HM.out.1 HM.out.2, full_form HM.out.1 HM.out.2, HLA4.out.all, HLB4.out.all] at g2
  have g2' : G.sign = sg := g2.trans HSG.out.symm
  rw [← HNA.out] at g3 g5
  rw [← HNB.out] at g4 g5
  rw [g2'] at hst g5
  rw [g1] at hst
  obtain ⟨ra, hra⟩ : ∃ ra, ra = G.ra := ⟨_, rfl⟩
  obtain ⟨rb, hrb⟩ : ∃ rb, rb = G.rb := ⟨_, rfl⟩
  obtain ⟨ha, hha⟩ : ∃ ha, ha = G.ha := ⟨_, rfl⟩
  obtain ⟨hb', hhb⟩ : ∃ hb', hb' = G.hb := ⟨_, rfl⟩
  rw [← hra, ← hrb, ← hha, ← hhb] at hst
  rw [← hra] at g3 g5
  rw [← hrb] at g4 g5
  clear hG g1 g2 g2' hra hrb hha hhb
  refine hst.mono ?_
  clear hst
  rintro e w5 ⟨rfl, hf5⟩
  have HF5 : Hid (Fr (fun _ => False) w w5) := HF4.out.trans hf5 (fun _ _ h => h)
  have HLA5 : Hid (InChunks w5 a la LA) := HLA4.out.kept hf5
  clear hf5 HLA4 HLB4
  have HG5 : Hid (sg = 0 → ra = nA ∧ rb = nB) := g5
  clear g5
  have k1 : (0 : Int) ≤ (ra : Int) := by omega
  have k2 : (ra : Int) ≤ (nA : Int) := by omega
  have k3 : (0 : Int) ≤ (rb : Int) := by omega
  have k4 : (rb : Int) ≤ (nB : Int) := by omega
  have k5 : (0 : Int) ≤ (ha : Int) := by omega
  have k6 : (0 : Int) ≤ (hb' : Int) := by omega
  go_wp2_with fail
  have ho6 : (w5.alloc (outC sg ra rb ha hb')).heap[w5.heap.size]? = some (outC sg ra rb ha hb') := heap_alloc_new w5 _
  have hf6 : Fr (fun _ => False) w5 (w5.alloc (outC sg ra rb ha hb')) := (Fr.refl _ _).alloc _
  change Calls _ _ _ (w5.alloc (outC sg ra rb ha hb')) _
  have HF6 : Hid (Fr (fun _ => False) w (w5.alloc (outC sg ra rb ha hb'))) := HF5.out.trans hf6 (fun _ _ h => h)
  have HLA6 : Hid (InChunks (w5.alloc (outC sg ra rb ha hb')) a la LA) := HLA5.out.kept hf6
  have HO6 : Hid ((w5.alloc (outC sg ra rb ha hb')).heap[w5.heap.size]? = some (outC sg ra rb ha hb')) := ho6
  clear ho6 hf6 HLA5 HF5
  obtain ⟨vo, hvo⟩ : ∃ vo, vo = w5.heap.size := ⟨_, rfl⟩
  rw [← hvo] at HO6 ⊢
  generalize w5.alloc (outC sg ra rb ha hb') = w6 at *
  clear hvo
  refine (hash_calls m a w6 HM.out.1 HM.out.2 (HE.out.kept HF6.out (fun _ _ => id)) (by have := HB.out; omega)).mono ?_
  rintro e w7 ⟨rfl, hf7⟩
  have HF7 : Hid (Fr (fun _ => False) w w7) := HF6.out.trans hf7 (fun _ _ h => h)
  have HLA7 : Hid (InChunks w7 a la LA) := HLA6.out.kept hf7
  have HO7 : Hid (w7.heap[vo]? = some (outC sg ra rb ha hb')) := (hf7.block vo (lt_of HO6.out) id).trans HO6.out
  clear hf7 HLA6 HF6 HO6
  obtain ⟨hs, hhs⟩ : ∃ hs, hs = hashL (keyL m a.data.toList) := ⟨_, rfl⟩
  rw [← hhs]
  have HHS : Hid (hs = hashL (keyL m a.data.toList)) := hhs
  clear hhs
  go_wp2_with fail
  have hdg := digest_calls m la lc LA w7 HM.out.1 HM.out.2 (HE.out.kept HF7.out (fun _ _ => id)) HLA7.out.ch (by have := HLA7.out.calm.1; omega) (by rw [HLA7.out.all]; have := HB.out; omega)
  rw [← HNA.out, (calm_digest HLA7.out.calm m).1, (calm_digest HLA7.out.calm m).2, HLA7.out.all, ← HHS.out] at hdg
  refine hdg.mono ?_
  clear hdg
  rintro e w8 ⟨rfl, hf8⟩
  have HF8 : Hid (Fr (fun _ => False) w w8) := HF7.out.trans hf8 (fun _ _ h => h)
  have ho8 : w8.heap[vo]? = some (outC sg ra rb ha hb') := (hf8.block vo (lt_of HO7.out) id).trans HO7.out
  have o0 : w8.cell? ⟨vo, 0, none⟩ = some (.int .i64 sg) := cell_of ho8 rfl
  have o1 : w8.cell? ⟨vo, 1, none⟩ = some (.int .i64 ra) := cell_of ho8 rfl
  have o2 : w8.cell? ⟨vo, 2, none⟩ = some (.int .i64 rb) := cell_of ho8 rfl
  have o3 : w8.cell? ⟨vo, 3, none⟩ = some (.int .i64 ha) := cell_of ho8 rfl
  have o4 : w8.cell? ⟨vo, 4, none⟩ = some (.int .i64 hb') := cell_of ho8 rfl
  clear hf8 ho8 HLA7 HF7 HO7 HF4 HF3 HF1 HNS HE HM HSG HHS HNA HNB g3 g4
  by_cases hsz : sg = 0
  · obtain ⟨e1, e2⟩ := HG5.out hsz
    subst hsz
    subst e1 e2
    clear HG5 HB
    go_wp2
    go_ret
    exact ⟨rfl, HF8.out⟩
  · have b1 : (sg != 0) = true := by rw [bne_iff_ne]; exact hsz
    clear hsz HG5 HB
    go_wp2
    go_ret
    exact ⟨rfl, HF8.out⟩

end Go.Proofs.YtmhaknejeobfgabGreatDoor

/- ConChunked. -/
namespace Go.Proofs.YtmhaknejeobfgabGreatDoor.chunkedProof
open Go.ChangeShapes Go.WideShapes Go.ChangeAt Go.RowKit
open Go.ChangeMaps (open_string shut_string)

set_option maxRecDepth 100000 in
theorem contract (H : Type) (enc : TypeId × Value → H) (F : Stop.Interp) (W : World) (base : Nat) (args : Array Value) (ds gs : List (DataW H)) (before : List MemPlace)
    (hval : ∀ (j : Nat) t v, Tryz.f4.params[j]? = some t → args[j]? = some v → Value.okWide Tryz.prog W .any base t v)
    (hW : DataW.Whole enc Tryz.prog Tryz.f4.params.toList (Rows.OpenSpec.upto Rows.chunkedSpec).vars false W args.toList ds gs before)
    (hcond : ∀ k, (Rows.OpenSpec.upto Rows.chunkedSpec).cond = some k → k H (ds ++ gs) = true) (hL : laidMetH Tryz.prog laidL W) (hsh : W.ShapedOpen Tryz.prog) :
    Calls Tryz.prog 4 args W fun e W' => ∃ v, e = .returned v ∧ ((Rows.OpenSpec.upto Rows.chunkedSpec).at F).post enc Tryz.prog Tryz.f4 false true false false W args v W' := by
  have hW' := hW
  obtain ⟨p, q, hA0, hV0, rfl, _, _⟩ := hW
  have hA : DataW.TrodAll enc Tryz.prog W 0 (fun _ => true) true Tryz.f4.params.toList args.toList ds p := hA0
  rw [Tryz.params4] at hA hval
  obtain ⟨v0, vs0, d0, ds0, p0, q0, hargs, rfl, rfl, h0, t0⟩ := trodAll_cons hA
  obtain ⟨v1, vs1, d1, ds1, p1, q1, rfl, rfl, rfl, h1, t1⟩ := trodAll_cons t0
  obtain ⟨v2, vs2, d2, ds2, p2, q2, rfl, rfl, rfl, h2, t2⟩ := trodAll_cons t1
  obtain ⟨v3, vs3, d3, ds3, p3, q3, rfl, rfl, rfl, h3, t3⟩ := trodAll_cons t2
  obtain ⟨v4, vs4, d4, ds4, p4, q4, rfl, rfl, rfl, h4, t4⟩ := trodAll_cons t3
  obtain ⟨rfl, rfl, rfl⟩ := trodAll_nil t4
  obtain rfl : args = #[v0, v1, v2, v3, v4] := by cases args; simp_all
  obtain ⟨rfl, rfl⟩ := trodVars_none hV0
  obtain ⟨x0, rfl, rfl, rfl, w0⟩ := open_int Tryz.underlying3 (hval 0 3 v0 rfl rfl) h0
  obtain ⟨x1, rfl, rfl, rfl, w1⟩ := open_string Tryz.underlying9 (hval 1 9 v1 rfl rfl) h1
  obtain ⟨x2, rfl, rfl, rfl, w2⟩ := open_string Tryz.underlying9 (hval 2 9 v2 rfl rfl) h2
  obtain ⟨a3, n3, c3, rfl, i3, u3, s3⟩ := nums_arg (hval 3 31 v3 rfl rfl) h3
  obtain ⟨a4, n4, c4, rfl, i4, u4, s4⟩ := nums_arg (hval 4 31 v4 rfl rfl) h4
  clear hA0
  simp only [List.append_nil] at hW' hcond
  have hk := hcond Rows.uptoSmall rfl
  have hb : x1.size + x2.size + n3 + n4 ≤ 1048576 := by
    have h := of_decide_eq_true hk
    simp only [Rows.uptoBulkAll, Rows.uptoBulk] at h
    have z1 := Lib.size_eq x1
    have z2 := Lib.size_eq x2
    omega
  have r0 := int_range w0
  refine (chunked_walk x0 x1 x2 a3 n3 c3 a4 n4 c4 W r0.1 r0.2 (env_of hL hsh) i3 i4 hb).mono ?_
  rintro e W' ⟨rfl, hf⟩
  have bel := hf.below
  refine ⟨_, rfl, [.lit (.int .i64 x0), .lit (.string x1.data.toList), .lit (.string x2.data.toList), d3, d4], [], _, [], ([] ++ ([] ++ ([] ++ (p3 ++ (p4 ++ []))))), [], hW', ?_, ?_, ?_, bel.frame _, fun h => by cases h⟩
  · exact trodAll_mk1 (shut_bool Tryz.underlying4 _)
  · exact (trodAll_cons_mk (shut_int Tryz.underlying3 w0) (trodAll_cons_mk (shut_string Tryz.underlying9 w1) (trodAll_cons_mk (shut_string Tryz.underlying9 w2) (trodAll_cons_mk (s3 W' hf) (trodAll_cons_mk (s4 W' hf) trodAll_mk0)))))
  · rfl

end Go.Proofs.YtmhaknejeobfgabGreatDoor.chunkedProof
