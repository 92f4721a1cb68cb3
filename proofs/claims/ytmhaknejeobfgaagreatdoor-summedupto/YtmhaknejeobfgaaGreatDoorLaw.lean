/- The law Summed, walked: it answers true. What the listed variables give at the call's first world, and a world that holds them. The law Summed answers true at every mode and every text of bulk at most 1048576, and leaves its arguments as they were. Conditions: the listed package-level variables hold what the program's text lays. -/
import Derived.Test.YtmhaknejeobfgaaGreatDoorKeys
import Derived.Test.YtmhaknejeobfgaaGreatDoorTables
import Derived.Test.YtmhaknejeobfgaaGreatDoorBase
import Derived.Test.YtmhaknejeobfgaaGreatDoorShelf
import Derived.Test.YtmhaknejeobfgaaGreatDoorRows
import Derived.Deep.DeepHandedRow
import Derived.Deep.DeepWitnessRowRef
import Derived.Lib.LaidTab
import Derived.Lib.LaidU8
import Derived.ProofKit
import Derived.Deep.DeepLaidRun
import Derived.OpenShut

/- Summed1. -/
namespace Go.Proofs.YtmhaknejeobfgaaGreatDoor
open Go.RowKit Go.Proofs.YtmhaknejeobfgaaGreatDoor.Stable Go.Proofs.YtmhaknejeobfgaaGreatDoor.Order Go.Proofs.YtmhaknejeobfgaaGreatDoor.Points
attribute [local go_sem ↓] Go.wp_at_zero Go.wp_at_succ

set_option maxRecDepth 100000 in
theorem sum_calls (s : ByteArray) (w : World) (hl : s.size ≤ 1099511627776) :
    Calls Tryz.prog 21 #[.string s] w fun e w' => e = .returned (.int .u64 (hashL s.data.toList)) ∧ Fr (fun _ => False) w w' := by
  go_enter Tryz.func21, Tryz.ntmps21
  go_wp2
  go_loopw [3, 4] (fun vh vi wr => ∃ k : Nat, vi = .int .i64 k ∧ vh = .int .u64 (hashL (s.data.toList.take k)) ∧ k ≤ s.size ∧ Hid (Fr (fun _ => False) w wr)) (fun _ vi _ => s.size - (intOf vi).toNat)
  case atStart => exact ⟨0, rfl, rfl, Nat.zero_le _, Fr.refl _ _⟩
  case round =>
    obtain ⟨k, rfl, rfl, hk, hf⟩ := hrel
    obtain ⟨h, hh⟩ : ∃ h, h = hashL (s.data.toList.take k) := ⟨_, rfl⟩
    rw [← hh]
    have HH : Hid (h = hashL (s.data.toList.take k)) := hh
    clear hh
    by_cases hlt : k < s.size
    · have i0 : (0 : Int) ≤ (k : Int) := by omega
      have i1 : (k : Int) < (s.size : Int) := by omega
      go_wp2
      refine ⟨⟨k + 1, by go_num, ?_, by omega, hf⟩, by simp [intOf]; omega⟩
      rw [hashL_take hlt, ← HH.out]
      rfl
    · obtain rfl : k = s.size := by omega
      go_wp2
      go_ret
      have e := HH.out
      rw [hashL_all] at e
      subst e
      exact ⟨rfl, hf.out⟩

set_option maxRecDepth 100000 in
theorem summed_walk (raw : Int) (s : ByteArray) (w : World) (h0 : -9223372036854775808 ≤ raw) (h1 : raw ≤ 9223372036854775807) (hE : Env w) (hbd : s.size ≤ 1048576) :
    Calls Tryz.prog 5 #[.int .i64 raw, .string s] w fun e w' => e = .returned (.bool true) ∧ Fr (fun _ => False) w w' := by
  have hsz := Lib.size_eq s
  have HB : Hid (s.data.toList.length ≤ 1048576) := by rw [hsz] at hbd; exact hbd
  have HE : Hid (Env w) := hE
  have HKS : Hid (∀ m : Int, 0 ≤ m → m ≤ 3 → (keyL m s.data.toList).length ≤ 1099511627776) := Hid.to (fun m a b => by have := key_size a b s.data.toList; have := HB.out; omega)
  clear hsz hbd hE
  go_enter Tryz.func5, Tryz.ntmps5
  go_wp2_with (first
    | (go_at_call 19; refine (pick_calls raw 4 _ h0 h1 (by omega) (by omega)).mono ?_; rintro e w' ⟨m, rfl, hm, hw⟩; have hw' := hw.symm; subst hw'; clear hw)
    | (go_at_call 20; refine (known_calls m _ (by omega) (by omega) HE.out).mono ?_; rintro e w1 ⟨rfl, hf1⟩; have HF1 : Hid (Fr (fun _ => False) w w1) := hf1; clear hf1)
    | (go_at_call 14; refine (key_calls m s _ (by omega) (by omega) (HE.out.kept HF1.out (fun _ _ => id)) (by have := HB.out; omega)).mono ?_; rintro e w2 ⟨rfl, hf2⟩; have HF2 : Hid (Fr (fun _ => False) w w2) := HF1.out.trans hf2 (fun _ _ h => h); clear hf2; obtain ⟨k, hk⟩ : ∃ k : ByteArray, k = ⟨(keyL m s.data.toList).toArray⟩ := ⟨_, rfl⟩; rw [← hk]; have HK : Hid (k.data.toList = keyL m s.data.toList) := Hid.to (by rw [hk]); clear hk)
    | (go_at_call 16; refine (hash_calls m s _ (by omega) (by omega) (HE.out.kept HF2.out (fun _ _ => id)) (by have := HB.out; omega)).mono ?_; rintro e w3 ⟨rfl, hf3⟩; have HF3 : Hid (Fr (fun _ => False) w w3) := HF2.out.trans hf3 (fun _ _ h => h); clear hf3; obtain ⟨g, hg⟩ : ∃ g, g = hashL (keyL m s.data.toList) := ⟨_, rfl⟩; rw [← hg]; have HG : Hid (g = hashL k.data.toList) := Hid.to (by rw [HK.out]; exact hg); clear hg)
    | (go_at_call 21; refine (sum_calls k _ (by rw [Lib.size_eq, HK.out]; exact HKS.out m (by omega) (by omega))).mono ?_; rw [← HG.out]; rintro e w4 ⟨rfl, hf4⟩; have HF4 : Hid (Fr (fun _ => False) w w4) := HF3.out.trans hf4 (fun _ _ h => h); clear hf4))
  go_ret
  exact ⟨rfl, HF4.out⟩

end Go.Proofs.YtmhaknejeobfgaaGreatDoor

/- Frame. -/
namespace Go.Proofs.YtmhaknejeobfgaaGreatDoor
open Go.RowKit Go.ChangeShapes Go.WideShapes Go.ChangeAt

theorem own : ownKnob Tryz.prog.godebug = none := by kernel_rfl

theorem int_range {raw : Int} (h : (Lit.int .i64 raw).wf = true) : -9223372036854775808 ≤ raw ∧ raw ≤ 9223372036854775807 := by
  have h' : (decide (IntKind.i64.min ≤ raw) && decide (raw ≤ IntKind.i64.max)) = true := h
  rw [Bool.and_eq_true, decide_eq_true_eq, decide_eq_true_eq] at h'
  have e1 : IntKind.i64.min = -9223372036854775808 := by decide
  have e2 : IntKind.i64.max = 9223372036854775807 := by decide
  rw [e1, e2] at h'
  exact h'

/-- What the rows list. -/
def laidL : List (String × DataW Unit) := Rows.summedUptoRow.laid

theorem laid_first : ("unicode/utf8.first", Lib.firstData) ∈ laidL := by
  have : laidL[8]? = some ("unicode/utf8.first", Lib.firstData) := by kernel_rfl
  exact List.mem_of_getElem? this

theorem laid_accept : ("unicode/utf8.acceptRanges", Lib.acceptData) ∈ laidL := by
  have : laidL[3]? = some ("unicode/utf8.acceptRanges", Lib.acceptData) := by kernel_rfl
  exact List.mem_of_getElem? this

theorem laid_space : ("strings.asciiSpace", Lib.tabData .u8 Lib.asciiSpaceTab) ∈ laidL := by
  have : laidL[7]? = some ("strings.asciiSpace", Lib.tabData .u8 Lib.asciiSpaceTab) := by kernel_rfl
  exact List.mem_of_getElem? this

theorem gSpace : Tryz.prog.globalNamed "strings.asciiSpace" = some 2 := by kernel_rfl
theorem gSpaceType : (Tryz.prog.globals[2]?).map (·.type) = some 171 := by kernel_rfl
theorem cellsTab : Tryz.prog.cellsOf 171 = 256 := by kernel_rfl
theorem cellsByte : Tryz.prog.cellsOf 5 = 1 := by kernel_rfl

theorem tabIs_of_reads {P : Program} {W : World} {name : String} {k : IntKind} {zs : List Int} {g : Nat} {t e : TypeId} {n : Nat}
    (hg : P.globalNamed name = some g) (hty : (P.globals[g]?).map (·.type) = some t) (ht : P.underlying t = some (.array n e)) (he : P.underlying e = some (.int k)) (hce : P.cellsOf e = 1) (hct : P.cellsOf t = n)
    (h : Lib.VarReads P W name (Lib.tabData k zs)) : Lib.TabIs P W name k zs := by
  obtain ⟨g', t', cs, fuel, p, hg', ht', hvar, hd⟩ := h
  obtain rfl := Option.some.inj (hg.symm.trans hg')
  obtain rfl := Option.some.inj (hty.symm.trans ht')
  unfold Lib.TabIs
  rw [hvar, ← Lib.cells_of_tab ht he hce hct hd]

/-- WHAT THE LIST AND THE WORLD'S SHAPE GIVE: all that the walks ask of the globals. -/
theorem env_of {W : World} (hL : laidMetH Tryz.prog laidL W) (hsh : W.ShapedOpen Tryz.prog) : Env W := by
  have hM : laidMet Tryz.prog laidL W := hL
  refine ⟨?_, Tryz.laysM219.s1_3 W hsh, ?_, ?_⟩
  · obtain ⟨cs, h, _⟩ := hsh.1 10 #[.pointer none] 192 (by decide +kernel) (by kernel_rfl)
    exact lt_of h
  · exact tabIs_of_reads gSpace gSpaceType Tryz.underlying171 Tryz.underlying5 cellsByte cellsTab (Lib.laidMet.reads hM laid_space)
  · exact utf8Tabs_of_reads { Tryz.lays260 with } ⟨by kernel_rfl, by kernel_rfl, by kernel_rfl, by kernel_rfl, by kernel_rfl, by kernel_rfl, by kernel_rfl⟩ (Lib.laidMet.reads hM laid_first) (Lib.laidMet.reads hM laid_accept)

/-- The bytes of a listed text. -/
def laidBytes : DataW Unit → List UInt8
  | .iface _ (.ptr (.agg [.lit (.string l)])) => l
  | _ => []

def intsOf : DataW Unit → List Value
  | .agg l => l.map fun | .lit (.int k z) => .int k z | _ => .bool false
  | _ => []

/-- A WORLD FOR THE WITNESS: the settled one with four blocks more (the texts of two errors; a table's ranges; the table), the nine listed variables holding what their initialisers lay. -/
def laidWorld (P : Program) (os : Os) : World :=
  let N := (World.settled P os).heap.size
  let w0 := World.holding P os ⟨#[.cells #[.string ⟨(laidBytes Rows.laid_strconv_ErrRange).toArray⟩] 226, .cells #[.string ⟨(laidBytes Rows.laid_strconv_ErrSyntax).toArray⟩] 226,
    .cells (Lib.whiteT.map fun (z : Nat) => Value.int .u16 (z : Int)).toArray 206, .cells #[.slice (some ⟨N + 2, 0, none⟩) 7 7, .slice none 0 0, .int .i64 2] 203], #[], []⟩
  let put (h : Array Obj) (g : Nat) (cs : Array Value) : Array Obj := h.modify g fun
    | .cells _ t frozen => .cells cs t frozen
    | o => o
  let h1 := put w0.heap 2 (Lib.asciiSpaceTab.map fun z => Value.int .u8 z).toArray
  let h2 := put h1 0 (Lib.firstTab.map fun z => Value.int .u8 z).toArray
  let h3 := put h2 1 ((List.range 16).flatMap fun i => [Value.int .u8 (Lib.accLo i), Value.int .u8 (Lib.accHi i)]).toArray
  let h4 := put h3 3 #[.pointer (some ⟨N + 3, 0, none⟩)]
  let h5 := put h4 5 #[.iface 224 (.pointer (some ⟨N, 0, none⟩))]
  let h6 := put h5 4 #[.iface 224 (.pointer (some ⟨N + 1, 0, none⟩))]
  let h7 := put h6 8 (intsOf Rows.laid_math_bits_deBruijn32tab).toArray
  let h8 := put h7 9 (intsOf Rows.laid_math_bits_deBruijn64tab).toArray
  let h9 := put h8 7 (intsOf Rows.laid_internal_strconv_uint64pow10).toArray
  { w0 with heap := h9 }

theorem laid_met (os : Os) (args : Array Value) : laidMet Tryz.prog laidL ((laidWorld Tryz.prog os).forCall (fun _ _ => 0) ⟨#[], args, []⟩).memory :=
  laidMet_of_run3 8 (by kernel_rfl) (by kernel_rfl) (by kernel_rfl)

end Go.Proofs.YtmhaknejeobfgaaGreatDoor

/- ConSummed. -/
namespace Go.Proofs.YtmhaknejeobfgaaGreatDoor.summedProof
open Go.ChangeShapes Go.WideShapes Go.ChangeAt Go.RowKit
open Go.ChangeMaps (open_string shut_string)

theorem bound {raw : Int} {s : ByteArray} {H : Type} (h : Rows.uptoSmall H [.lit (.int .i64 raw), .lit (.string s.data.toList)] = true) : s.size ≤ 1048576 := by
  have h := of_decide_eq_true h
  simp only [Rows.uptoBulkAll, Rows.uptoBulk] at h
  rw [Lib.size_eq]
  omega

set_option maxRecDepth 100000 in
theorem contract (H : Type) (enc : TypeId × Value → H) (F : Stop.Interp) (W : World) (base : Nat) (args : Array Value) (ds gs : List (DataW H)) (before : List MemPlace)
    (hval : ∀ (j : Nat) t v, Tryz.f5.params[j]? = some t → args[j]? = some v → Value.okWide Tryz.prog W .any base t v)
    (hW : DataW.Whole enc Tryz.prog Tryz.f5.params.toList (Rows.OpenSpec.upto Rows.summedSpec).vars false W args.toList ds gs before)
    (hcond : ∀ k, (Rows.OpenSpec.upto Rows.summedSpec).cond = some k → k H (ds ++ gs) = true) (hL : laidMetH Tryz.prog laidL W) (hsh : W.ShapedOpen Tryz.prog) :
    Calls Tryz.prog 5 args W fun e W' => ∃ v, e = .returned v ∧ ((Rows.OpenSpec.upto Rows.summedSpec).at F).post enc Tryz.prog Tryz.f5 false true false false W args v W' := by
  have hW' := hW
  obtain ⟨p, q, hA0, hV0, rfl, _, _⟩ := hW
  have hA : DataW.TrodAll enc Tryz.prog W 0 (fun _ => true) true Tryz.f5.params.toList args.toList ds p := hA0
  rw [Tryz.params5] at hA hval
  obtain ⟨v0, v1, d0, d1, p0, p1, rfl, rfl, rfl, h0, h1⟩ := trodAll_two hA
  obtain ⟨rfl, rfl⟩ := trodVars_none hV0
  obtain ⟨raw, rfl, rfl, rfl, hr⟩ := open_int Tryz.underlying3 (hval 0 3 v0 rfl rfl) h0
  obtain ⟨s, rfl, rfl, rfl, hs⟩ := open_string Tryz.underlying9 (hval 1 9 v1 rfl rfl) h1
  simp only [List.append_nil] at hW' hcond
  have hk := hcond Rows.uptoSmall rfl
  have hb := bound hk
  have hrange := int_range hr
  refine (summed_walk raw s W hrange.1 hrange.2 (env_of hL hsh) hb).mono ?_
  rintro e W' ⟨rfl, hf⟩
  have bel := hf.below
  refine ⟨_, rfl, [.lit (.int .i64 raw), .lit (.string s.data.toList)], [], [], [], [], [], hW', ?_, ?_, ?_, bel.frame _, fun h => by cases h⟩
  · exact trodAll_mk1 (shut_bool Tryz.underlying4 _)
  · exact trodAll_cons_mk (shut_int Tryz.underlying3 hr) (trodAll_cons_mk (shut_string Tryz.underlying9 hs) trodAll_mk0)
  · rfl

end Go.Proofs.YtmhaknejeobfgaaGreatDoor.summedProof
