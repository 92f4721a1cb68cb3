/- A script that came in: read by the walk. What the law All asks of its argument, and what its walk gives. -/
import Derived.Test.YtmhaknejeobfgabGreatDoorLaw0
import Derived.Test.YtmhaknejeobfgabGreatDoorAlls2
import Derived.WideKeyArgs
import Derived.OpenShut

/- AllArg. -/
namespace Go.Proofs.YtmhaknejeobfgabGreatDoor
open Go.ChangeShapes Go.WideShapes Go.ChangeAt Go.RowKit Go.Deep

theorem Tryz.cells_op : Tryz.prog.cellsOf 60 = 6 := by kernel_rfl
theorem Tryz.cells_chs : Tryz.prog.cellsOf 22 = 1 := by kernel_rfl

theorem bulk_pos {H : Type} (d : DataW H) : 1 ≤ Rows.uptoBulk d := by
  cases d with
  | lit l => cases l <;> simp [Rows.uptoBulk]
  | _ => simp [Rows.uptoBulk]

theorem bulk_mem {H : Type} : ∀ {l : List (DataW H)} {d : DataW H}, d ∈ l → Rows.uptoBulk d ≤ Rows.uptoBulkAll l
  | x :: r, d, h => by
    rw [Rows.uptoBulkAll]
    rcases List.mem_cons.1 h with rfl | h
    · omega
    · have := bulk_mem h
      omega

theorem bulk_len {H : Type} : ∀ l : List (DataW H), l.length ≤ Rows.uptoBulkAll l
  | [] => Nat.zero_le _
  | x :: r => by
    have h1 := bulk_pos x
    have h2 := bulk_len r
    rw [Rows.uptoBulkAll, List.length_cons]
    omega

set_option maxRecDepth 100000 in
theorem chunks_open {H : Type} {enc : TypeId × Value → H} {W : World} {fuel : Nat} {v : Value} {d : DataW H} {p : List MemPlace} (hf : DataW.trod enc Tryz.prog W 0 (fun _ => true) true fuel 22 [v] = some (d, p)) :
    ∃ a cp L, v = .slice a L.length cp ∧ ChArg W a L cp ∧ (bytesOf L).length + L.length + 1 ≤ Rows.uptoBulk d := by
  rcases open_slice_pairs Tryz.underlying22 Tryz.underlying49 Tryz.cells_chunk rfl rfl Tryz.cells_int Tryz.cells_string hf with ⟨hcs, hx⟩ | ⟨a, len', cap', m, n, V0, V1, D0, D1, P0, P1, hcs, hb, hl, hm, hmm, hx, hi⟩
  · simp only [List.cons.injEq, and_true] at hcs
    subst hcs
    simp only [Prod.mk.injEq] at hx
    obtain ⟨rfl, rfl⟩ := hx
    refine ⟨none, 0, [], rfl, ⟨fun j c hj => (by cases hj), Nat.le_refl _, Nat.zero_le _, fun _ => rfl⟩, ?_⟩
    simp [Rows.uptoBulk, bytesOf]
  · simp only [List.cons.injEq, and_true] at hcs
    subst hcs
    simp only [Prod.mk.injEq] at hx
    obtain ⟨rfl, rfl⟩ := hx
    simp only [if_true] at hmm
    subst hmm
    have each : ∀ i, i < m → ∃ q : Int × ByteArray, V0 i = .int .i64 q.1 ∧ V1 i = .string q.2 ∧ D0 i = .lit (.int .i64 q.1) ∧ D1 i = .lit (.string q.2.data.toList) ∧ P0 i = [] ∧ P1 i = [] ∧ (Lit.int .i64 q.1).wf = true ∧ q.2.size ≤ maxLen := by
      intro i him
      obtain ⟨h1, h2, h3, h4⟩ := hi i him
      obtain ⟨z, z1, z2, z3⟩ := DataW.trod_int Tryz.underlying3 h3
      obtain ⟨s, s1, s2, s3⟩ := DataW.trod_string Tryz.underlying9 h4
      simp only [Prod.mk.injEq, List.cons.injEq, and_true] at z1 z2 s1 s2
      exact ⟨(z, s), z1, s1, z2.1, s2.1, z2.2, s2.2, z3, s3⟩
    obtain ⟨q, hq⟩ := choose_lt (α := Int × ByteArray) each
    have hin : ∀ i, i < m → a = ⟨a.block, a.off, none⟩ ∧ W.cell? ⟨a.block, a.off + i * 2, none⟩ = some (.int .i64 (q i).1) ∧ W.cell? ⟨a.block, a.off + i * 2 + 1, none⟩ = some (.string (q i).2) ∧ a.block < W.heap.size := by
      intro i him
      obtain ⟨b, off, spot⟩ := a
      have hspot : spot = none := by
        have := World.cell?_spot (hi 0 (by omega)).1
        simpa [Addr.add] using this
      subst hspot
      have h1 := (hi i him).1
      have h2 := (hi i him).2.1
      rw [add_plain, (hq i him).1] at h1
      rw [add_plain, (hq i him).2.1, ← Nat.add_assoc] at h2
      exact ⟨rfl, h1, h2, World.block_lt_of_cell? _ ⟨b, off + i * 2, none⟩ h1⟩
    have hlen : ((List.range len').map fun i => ((q i).1, (q i).2.data.toList)).length = len' := by simp
    refine ⟨some a, m, (List.range len').map fun i => ((q i).1, (q i).2.data.toList), by rw [hlen], ⟨fun j c hj => ?_, by rw [hlen]; exact hl, hm, fun h => (by cases h)⟩, ?_⟩
    · have hjl : j < len' := by
        have := (List.getElem?_eq_some_iff.1 hj).1
        omega
      have hc : c = ((q j).1, (q j).2.data.toList) := by
        simp [hjl] at hj
        exact hj.symm
      subst hc
      obtain ⟨h1, h2, h3, h4⟩ := hin j (by omega)
      have hr := int_range (hq j (by omega)).2.2.2.2.2.2.1
      exact ⟨a.block, a.off, congrArg some h1, h4, h4, h2, h3, hr.1, hr.2⟩
    · have e1 : (List.range len').map (fun i => DataW.agg [D0 i, D1 i]) = (List.range len').map fun i => (.agg [.lit (.int .i64 (q i).1), .lit (.string (q i).2.data.toList)] : DataW H) := List.map_congr_left fun i hi' => by
        have him : i < m := by have := List.mem_range.1 hi'; omega
        rw [(hq i him).2.2.1, (hq i him).2.2.2.1]
      simp only [Rows.uptoBulk]
      rw [e1, chunks_bulk, hlen, List.length_range]
      omega

set_option maxRecDepth 100000 in
theorem op_open {H : Type} {enc : TypeId × Value → H} {W : World} {n : Nat} {a : Addr} {i : Nat} {cs : List Value} {x : DataW H × List MemPlace} (hspot : a.spot = none) (h1 : W.cells? 0 (a.add (i * 6)) 6 = some cs) (h2 : DataW.trod enc Tryz.prog W 0 (fun _ => true) true n 60 cs = some x) (hb : Rows.uptoBulk x.1 ≤ 1048576) :
    ∃ o : OpV, ∃ b off, a = ⟨b, off, none⟩ ∧ OpIs W b (off + i * 6) o := by
  obtain ⟨_, hlen, hcell⟩ := World.cells?_some h1
  obtain ⟨xs, k, hk, hxy, _, hxl, hf⟩ := DataW.trod_struct Tryz.underlying60 h2
  match xs, hxl, cs, hlen with
  | [y0, y1, y2, y3, y4, y5], _, [v0, v1, v2, v3, v4, v5], _ =>
    have g0 := hf 0 _ rfl
    have g1 := hf 1 _ rfl
    have g2 := hf 2 _ rfl
    have g3 := hf 3 _ rfl
    have g4 := hf 4 _ rfl
    have g5 := hf 5 _ rfl
    simp [Tryz.cells_int, Tryz.cells_string, Tryz.cells_chs] at g0 g1 g2 g3 g4 g5
    obtain ⟨z0, p0, q0, r0⟩ := DataW.trod_int Tryz.underlying3 g0
    obtain ⟨z1, p1, q1, r1⟩ := DataW.trod_int Tryz.underlying3 g1
    obtain ⟨z2, p2, q2, r2⟩ := DataW.trod_string Tryz.underlying9 g2
    obtain ⟨z3, p3, q3, r3⟩ := DataW.trod_string Tryz.underlying9 g3
    obtain ⟨d4, l4⟩ := y4
    obtain ⟨d5, l5⟩ := y5
    obtain ⟨aA, cA, LA, p4, q4, r4⟩ := chunks_open g4
    obtain ⟨aB, cB, LB, p5, q5, r5⟩ := chunks_open g5
    simp only [List.cons.injEq, and_true] at p0 p1 p2 p3
    subst p0 p1 p2 p3 p4 p5 q0 q1 q2 q3
    obtain ⟨b, off, spot⟩ := a
    dsimp only at hspot
    subst hspot
    have cell : ∀ k v, [Value.int .i64 z0, .int .i64 z1, .string z2, .string z3, .slice aA LA.length cA, .slice aB LB.length cB][k]? = some v → W.cell? ⟨b, off + i * 6 + k, none⟩ = some v := fun k v hv => by
      have hk6 : k < 6 := by simpa using (List.getElem?_eq_some_iff.1 hv).1
      have := hcell k (by simpa using hk6)
      rw [add_add, add_plain, ← Nat.add_assoc] at this
      rw [this, ← hv]
    have hbk : Rows.uptoBulk (.agg [.lit (.int .i64 z0), .lit (.int .i64 z1), .lit (.string z2.data.toList), .lit (.string z3.data.toList), d4, d5] : DataW H) ≤ 1048576 := by
      rw [hxy] at hb
      simpa using hb
    simp only [Rows.uptoBulk, Rows.uptoBulkAll] at hbk
    have e2 := Lib.size_eq z2
    have e3 := Lib.size_eq z3
    refine ⟨⟨z0, z1, z2, z3, aA, cA, LA, aB, cB, LB⟩, b, off, rfl, ⟨World.block_lt_of_cell? _ ⟨b, off + i * 6 + 0, none⟩ (cell 0 _ rfl), cell 0 _ rfl, cell 1 _ rfl, cell 2 _ rfl, cell 3 _ rfl, cell 4 _ rfl, cell 5 _ rfl, q4.ch, q5.ch, q4.nil, q5.nil, ?_, ?_⟩⟩
    · dsimp only
      omega
    · dsimp only
      omega

set_option maxRecDepth 100000 in
theorem ops_arg {H : Type} {enc : TypeId × Value → H} {W : World} {base : Nat} {v : Value} {d : DataW H} {p : List MemPlace} (hok : Value.okWide Tryz.prog W .any base 53 v) (h : DataW.Trod enc Tryz.prog W 0 (fun _ => true) true 53 v d p) (hb : Rows.uptoBulk d ≤ 1048576) :
    ∃ a cp ops, v = .slice a (List.length ops) cp ∧ OpsIn W a ops ∧ ops.length ≤ 1048576 := by
  obtain ⟨a0, len, cap, rfl⟩ := okWide_slice Tryz.underlying53 hok
  obtain ⟨fuel, hf⟩ := h
  rcases open_slice Tryz.underlying53 hf with ⟨hcs, hx⟩ | ⟨a, len', cap', m, n, D, Pl, hcs, hb0, hl, hm, hmm, hx, hi⟩
  · simp [Value.cells] at hcs
    obtain ⟨rfl, rfl, rfl⟩ := hcs
    exact ⟨none, 0, [], rfl, fun j c hj => (by cases hj), Nat.zero_le _⟩
  · simp [Value.cells] at hcs
    obtain ⟨rfl, rfl, rfl⟩ := hcs
    simp only [Prod.mk.injEq] at hx
    obtain ⟨rfl, rfl⟩ := hx
    simp only [if_true] at hmm
    subst hmm
    simp only [Rows.uptoBulk] at hb
    have hlb := bulk_len ((List.range len).map D)
    rw [List.length_map, List.length_range] at hlb
    have each : ∀ i, i < len → ∃ o : OpV, ∃ b off, a = ⟨b, off, none⟩ ∧ OpIs W b (off + i * 6) o := fun i him => by
      obtain ⟨cs', h1, h2⟩ := hi i (by omega)
      obtain ⟨cs0, h01, _⟩ := hi 0 (by omega)
      rw [Tryz.cells_op] at h1 h01
      have hspot : a.spot = none := by
        obtain ⟨_, hl0, hc0⟩ := World.cells?_some h01
        have e0 := hc0 0 (by omega)
        rw [List.getElem?_eq_getElem (by omega)] at e0
        have := World.cell?_spot e0
        simpa [Addr.add] using this
      have hm := bulk_mem (l := (List.range len).map D) (d := D i) (List.mem_map.2 ⟨i, List.mem_range.2 him, rfl⟩)
      exact op_open hspot h1 h2 (by show Rows.uptoBulk (D i) ≤ _; omega)
    have one : Inhabited OpV := ⟨⟨0, 0, ⟨#[]⟩, ⟨#[]⟩, none, 0, [], none, 0, []⟩⟩
    obtain ⟨q, hq⟩ := choose_lt (α := OpV) each
    refine ⟨some a, m, (List.range len).map q, by simp, fun j o hj => ?_, by simp; omega⟩
    have hjl : j < len := by simpa using (List.getElem?_eq_some_iff.1 hj).1
    have ho : o = q j := by
      simp [hjl] at hj
      exact hj.symm
    subst ho
    obtain ⟨b, off, h1, h2⟩ := hq j hjl
    exact ⟨b, off, congrArg some h1, h2⟩

end Go.Proofs.YtmhaknejeobfgabGreatDoor

/- ConAll. -/
namespace Go.Proofs.YtmhaknejeobfgabGreatDoor.allProof
open Go.ChangeShapes Go.WideShapes Go.ChangeAt Go.RowKit

theorem laidOut : laidOutB Tryz.prog = true := by kernel_rfl
theorem readable : Tryz.prog.readableRec 53 = true := by kernel_rfl
theorem there : 53 < Tryz.prog.types.size := of_decide_eq_true (by kernel_rfl)

set_option maxRecDepth 100000 in
theorem contract (H : Type) (enc : TypeId × Value → H) (F : Stop.Interp) (W : World) (base : Nat) (args : Array Value) (ds gs : List (DataW H)) (before : List MemPlace)
    (hval : ∀ (j : Nat) t v, Tryz.f8.params[j]? = some t → args[j]? = some v → Value.okWide Tryz.prog W .any base t v)
    (hW : DataW.Whole enc Tryz.prog Tryz.f8.params.toList (Rows.OpenSpec.upto Rows.allSpec).vars false W args.toList ds gs before)
    (hcond : ∀ k, (Rows.OpenSpec.upto Rows.allSpec).cond = some k → k H (ds ++ gs) = true) (hL : laidMetH Tryz.prog laidL W) (hsh : W.ShapedOpen Tryz.prog) :
    Calls Tryz.prog 8 args W fun e W' => ∃ v, e = .returned v ∧ ((Rows.OpenSpec.upto Rows.allSpec).at F).post enc Tryz.prog Tryz.f8 false true false false W args v W' := by
  have hW' := hW
  obtain ⟨p, q, hA0, hV0, rfl, _, _⟩ := hW
  have hA : DataW.TrodAll enc Tryz.prog W 0 (fun _ => true) true Tryz.f8.params.toList args.toList ds p := hA0
  rw [Tryz.params8] at hA hval
  obtain ⟨v0, vs0, d0, ds0, p0, q0, hargs, rfl, rfl, h0, t0⟩ := trodAll_cons hA
  obtain ⟨rfl, rfl, rfl⟩ := trodAll_nil t0
  obtain rfl : args = #[v0] := by cases args; simp_all
  obtain ⟨rfl, rfl⟩ := trodVars_none hV0
  clear hA0
  simp only [List.append_nil] at hW' hcond
  have hk := hcond Rows.uptoSmall rfl
  have hb : Rows.uptoBulk d0 ≤ 1048576 := by
    have h := of_decide_eq_true hk
    simp only [Rows.uptoBulkAll] at h
    omega
  have hlt : ∀ x ∈ p0, x.block < W.heap.size := fun x hx => by simpa using hW'.lt x (by simpa using hx)
  obtain ⟨a, cp, ops, rfl, hO, hl⟩ := ops_arg (hval 0 53 v0 rfl rfl) h0 hb
  refine (all_walk (env_of hL hsh) hO rfl hl).mono ?_
  rintro e W' ⟨rfl, hf⟩
  have bel := hf.below
  refine ⟨_, rfl, [d0], [], _, [], (p0 ++ []), [], hW', ?_, ?_, ?_, bel.frame _, fun h => by cases h⟩
  · exact trodAll_mk1 (shut_bool Tryz.underlying4 _)
  · exact trodAll_cons_mk (Go.WideElems.Trod_stays laidOut readable there h0 (fun x hx => bel.same (hlt x hx)) (fun x hx => by simpa using hlt x hx)) trodAll_mk0
  · rfl

end Go.Proofs.YtmhaknejeobfgabGreatDoor.allProof
