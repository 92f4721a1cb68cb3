/- The document's answer: a number of the table. The document's answer: a list of the table. The table's lines, as the document's answer reads them: plain. The document's answer: what the table says of a code point. The document's answer: what a code point is taken apart into; what is plain of it. -/
import Derived.Test.YtmhaknejeobfgaaGreatDoorQueues
import Derived.Test.YtmhaknejeobfgaaGreatDoorTables
import Derived.Test.YtmhaknejeobfgaaGreatDoorBase

/- Ref5. -/
namespace Go.Proofs.YtmhaknejeobfgaaGreatDoor
open Go.RowKit Go.Proofs.YtmhaknejeobfgaaGreatDoor.Stable Go.Proofs.YtmhaknejeobfgaaGreatDoor.Order Go.Proofs.YtmhaknejeobfgaaGreatDoor.Points
attribute [local go_sem ↓] Go.wp_at_zero Go.wp_at_succ

/-- The table's bytes. -/
def dat (j : Nat) : Nat := (dataText.getD j 0).toNat

theorem dat_le (j : Nat) : dat j ≤ 255 := by
  unfold dat
  have := (dataText.getD j 0).toNat_lt
  omega

theorem dataText_length : dataText.length = 1276 := by decide +kernel

theorem dat_index {s : ByteArray} {x : Int} {j : Nat} (hs : s.data.toList = dataText) (hx : x = (j : Int)) (h : j < 1276) (w : World) : (Instr.index 9 (.string s) (.int .i64 x)).run Tryz.prog w = .ok (.int .u8 (dat j)) w := by
  have hb : byt s j = dat j := by unfold byt dat; rw [hs]
  rw [← hb]
  refine byt_index hx ?_ w
  rw [Lib.size_eq, hs, dataText_length]
  exact h

/-- The table's text in the program's own text, by a letter. -/
theorem lit_D {s D : ByteArray} (hD : D.data.toList = dataText) (h : s.data.toList = dataText) : Operand.const (.string s) = Operand.const (.string D) := by
  have e : s = D := by
    cases s
    cases D
    exact congrArg ByteArray.mk (Array.toList_inj.1 (h.trans hD.symm))
  rw [e]

/-- The number at a place, and the place behind it. -/
def hexG : Nat → Nat → Nat → Option (Nat × Nat)
  | 0, _, _ => none
  | f + 1, n, i => if 48 ≤ dat i ∧ dat i ≤ 57 then hexG f (n * 16 + dat i - 48) (i + 1) else if 65 ≤ dat i ∧ dat i ≤ 70 then hexG f (n * 16 + dat i - 65 + 10) (i + 1) else some (n, i)

theorem hexG_le : ∀ (f n i r j : Nat), hexG f n i = some (r, j) → n ≤ r ∧ i ≤ j
  | 0, _, _, _, _, h => by cases h
  | f + 1, n, i, r, j, h => by
    unfold hexG at h
    split at h
    · have := hexG_le f _ _ r j h
      omega
    · split at h
      · have := hexG_le f _ _ r j h
        omega
      · simp at h
        omega

set_option maxRecDepth 100000 in
set_option maxHeartbeats 1600000 in
theorem sixteens_calls (i r j : Nat) (w : World) (h : hexG 8 0 i = some (r, j)) (hj : j < 1276) (hr : r ≤ 1114111) :
    Calls Tryz.prog 113 #[.int .i64 i] w fun e w' => e = .returned (.tuple #[.int .i64 r, .int .i64 j]) ∧ w' = w := by
  have HH : Hid (hexG 8 0 i = some (r, j) ∧ j < 1276 ∧ r ≤ 1114111) := ⟨h, hj, hr⟩
  obtain ⟨D, hD⟩ : ∃ D : ByteArray, D.data.toList = dataText := ⟨⟨dataText.toArray⟩, rfl⟩
  have HD : Hid (D.data.toList = dataText) := hD
  clear h hj hr hD
  go_enter Tryz.func113, Tryz.ntmps113
  rw [lit_D HD.out (by kernel_rfl)]
  go_wp2
  go_loopw [0, 4] (fun v0 v4 wr => ∃ (x n f : Nat), v0 = .int .i64 x ∧ v4 = .int .i64 n ∧ wr = w ∧ Hid (hexG f n x = some (r, j))) (fun v0 _ _ => 1277 - (intOf v0).toNat)
  case atStart => exact ⟨i, 0, 8, rfl, rfl, rfl, HH.out.1⟩
  case round =>
    obtain ⟨x, n, f, rfl, rfl, rfl, HX⟩ := hrel
    obtain ⟨b, hb⟩ : ∃ b, b = dat x := ⟨_, rfl⟩
    have hle := hexG_le _ _ _ _ _ HX.out
    have hh := HH.out
    have n0 : (0 : Int) ≤ (n : Int) := by omega
    have n1 : (n : Int) ≤ 1114111 := by omega
    have x0 : (0 : Int) ≤ (x : Int) := by omega
    have x1 : (x : Int) < 1276 := by omega
    have hx : ∀ w, (Instr.index 9 (.string D) (.int .i64 x)).run Tryz.prog w = .ok (.int .u8 b) w := fun w => by rw [hb]; exact dat_index HD.out rfl (by omega) w
    have hb255 := dat_le x
    have HB : Hid (b = dat x) := hb
    rw [← hb] at hb255
    have b0 : (0 : Int) ≤ (b : Int) := by omega
    have b1 : (b : Int) ≤ 255 := by omega
    clear hb hle hh hb255
    cases f with
    | zero => exact absurd HX.out (by unfold hexG; simp)
    | succ f =>
      have hst := HX.out
      unfold hexG at hst
      rw [← HB.out] at hst
      by_cases c1 : 48 ≤ b ∧ b ≤ 57
      · rw [if_pos c1] at hst
        have HS : Hid (hexG f (n * 16 + b - 48) (x + 1) = some (r, j)) := hst
        have k1 : (48 : Int) ≤ (b : Int) := by omega
        have k2 : (b : Int) ≤ 57 := by omega
        clear hst c1
        go_wp2
        go_roundw
        case rel =>
          have := hexG_le _ _ _ _ _ HS.out
          exact ⟨x + 1, n * 16 + b - 48, f, by go_num, by congr 1; omega, trivial, HS⟩
        case measure => simp [intOf]; omega
      rw [if_neg c1] at hst
      by_cases c2 : 65 ≤ b ∧ b ≤ 70
      · rw [if_pos c2] at hst
        have HS : Hid (hexG f (n * 16 + b - 65 + 10) (x + 1) = some (r, j)) := hst
        have k1 : (48 : Int) ≤ (b : Int) := by omega
        have k2 : (57 : Int) < (b : Int) := by omega
        have k3 : (65 : Int) ≤ (b : Int) := by omega
        have k4 : (b : Int) ≤ 70 := by omega
        clear hst c1 c2
        go_wp2
        go_roundw
        case rel =>
          have := hexG_le _ _ _ _ _ HS.out
          exact ⟨x + 1, n * 16 + b - 65 + 10, f, by go_num, by congr 1; omega, trivial, HS⟩
        case measure => simp [intOf]; omega
      rw [if_neg c2] at hst
      have HR : Hid (n = r ∧ x = j) := hid (by simpa using hst)
      clear hst
      have d1 : (decide ((48 : Int) ≤ (b : Int)) && decide ((b : Int) ≤ 57)) = false := by
        rw [← Bool.decide_and, decide_eq_false_iff_not]; omega
      have d2 : (decide ((65 : Int) ≤ (b : Int)) && decide ((b : Int) ≤ 70)) = false := by
        rw [← Bool.decide_and, decide_eq_false_iff_not]; omega
      by_cases e1 : 48 ≤ b
      · have k1 : (48 : Int) ≤ (b : Int) := by omega
        have k2 : (57 : Int) < (b : Int) := by omega
        by_cases e2 : 65 ≤ b
        · have k3 : (65 : Int) ≤ (b : Int) := by omega
          have k4 : (70 : Int) < (b : Int) := by omega
          clear c1 c2 e1 e2 d1 d2
          go_wp2
          go_ret2
          rw [HR.out.1, HR.out.2]
          exact ⟨rfl, rfl⟩
        · have k3 : (b : Int) < 65 := by omega
          clear c1 c2 e1 e2 d1 d2
          go_wp2
          go_ret2
          rw [HR.out.1, HR.out.2]
          exact ⟨rfl, rfl⟩
      · have k1 : (b : Int) < 48 := by omega
        have k3 : (b : Int) < 65 := by omega
        clear c1 c2 e1 d1 d2
        go_wp2
        go_ret2
        rw [HR.out.1, HR.out.2]
        exact ⟨rfl, rfl⟩

end Go.Proofs.YtmhaknejeobfgaaGreatDoor

/- Ref6. -/
namespace Go.Proofs.YtmhaknejeobfgaaGreatDoor
open Go.RowKit Go.Proofs.YtmhaknejeobfgaaGreatDoor.Stable Go.Proofs.YtmhaknejeobfgaaGreatDoor.Order Go.Proofs.YtmhaknejeobfgaaGreatDoor.Points
attribute [local go_sem ↓] Go.wp_at_zero Go.wp_at_succ

/-- The code points from a place on, joined by '+', and the place behind them. -/
def listG : Nat → List Int → Nat → Option (List Int × Nat)
  | 0, _, _ => none
  | f + 1, acc, i => match hexG 8 0 i with
    | none => none
    | some (r, k) => if r ≤ 1114111 ∧ k < 1276 then (if dat k = 43 then listG f (acc ++ [(r : Int)]) (k + 1) else some (acc ++ [(r : Int)], k)) else none

def listAt (i : Nat) : Option (List Int × Nat) := if dat i = 45 then some ([], i + 1) else listG 20 [] i

/-- Where the loop stands. -/
structure ListAt (w wr : World) (l : List Int) (j x f : Nat) (acc : List Int) (a : Option Addr) (cp : Nat) : Prop where
  row : Row wr w.heap.size a cp acc
  fr : Fr (fun _ => False) w wr
  len : acc.length + f ≤ 20
  go : listG f acc x = some (l, j)

set_option maxRecDepth 100000 in
set_option maxHeartbeats 1600000 in
theorem list_calls (y : Int) (i j : Nat) (l : List Int) (w : World) (hy : y = (i : Int)) (h : listAt i = some (l, j)) (hi : i < 1276) :
    Calls Tryz.prog 114 #[.int .i64 y] w fun e w' => ∃ a cp, e = .returned (.tuple #[.slice a l.length cp, .int .i64 j]) ∧ Row w' w.heap.size a cp l ∧ Fr (fun _ => False) w w' := by
  subst hy
  obtain ⟨i0, hi0, hz0, hz1, hz2⟩ := info_parts Tryz.info_int
  have HI : Hid (Tryz.prog.info? 3 = some i0 ∧ i0.zero = some (.int .i64 0) ∧ i0.size = 1 ∧ i0.bytes = 8) := ⟨hi0, hz0, hz1, hz2⟩
  have i0' : (0 : Int) ≤ (i : Int) := by omega
  have i1' : (i : Int) < 1276 := by omega
  obtain ⟨D, hD⟩ : ∃ D : ByteArray, D.data.toList = dataText := ⟨⟨dataText.toArray⟩, rfl⟩
  have HD : Hid (D.data.toList = dataText) := hD
  obtain ⟨b, hb⟩ : ∃ b, b = dat i := ⟨_, rfl⟩
  have hx : ∀ w, (Instr.index 9 (.string D) (.int .i64 i)).run Tryz.prog w = .ok (.int .u8 b) w := fun w => by rw [hb]; exact dat_index HD.out rfl hi w
  unfold listAt at h
  rw [← hb] at h
  clear hD hi hb hi0 hz0 hz1 hz2
  go_enter Tryz.func114, Tryz.ntmps114
  rw [lit_D HD.out (by kernel_rfl)]
  by_cases c0 : b = 45
  · rw [if_pos c0] at h
    have HR : Hid ([] = l ∧ i + 1 = j) := hid (by simpa using h)
    have k0 : ((b : Int) == 45) = true := by simp; omega
    clear h c0
    go_wp2
    go_ret2
    have hr := HR.out
    obtain ⟨rfl, rfl⟩ := hr
    exact ⟨none, 0, by go_num, Row.none _ _, Fr.refl _ _⟩
  rw [if_neg c0] at h
  have k0 : ((b : Int) == 45) = false := by rw [beq_eq_false_iff_ne]; omega
  have HL : Hid (listG 20 [] i = some (l, j)) := h
  clear h c0
  go_wp2
  clear hx k0
  go_loopw [0, 4] (fun v0 v4 wr => ∃ (x f : Nat) (acc : List Int) (a : Option Addr) (cp : Nat), v0 = .int .i64 x ∧ v4 = .slice a acc.length cp ∧ x ≤ 1276 ∧ Hid (ListAt w wr l j x f acc a cp)) (fun v0 _ _ => 1277 - (intOf v0).toNat)
  case atStart => exact ⟨i, 20, [], none, 0, rfl, rfl, by omega, hid ⟨Row.none _ _, Fr.refl _ _, Nat.le_refl _, HL.out⟩⟩
  case round =>
    obtain ⟨x, f, acc, a, cp, rfl, rfl, hx1, HX⟩ := hrel
    have x0 : (0 : Int) ≤ (x : Int) := by omega
    have x1 : (x : Int) ≤ 1276 := by omega
    have hgo := HX.out.go
    cases f with
    | zero => exact absurd hgo (by unfold listG; simp)
    | succ f =>
      unfold listG at hgo
      cases hh : hexG 8 0 x with
      | none => rw [hh] at hgo; cases hgo
      | some p =>
        obtain ⟨r, k⟩ := p
        rw [hh] at hgo
        simp only at hgo
        by_cases hrk : r ≤ 1114111 ∧ k < 1276
        · rw [if_pos hrk] at hgo
          have HK : Hid (hexG 8 0 x = some (r, k) ∧ k < 1276 ∧ r ≤ 1114111 ∧ x ≤ k) := ⟨hh, hrk.2, hrk.1, (hexG_le _ _ _ _ _ hh).2⟩
          obtain ⟨c, hc⟩ : ∃ c, c = dat k := ⟨_, rfl⟩
          have hxc : ∀ w, (Instr.index 9 (.string D) (.int .i64 k)).run Tryz.prog w = .ok (.int .u8 c) w := fun w => by rw [hc]; exact dat_index HD.out rfl hrk.2 w
          have y0 : (0 : Int) ≤ (k : Int) := by omega
          have y1 : (k : Int) < 1276 := by omega
          rw [← hc] at hgo
          clear hc hrk hh
          go_wp2_with (first
            | (go_at_call 113; refine (sixteens_calls x r k _ HK.out.1 HK.out.2.1 HK.out.2.2.1).mono ?_; rintro e w' ⟨rfl, hw⟩; have hw' := hw.symm; subst hw'; clear hw)
            | (at_builtin; refine wpList_append_own_at _ rfl _ _ 37 rfl w.heap.size 3 i0 (.int .i64 0) 1 8 Tryz.underlying37 HI.out.1 HI.out.2.1 HI.out.2.2.1 HI.out.2.2.2 rfl (by decide) (.slice a acc.length cp) acc.length (ints acc) rfl ?own ⟨wr.heap.size, 0, none⟩ 1 1 [.int .i64 r] rfl rfl (cell_one_new _ _ _) (by intro u hu; simp at hu; subst hu; rfl) ?len ?bytes ?base ?grow))
          case own => exact HX.out.row.keep ((Fr.refl (fun _ => False) wr).alloc (Obj.cells #[.int .i64 r] 3))
          case len =>
            have h1 := HX.out.len
            unfold maxLen
            omega
          case bytes =>
            have h1 := HX.out.len
            omega
          case base =>
            have h1 := HX.out.fr.size
            simp
            omega
          case grow =>
            intro v1 w1 k1 g1 _ _
            have f1 : Fr (fun _ => False) w w1 := grown_new (HX.out.fr.alloc (Obj.cells #[.int .i64 r] 3)) (HX.out.row.keep ((Fr.refl _ _).alloc _)) (Nat.le_refl _) g1
            obtain ⟨a', c', rfl, m1⟩ := Row.more (l := acc) (xs := [(r : Int)]) (n := 1) k1 rfl
            have HM : Hid (Row w1 w.heap.size a' c' (acc ++ [(r : Int)]) ∧ Fr (fun _ => False) w w1) := ⟨m1, f1⟩
            clear k1 g1 f1 m1
            by_cases c1 : c = 43
            · rw [if_pos c1] at hgo
              have HG : Hid (listG f (acc ++ [(r : Int)]) (k + 1) = some (l, j)) := hgo
              have e1 : ((c : Int) == 43) = true := by simp; omega
              clear hgo c1
              go_wp2
              go_roundw
              case rel => exact ⟨k + 1, f, acc ++ [(r : Int)], a', c', by go_num, rfl, by omega, hid ⟨HM.out.1, HM.out.2, by have := HX.out.len; simp; omega, HG.out⟩⟩
              case measure =>
                have := HK.out
                simp [intOf]
                omega
            · rw [if_neg c1] at hgo
              have HG : Hid (acc ++ [(r : Int)] = l ∧ k = j) := hid (by simpa using hgo)
              have e1 : ((c : Int) == 43) = false := by rw [beq_eq_false_iff_ne]; omega
              clear hgo c1
              go_wp2
              go_ret2
              have hg := HG.out
              obtain ⟨rfl, rfl⟩ := hg
              exact ⟨a', c', rfl, HM.out.1, HM.out.2⟩
        · rw [if_neg hrk] at hgo; cases hgo

end Go.Proofs.YtmhaknejeobfgaaGreatDoor

/- Ref7. -/
namespace Go.Proofs.YtmhaknejeobfgaaGreatDoor
open Go.RowKit Go.Proofs.YtmhaknejeobfgaaGreatDoor.Stable Go.Proofs.YtmhaknejeobfgaaGreatDoor.Order Go.Proofs.YtmhaknejeobfgaaGreatDoor.Points

/-- A class at a place: its number, and the blank behind it. -/
def decG : Nat → Nat → Nat → Option (Nat × Nat)
  | 0, _, _ => none
  | f + 1, n, i => if dat i = 32 then some (n, i) else if 48 ≤ dat i ∧ dat i ≤ 57 then decG f (n * 10 + dat i - 48) (i + 1) else none

theorem decG_le : ∀ (f n i r j : Nat), decG f n i = some (r, j) → n ≤ r ∧ i ≤ j
  | 0, _, _, _, _, h => by cases h
  | f + 1, n, i, r, j, h => by
    unfold decG at h
    split at h
    · simp at h
      omega
    · split at h
      · have := decG_le f _ _ r j h
        omega
      · cases h

/-- The kind of a row. -/
def Fact.kind (r : Fact) : Nat := if r.compat then 107 else if r.parts = [] then 45 else 99

/-- A line that reads as a row; the line behind it begins at the second place. -/
def lineIs2 (o : Nat) (r : Fact) (nx : Nat) : Bool :=
  match hexG 8 0 o with
  | none => false
  | some (p, k) => decide (p ≤ 1114111 ∧ k + 1 < 1276 ∧ (p : Int) = r.cp) && match decG 8 0 (k + 1) with
    | none => false
    | some (cl, i) => decide (cl ≤ 255 ∧ i + 3 < 1276 ∧ (cl : Int) = r.cls ∧ dat (i + 1) = r.kind) && match listAt (i + 3) with
      | none => false
      | some (a, m) => decide (a = r.parts ∧ m + 1 < 1276) && match listAt (m + 1) with
        | none => false
        | some (b, n) => decide (b = r.fold ∧ n + 1 = nx ∧ nx ≤ 1276 ∧ o < nx)

/-- Where the lines begin. -/
def nextOf (o : Nat) : Nat := match hexG 8 0 o with
  | none => 0
  | some (_, k) => match decG 8 0 (k + 1) with
    | none => 0
    | some (_, i) => match listAt (i + 3) with
      | none => 0
      | some (_, m) => match listAt (m + 1) with
        | none => 0
        | some (_, n) => n + 1

def chainIs : Nat → List Fact → Bool
  | o, [] => decide (o = 1276)
  | o, r :: rs => decide (o < 1276) && lineIs2 o r (nextOf o) && chainIs (nextOf o) rs

theorem chain_facts : chainIs 0 facts = true := by decide +kernel

theorem facts_rise : facts.Pairwise (fun a b => a.cp < b.cp) := by
  have h : (facts.map fun r => r.cp).Pairwise (· < ·) := by decide +kernel
  exact List.pairwise_map.1 h

theorem look_skip (c : Int) : ∀ (l : List Fact) (acc : Option Fact), (∀ q ∈ l, q.cp ≠ c) → l.foldl (fun acc r => if r.cp = c then some r else acc) acc = acc
  | [], _, _ => rfl
  | q :: l, acc, h => by
    rw [List.foldl_cons, if_neg (h q (by simp))]
    exact look_skip c l acc (fun q hq => h q (by simp [hq]))

theorem look_miss {c : Int} (h : ∀ q ∈ facts, q.cp ≠ c) : look facts c = none := look_skip c facts none h

theorem look_hit {pre post : List Fact} {r : Fact} (h : facts = pre ++ r :: post) : look facts r.cp = some r := by
  have hr := facts_rise
  rw [h] at hr
  have h1 := List.pairwise_append.1 hr
  have h2 := List.pairwise_cons.1 h1.2.1
  unfold look
  rw [h, List.foldl_append, List.foldl_cons, if_pos rfl]
  refine look_skip _ _ _ (fun q hq => ?_)
  have := h2.1 q hq
  omega

theorem look_gap {c : Int} {pre post : List Fact} {r : Fact} (h : facts = pre ++ r :: post) (hp : ∀ q ∈ pre, q.cp < c) (hc : c < r.cp) : look facts c = none := by
  have hr := facts_rise
  rw [h] at hr
  have h1 := List.pairwise_append.1 hr
  have h2 := List.pairwise_cons.1 h1.2.1
  refine look_miss (fun q hq => ?_)
  rw [h] at hq
  rcases List.mem_append.1 hq with hq | hq
  · have := hp q hq
    omega
  · rcases List.mem_cons.1 hq with rfl | hq
    · omega
    · have := h2.1 q hq
      omega

/-- The kind of a code point; 0: the table does not speak of it. -/
def kindOf (c : Int) : Nat := match look facts c with | some r => r.kind | none => 0

theorem line_parts {o : Nat} {r : Fact} {nx : Nat} (h : lineIs2 o r nx = true) : ∃ p k cl i m n, hexG 8 0 o = some (p, k) ∧ decG 8 0 (k + 1) = some (cl, i) ∧ listAt (i + 3) = some (r.parts, m) ∧ listAt (m + 1) = some (r.fold, n) ∧ p ≤ 1114111 ∧ k + 1 < 1276 ∧ (p : Int) = r.cp ∧ cl ≤ 255 ∧ i + 3 < 1276 ∧ (cl : Int) = r.cls ∧ dat (i + 1) = r.kind ∧ m + 1 < 1276 ∧ n + 1 = nx ∧ nx ≤ 1276 ∧ o < nx := by
  unfold lineIs2 at h
  split at h
  · cases h
  · rename_i p k hk
    rw [Bool.and_eq_true, decide_eq_true_eq] at h
    obtain ⟨⟨a1, a2, a3⟩, h⟩ := h
    split at h
    · cases h
    · rename_i cl i hi
      rw [Bool.and_eq_true, decide_eq_true_eq] at h
      obtain ⟨⟨b1, b2, b3, b4⟩, h⟩ := h
      split at h
      · cases h
      · rename_i a m hm
        rw [Bool.and_eq_true, decide_eq_true_eq] at h
        obtain ⟨⟨rfl, c2⟩, h⟩ := h
        split at h
        · cases h
        · rename_i b n hn
          rw [decide_eq_true_eq] at h
          obtain ⟨rfl, d2, d3, d4⟩ := h
          exact ⟨p, k, cl, i, m, n, hk, hi, hm, hn, a1, a2, a3, b1, b2, b3, b4, c2, d2, d3, d4⟩

end Go.Proofs.YtmhaknejeobfgaaGreatDoor

/- Ref8. -/
namespace Go.Proofs.YtmhaknejeobfgaaGreatDoor
open Go.RowKit Go.Proofs.YtmhaknejeobfgaaGreatDoor.Stable Go.Proofs.YtmhaknejeobfgaaGreatDoor.Order Go.Proofs.YtmhaknejeobfgaaGreatDoor.Points
attribute [local go_sem ↓] Go.wp_at_zero Go.wp_at_succ

def zeroFact : Array Value := #[.int .i64 0, .int .u8 0, .slice none 0 0, .slice none 0 0]

/-- Where the loop over the lines stands. -/
structure OfAt (w wr : World) (c : Int) (o : Nat) (pre rs : List Fact) : Prop where
  res : wr.heap[w.heap.size]? = some (.cells zeroFact 151 (0, 0))
  zer : wr.heap[w.heap.size + 1]? = some (.cells zeroFact 151 (0, 0))
  fr : Fr (fun _ => False) w wr
  cut : facts = pre ++ rs
  low : ∀ q ∈ pre, q.cp < c
  chain : chainIs o rs = true
  le : o ≤ 1276

/-- What Of tells. -/
structure FactIs (w' : World) (base : Nat) (c : Int) (a : Option Addr) (ca : Nat) (b : Option Addr) (cb : Nat) : Prop where
  ra : Row w' base a ca (rawParts c)
  rb : Row w' base b cb (rawFold c)

def factV (c : Int) (a : Option Addr) (ca : Nat) (b : Option Addr) (cb : Nat) : Value := .agg #[.int .i64 (clsOf c), .int .u8 (kindOf c), .slice a (rawParts c).length ca, .slice b (rawFold c).length cb]

theorem zero_at {w : World} {b : Nat} (h : w.heap[b]? = some (.cells zeroFact 151 (0, 0))) : w.cell? ⟨b, 0, none⟩ = some (.int .i64 0) ∧ w.cell? ⟨b, 1, none⟩ = some (.int .u8 0) ∧ w.cell? ⟨b, 2, none⟩ = some (.slice none 0 0) ∧ w.cell? ⟨b, 3, none⟩ = some (.slice none 0 0) := ⟨cell_of h rfl, cell_of h rfl, cell_of h rfl, cell_of h rfl⟩

theorem OfAt.kept {w wr w' : World} {c : Int} {o : Nat} {pre rs : List Fact} (h : OfAt w wr c o pre rs) (f : Fr (fun _ => False) wr w') : OfAt w w' c o pre rs := by
  have h1 := lt_of h.res
  have h2 := lt_of h.zer
  exact ⟨(f.block _ h1 id).trans h.res, (f.block _ h2 id).trans h.zer, h.fr.trans f (fun _ _ h => h), h.cut, h.low, h.chain, h.le⟩

theorem OfAt.start (w : World) (c : Int) : OfAt w ((w.alloc (Obj.cells zeroFact 151)).alloc (Obj.cells zeroFact 151)) c 0 [] facts := by
  obtain ⟨A, hA⟩ : ∃ A, A = w.alloc (Obj.cells zeroFact 151) := ⟨_, rfl⟩
  rw [← hA]
  have sA : A.heap.size = w.heap.size + 1 := by rw [hA]; simp
  have rA : A.heap[w.heap.size]? = some (.cells zeroFact 151 (0, 0)) := by rw [hA]; exact heap_alloc_new w _
  have fA : Fr (fun _ => False) w A := by rw [hA]; exact (Fr.refl _ _).alloc _
  have fB : Fr (fun _ => False) A (A.alloc (Obj.cells zeroFact 151)) := (Fr.refl _ _).alloc _
  refine ⟨(fB.block _ (by omega) id).trans rA, ?_, fA.trans fB (fun _ _ h => h), rfl, ?_, chain_facts, Nat.zero_le _⟩
  · rw [← sA]
    exact heap_alloc_new A _
  · intro q hq
    cases hq

/-- The result's block, written. -/
theorem res_set {w : World} {b : Nat} (h : w.heap[b]? = some (.cells zeroFact 151 (0, 0))) (x0 x1 x2 x3 : Value) : ((((w.setCell ⟨b, 0, none⟩ x0).setCell ⟨b, 1, none⟩ x1).setCell ⟨b, 2, none⟩ x2).setCell ⟨b, 3, none⟩ x3).heap[b]? = some (.cells #[x0, x1, x2, x3] 151 (0, 0)) := by
  have h3 := set_of (set_of (set_of (set_of h 0 x0) 1 x1) 2 x2) 3 x3
  exact h3

theorem fact_none {w' : World} {base : Nat} {c : Int} (h : look facts c = none) : factV c none 0 none 0 = .agg #[.int .i64 0, .int .u8 0, .slice none 0 0, .slice none 0 0] ∧ FactIs w' base c none 0 none 0 := by
  have e1 : rawParts c = [] := by unfold rawParts; rw [h]
  have e2 : rawFold c = [] := by unfold rawFold; rw [h]
  have e3 : clsOf c = 0 := by unfold clsOf; rw [h]
  have e4 : kindOf c = 0 := by unfold kindOf; rw [h]
  refine ⟨?_, ?_, ?_⟩
  · unfold factV
    rw [e1, e2, e3, e4]
    rfl
  · rw [e1]; exact Row.none _ _
  · rw [e2]; exact Row.none _ _

theorem fr_four {w w' : World} {b : Nat} (f : Fr (fun _ => False) w w') (hb : w.heap.size ≤ b) (x0 x1 x2 x3 : Value) : Fr (fun _ => False) w ((((w'.setCell ⟨b, 0, none⟩ x0).setCell ⟨b, 1, none⟩ x1).setCell ⟨b, 2, none⟩ x2).setCell ⟨b, 3, none⟩ x3) :=
  (((f.setCell _ _ (fun h => absurd h (Nat.not_lt.2 hb))).setCell _ _ (fun h => absurd h (Nat.not_lt.2 hb))).setCell _ _ (fun h => absurd h (Nat.not_lt.2 hb))).setCell _ _ (fun h => absurd h (Nat.not_lt.2 hb))

theorem fact_some {w wq w1 w2 : World} {c : Int} {r : Fact} {u kd : Nat} {a bb : Option Addr} {ca cb : Nat} (hl : look facts c = some r) (hu : (u : Int) = r.cls) (hk : kd = r.kind) (hf : Fr (fun _ => False) w w2) (hs : w.heap.size ≤ wq.heap.size) (hlt : w.heap.size < wq.heap.size) (ra : Row w1 wq.heap.size a ca r.parts) (fa : Fr (fun _ => False) wq w1) (rb : Row w2 w1.heap.size bb cb r.fold) (fb : Fr (fun _ => False) w1 w2) :
    ∃ a' ca' b' cb', Ending.returned (.agg #[.int .i64 u, .int .u8 kd, .slice a r.parts.length ca, .slice bb r.fold.length cb]) = .returned (factV c a' ca' b' cb') ∧ FactIs ((((w2.setCell ⟨w.heap.size, 0, none⟩ (.int .i64 u)).setCell ⟨w.heap.size, 1, none⟩ (.int .u8 kd)).setCell ⟨w.heap.size, 2, none⟩ (.slice a r.parts.length ca)).setCell ⟨w.heap.size, 3, none⟩ (.slice bb r.fold.length cb)) w.heap.size c a' ca' b' cb' ∧ Fr (fun _ => False) w ((((w2.setCell ⟨w.heap.size, 0, none⟩ (.int .i64 u)).setCell ⟨w.heap.size, 1, none⟩ (.int .u8 kd)).setCell ⟨w.heap.size, 2, none⟩ (.slice a r.parts.length ca)).setCell ⟨w.heap.size, 3, none⟩ (.slice bb r.fold.length cb)) := by
  have e1 : rawParts c = r.parts := by unfold rawParts; rw [hl]
  have e2 : rawFold c = r.fold := by unfold rawFold; rw [hl]
  have e3 : clsOf c = r.cls := by unfold clsOf; rw [hl]
  have e4 : kindOf c = r.kind := by unfold kindOf; rw [hl]
  have f4 : Fr (fun x => x = w.heap.size) w2 ((((w2.setCell ⟨w.heap.size, 0, none⟩ (.int .i64 u)).setCell ⟨w.heap.size, 1, none⟩ (.int .u8 kd)).setCell ⟨w.heap.size, 2, none⟩ (.slice a r.parts.length ca)).setCell ⟨w.heap.size, 3, none⟩ (.slice bb r.fold.length cb)) := (((((Fr.refl (fun x => x = w.heap.size) w2).setCell ⟨w.heap.size, 0, none⟩ _ (fun _ => rfl)).setCell ⟨w.heap.size, 1, none⟩ _ (fun _ => rfl)).setCell ⟨w.heap.size, 2, none⟩ _ (fun _ => rfl)).setCell ⟨w.heap.size, 3, none⟩ _ (fun _ => rfl))
  have h1 := fa.size
  refine ⟨a, ca, bb, cb, ?_, ⟨?_, ?_⟩, fr_four hf (Nat.le_refl _) _ _ _ _⟩
  · unfold factV
    rw [e1, e2, e3, e4, hu, hk]
  · rw [e1]
    exact ((ra.keep fb).kept f4 (fun x hx e => by have := (ra.lt hx).1; omega)).low hs
  · rw [e2]
    exact (rb.kept f4 (fun x hx e => by have := (rb.lt hx).1; omega)).low (by omega)

set_option maxRecDepth 100000 in
set_option maxHeartbeats 3200000 in
theorem fact_calls (c : Int) (w : World) (_h0 : 0 ≤ c) (_h1 : c ≤ 1114111) :
    Calls Tryz.prog 95 #[.int .i64 c] w fun e w' => ∃ a ca b cb, e = .returned (factV c a ca b cb) ∧ FactIs w' w.heap.size c a ca b cb ∧ Fr (fun _ => False) w w' := by
  obtain ⟨D, hD⟩ : ∃ D : ByteArray, D.data.toList = dataText := ⟨⟨dataText.toArray⟩, rfl⟩
  have HD : Hid (D.data.toList = dataText) := hD
  clear hD
  go_enter Tryz.func95, Tryz.ntmps95
  rw [lit_D HD.out (by kernel_rfl)]
  go_wp2
  go_loopw [4] (fun v4 wr => ∃ (o : Nat) (pre rs : List Fact), v4 = .int .i64 o ∧ Hid (OfAt w wr c o pre rs)) (fun v4 _ => 1277 - (intOf v4).toNat)
  case atStart =>
    exact ⟨0, [], facts, rfl, hid (OfAt.start w c)⟩
  case round =>
    obtain ⟨o, pre, rs, rfl, HW⟩ := hrel
    have o0 : (0 : Int) ≤ (o : Int) := by omega
    have o1 : (o : Int) ≤ 1276 := by have := HW.out.le; omega
    cases rs with
    | nil =>
      have ho : o = 1276 := by
        have h := HW.out.chain
        unfold chainIs at h
        exact of_decide_eq_true h
      subst ho
      have HN : Hid (look facts c = none) := hid (look_miss (fun q hq => by
        have h := HW.out.cut
        rw [List.append_nil] at h
        rw [h] at hq
        have := HW.out.low q hq
        omega))
      obtain ⟨z0, z1, z2, z3⟩ := zero_at HW.out.zer
      obtain ⟨y0, y1, y2, y3⟩ := zero_at HW.out.res
      have g0 := frozen_of HW.out.res 0
      have g1 := frozen_of HW.out.res 1
      have g2 := frozen_of HW.out.res 2
      have g3 := frozen_of HW.out.res 3
      go_wp2
      have rb := res_set HW.out.res (.int .i64 0) (.int .u8 0) (.slice none 0 0) (.slice none 0 0)
      have e0 := cell_of rb (o := 0) rfl
      have e1 := cell_of rb (o := 1) rfl
      have e2 := cell_of rb (o := 2) rfl
      have e3 := cell_of rb (o := 3) rfl
      try simp only [Exit.inBlock, Exit.then]
      refine bodyPost_ret (by simp [results, Tryz.results95, go_sem, e0, e1, e2, e3]; try rfl) rfl ?_
      obtain ⟨e4, e5⟩ := fact_none (w' := ((((wr.setCell ⟨w.heap.size, 0, none⟩ (.int .i64 0)).setCell ⟨w.heap.size, 1, none⟩ (.int .u8 0)).setCell ⟨w.heap.size, 2, none⟩ (.slice none 0 0)).setCell ⟨w.heap.size, 3, none⟩ (.slice none 0 0))) (base := w.heap.size) HN.out
      exact ⟨none, 0, none, 0, by rw [e4], e5, fr_four HW.out.fr (Nat.le_refl _) _ _ _ _⟩
    | cons r rs =>
      have hch := HW.out.chain
      unfold chainIs at hch
      rw [Bool.and_eq_true, Bool.and_eq_true, decide_eq_true_eq] at hch
      obtain ⟨⟨hlt, hline⟩, hrest⟩ := hch
      obtain ⟨nx, hnx⟩ : ∃ nx, nx = nextOf o := ⟨_, rfl⟩
      rw [← hnx] at hline hrest
      obtain ⟨p, k, cl, i, m, n, L1, L2, L3, L4, q1, q2, q3, q4, q5, q6, q7, q8, q9, q10, q11⟩ := line_parts hline
      have HL : Hid (hexG 8 0 o = some (p, k) ∧ decG 8 0 (k + 1) = some (cl, i) ∧ listAt (i + 3) = some (r.parts, m) ∧ listAt (m + 1) = some (r.fold, n) ∧ (p : Int) = r.cp ∧ (cl : Int) = r.cls ∧ n + 1 = nx ∧ o < nx ∧ chainIs nx rs = true ∧ k < 1276 ∧ p ≤ 1114111 ∧ i + 3 < 1276 ∧ m + 1 < 1276 ∧ nx ≤ 1276 ∧ cl ≤ 255) := ⟨L1, L2, L3, L4, q3, q6, q9, q11, hrest, by omega, q1, q5, q8, q10, q4⟩
      obtain ⟨kd, hkd⟩ : ∃ kd, kd = r.kind := ⟨_, rfl⟩
      rw [← hkd] at q7
      have hxk : ∀ w, (Instr.index 9 (.string D) (.int .i64 ((i : Int) + 1))).run Tryz.prog w = .ok (.int .u8 kd) w := fun w => by rw [← q7]; exact dat_index HD.out (by omega) (by omega) w
      have HK : Hid (kd = r.kind) := hkd
      have o2 : (o : Int) < 1276 := by omega
      have k0 : (0 : Int) ≤ (k : Int) := by omega
      have k1 : (k : Int) + 1 < 1276 := by omega
      have n0 : (0 : Int) ≤ (n : Int) := by omega
      have n1 : (n : Int) + 1 ≤ 1276 := by omega
      have m0 : (0 : Int) ≤ (m : Int) := by omega
      have m1 : (m : Int) + 1 < 1276 := by omega
      have i0 : (0 : Int) ≤ (i : Int) := by omega
      have i1 : (i : Int) + 3 < 1276 := by omega
      have p0 : (0 : Int) ≤ (p : Int) := by omega
      have p1 : (p : Int) ≤ 1114111 := by omega
      clear hlt hline hrest hnx L1 L2 L3 L4 q1 q2 q3 q4 q5 q6 q7 q8 q9 q10 q11 hkd
      by_cases hpc : c < (p : Int)
      · have HN : Hid (look facts c = none) := hid (look_gap HW.out.cut HW.out.low (by rw [← HL.out.2.2.2.2.1]; exact hpc))
        obtain ⟨z0, z1, z2, z3⟩ := zero_at HW.out.zer
        obtain ⟨y0, y1, y2, y3⟩ := zero_at HW.out.res
        have g0 := frozen_of HW.out.res 0
        have g1 := frozen_of HW.out.res 1
        have g2 := frozen_of HW.out.res 2
        have g3 := frozen_of HW.out.res 3
        go_wp2_with (go_at_call 113; refine (sixteens_calls o p k _ HL.out.1 HL.out.2.2.2.2.2.2.2.2.2.1 HL.out.2.2.2.2.2.2.2.2.2.2.1).mono ?_; rintro e w' ⟨rfl, hw⟩; have hw' := hw.symm; subst hw'; clear hw)
        have rb := res_set HW.out.res (.int .i64 0) (.int .u8 0) (.slice none 0 0) (.slice none 0 0)
        have e0 := cell_of rb (o := 0) rfl
        have e1 := cell_of rb (o := 1) rfl
        have e2 := cell_of rb (o := 2) rfl
        have e3 := cell_of rb (o := 3) rfl
        try simp only [Exit.inBlock, Exit.then]
        refine bodyPost_ret (by simp [results, Tryz.results95, go_sem, e0, e1, e2, e3]; try rfl) rfl ?_
        obtain ⟨e4, e5⟩ := fact_none (w' := ((((wr.setCell ⟨w.heap.size, 0, none⟩ (.int .i64 0)).setCell ⟨w.heap.size, 1, none⟩ (.int .u8 0)).setCell ⟨w.heap.size, 2, none⟩ (.slice none 0 0)).setCell ⟨w.heap.size, 3, none⟩ (.slice none 0 0))) (base := w.heap.size) HN.out
        exact ⟨none, 0, none, 0, by rw [e4], e5, fr_four HW.out.fr (Nat.le_refl _) _ _ _ _⟩
      have hpc' : (p : Int) ≤ c := by omega
      have dpc : decide (c < (p : Int)) = false := decide_eq_false hpc
      clear hpc
      go_wp2_with (go_at_call 113; refine (sixteens_calls o p k _ HL.out.1 HL.out.2.2.2.2.2.2.2.2.2.1 HL.out.2.2.2.2.2.2.2.2.2.2.1).mono ?_; rintro e w' ⟨rfl, hw⟩; have hw' := hw.symm; subst hw'; clear hw)
      go_loopw [4, 7] (fun v4 v7 wq => ∃ (x n f : Nat), v4 = .int .i64 x ∧ v7 = .int .i64 n ∧ wq = wr ∧ Hid (decG f n x = some (cl, i))) (fun v4 _ _ => 1277 - (intOf v4).toNat)
      case atStart => exact ⟨k + 1, 0, 8, by go_num, rfl, rfl, HL.out.2.1⟩
      case round =>
        obtain ⟨x, u, f, rfl, rfl, rfl, HX⟩ := hrel
        have hle := decG_le _ _ _ _ _ HX.out
        have hh := HL.out
        have x0 : (0 : Int) ≤ (x : Int) := by omega
        have x1 : (x : Int) < 1276 := by omega
        have u0 : (0 : Int) ≤ (u : Int) := by omega
        have u1 : (u : Int) ≤ 255 := by omega
        obtain ⟨b, hb⟩ : ∃ b, b = dat x := ⟨_, rfl⟩
        have hx : ∀ w, (Instr.index 9 (.string D) (.int .i64 x)).run Tryz.prog w = .ok (.int .u8 b) w := fun w => by rw [hb]; exact dat_index HD.out rfl (by omega) w
        have hst := HX.out
        clear hle hh
        cases f with
        | zero => exact absurd hst (by unfold decG; simp)
        | succ f =>
          unfold decG at hst
          rw [← hb] at hst
          clear hb
          by_cases c1 : b = 32
          · rw [if_pos c1] at hst
            have hxi : u = cl ∧ x = i := by simpa using hst
            obtain ⟨rfl, rfl⟩ := hxi
            have e1 : ((b : Int) == 32) = true := by simp; omega
            clear hst c1
            by_cases hpe : (p : Int) = c
            · have ee : ((p : Int) == c) = true := by simp [hpe]
              have HR : Hid (look facts c = some r) := hid (by
                have h := look_hit HW.out.cut
                rw [← HL.out.2.2.2.2.1, hpe] at h
                exact h)
              clear hpe
              go_wp2_with (first
                | (go_at_call 114; refine (list_calls _ (x + 3) m r.parts _ (by omega) HL.out.2.2.1 HL.out.2.2.2.2.2.2.2.2.2.2.2.1).mono ?_; rintro e w1 ⟨a, ca, rfl, hra, hfa⟩; have HA : Hid (Row w1 wr.heap.size a ca r.parts ∧ Fr (fun _ => False) wr w1) := (And.intro hra hfa); clear hra hfa)
                | (go_at_call 114; refine (list_calls _ (m + 1) n r.fold _ (by omega) HL.out.2.2.2.1 HL.out.2.2.2.2.2.2.2.2.2.2.2.2.1).mono ?_; rintro e w2 ⟨bb, cb, rfl, hrb, hfb⟩; have HB : Hid (Row w2 w1.heap.size bb cb r.fold ∧ Fr (fun _ => False) w1 w2) := (And.intro hrb hfb); have hk2 := HW.out.kept (HA.out.2.trans hfb (fun _ _ h => h)); obtain ⟨y0, y1, y2, y3⟩ := zero_at hk2.res; have g0 := frozen_of hk2.res 0; have g1 := frozen_of hk2.res 1; have g2 := frozen_of hk2.res 2; have g3 := frozen_of hk2.res 3; have HW2 : Hid (OfAt w w2 c o pre (r :: rs)) := hk2; clear hrb hfb hk2))
              have rb := res_set HW2.out.res (.int .i64 u) (.int .u8 kd) (.slice a r.parts.length ca) (.slice bb r.fold.length cb)
              have e0 := cell_of rb (o := 0) rfl
              have e1 := cell_of rb (o := 1) rfl
              have e2 := cell_of rb (o := 2) rfl
              have e3 := cell_of rb (o := 3) rfl
              try simp only [Exit.inBlock, Exit.then]
              refine bodyPost_ret (by simp [results, Tryz.results95, go_sem, e0, e1, e2, e3]; try rfl) rfl ?_
              exact fact_some HR.out HL.out.2.2.2.2.2.1 HK.out HW2.out.fr HW.out.fr.size (lt_of HW.out.res) HA.out.1 HA.out.2 HB.out.1 HB.out.2
            · have ee : ((p : Int) == c) = false := by rw [beq_eq_false_iff_ne]; exact hpe
              have HP : Hid ((p : Int) < c) := hid (by omega)
              clear hpe
              go_wp2_with (first
                | (go_at_call 114; refine (list_calls _ (x + 3) m r.parts _ (by omega) HL.out.2.2.1 HL.out.2.2.2.2.2.2.2.2.2.2.2.1).mono ?_; rintro e w1 ⟨a, ca, rfl, hra, hfa⟩; have HA : Hid (Row w1 wr.heap.size a ca r.parts ∧ Fr (fun _ => False) wr w1) := (And.intro hra hfa); clear hra hfa)
                | (go_at_call 114; refine (list_calls _ (m + 1) n r.fold _ (by omega) HL.out.2.2.2.1 HL.out.2.2.2.2.2.2.2.2.2.2.2.2.1).mono ?_; rintro e w2 ⟨bb, cb, rfl, hrb, hfb⟩; have HB : Hid (Row w2 w1.heap.size bb cb r.fold ∧ Fr (fun _ => False) w1 w2) := (And.intro hrb hfb); have hk2 := HW.out.kept (HA.out.2.trans hfb (fun _ _ h => h)); obtain ⟨y0, y1, y2, y3⟩ := zero_at hk2.res; have g0 := frozen_of hk2.res 0; have g1 := frozen_of hk2.res 1; have g2 := frozen_of hk2.res 2; have g3 := frozen_of hk2.res 3; have HW2 : Hid (OfAt w w2 c o pre (r :: rs)) := hk2; clear hrb hfb hk2))
              go_roundw
              case rel =>
                have h := HW2.out
                have hl := HL.out
                refine ⟨nx, pre ++ [r], rs, by go_num, hid ⟨h.res, h.zer, h.fr, by rw [h.cut]; simp, ?_, hl.2.2.2.2.2.2.2.2.1, hl.2.2.2.2.2.2.2.2.2.2.2.2.2.1⟩⟩
                intro q hq
                rcases List.mem_append.1 hq with hq | hq
                · exact h.low q hq
                · simp at hq
                  subst hq
                  rw [← hl.2.2.2.2.1]
                  exact HP.out
              case measure =>
                have hl := HL.out
                simp [intOf]
                omega
          · rw [if_neg c1] at hst
            by_cases c2 : 48 ≤ b ∧ b ≤ 57
            · rw [if_pos c2] at hst
              have HS : Hid (decG f (u * 10 + b - 48) (x + 1) = some (cl, i)) := hst
              have e1 : ((b : Int) == 32) = false := by rw [beq_eq_false_iff_ne]; omega
              have b0 : (48 : Int) ≤ (b : Int) := by omega
              have b1 : (b : Int) ≤ 57 := by omega
              clear hst c1 c2
              go_wp2
              go_roundw
              case rel => exact ⟨x + 1, u * 10 + b - 48, f, by go_num, by congr 1; omega, trivial, HS⟩
              case measure => simp [intOf]; omega
            · rw [if_neg c2] at hst
              cases hst

end Go.Proofs.YtmhaknejeobfgaaGreatDoor

/- Ref9. -/
namespace Go.Proofs.YtmhaknejeobfgaaGreatDoor
open Go.RowKit Go.Proofs.YtmhaknejeobfgaaGreatDoor.Stable Go.Proofs.YtmhaknejeobfgaaGreatDoor.Order Go.Proofs.YtmhaknejeobfgaaGreatDoor.Points

/-- How deep it is taken apart. -/
def rk (k : Bool) (c : Int) : Nat := if partsOf k c = [] then 0 else if (partsOf k c).all (fun x => (partsOf k x).isEmpty) then 1 else 2

theorem rows_rk : facts.all (fun r => both fun k => (partsOf k r.cp).all (fun x => decide (rk k x < rk k r.cp) && isValid x)) = true := by decide +kernel

theorem rows_kind : facts.all (fun r => (!r.compat || !r.parts.isEmpty) && decide (r.parts.length ≤ 100 ∧ r.fold.length ≤ 100) && r.fold.all isValid) = true := by decide +kernel

theorem rk_parts {k : Bool} {c : Int} (hs : ¬ (44032 ≤ c ∧ c ≤ 55203)) (x : Int) (hx : x ∈ partsOf k c) : rk k x < rk k c ∧ Valid x := by
  rcases look_cases c with h | ⟨r, hr, rfl⟩
  · rw [parts_none k h hs] at hx
    cases hx
  · have h := both_all (List.all_eq_true.1 rows_rk r hr) k
    have h2 := List.all_eq_true.1 h x hx
    rw [Bool.and_eq_true, decide_eq_true_eq] at h2
    refine ⟨h2.1, ?_⟩
    have h3 := h2.2
    unfold isValid at h3
    unfold Valid
    simpa using h3

theorem look_mem {c : Int} {r : Fact} (h : look facts c = some r) : r ∈ facts ∧ r.cp = c := by
  rcases look_some facts c none _ rfl with h2 | ⟨q, h2, h3, h4⟩
  · unfold look at h
    rw [h2] at h
    cases h
  · unfold look at h
    rw [h2] at h
    cases h
    exact ⟨h3, h4⟩

/-- Its kind decides. -/
theorem kind_parts (k : Bool) (c : Int) (hs : ¬ (44032 ≤ c ∧ c ≤ 55203)) : (partsOf k c = [] ∧ kindOf c ≠ 99 ∧ (kindOf c ≠ 107 ∨ k = false)) ∨ (partsOf k c = rawParts c ∧ rawParts c ≠ [] ∧ (kindOf c = 99 ∨ (kindOf c ≠ 99 ∧ kindOf c = 107 ∧ k = true))) := by
  unfold partsOf kindOf compatOf rawParts
  rw [if_neg hs]
  cases h : look facts c with
  | none => exact .inl ⟨by simp, by simp, by simp⟩
  | some r =>
    have hk := List.all_eq_true.1 rows_kind r (look_mem h).1
    rw [Bool.and_eq_true, Bool.and_eq_true] at hk
    simp only
    unfold Fact.kind
    cases hc : r.compat with
    | true =>
      rw [hc] at hk
      have hp : r.parts ≠ [] := by simpa using hk.1.1
      cases k with
      | true => exact .inr ⟨by simp, hp, .inr ⟨by simp, by simp, rfl⟩⟩
      | false => exact .inl ⟨by simp, by simp, .inr rfl⟩
    | false =>
      by_cases hp : r.parts = []
      · exact .inl ⟨by simp [hp], by simp [hp], .inl (by simp [hp])⟩
      · exact .inr ⟨by simp, hp, .inl (by simp [hp])⟩

theorem raw_len (c : Int) : (rawParts c).length ≤ 100 ∧ (rawFold c).length ≤ 100 ∧ ∀ x ∈ rawFold c, Valid x := by
  unfold rawParts rawFold
  cases h : look facts c with
  | none => simp
  | some r =>
    have hk := List.all_eq_true.1 rows_kind r (look_mem h).1
    rw [Bool.and_eq_true, Bool.and_eq_true, decide_eq_true_eq] at hk
    refine ⟨hk.1.2.1, hk.1.2.2, fun x hx => ?_⟩
    have h3 := List.all_eq_true.1 hk.2 x hx
    unfold isValid at h3
    unfold Valid
    simpa using h3

theorem kind_le (c : Int) : kindOf c ≤ 255 := by
  unfold kindOf
  split
  · unfold Fact.kind
    split
    · omega
    · split <;> omega
  · omega

theorem Row.news {w : World} {base : Nat} {a : Option Addr} {cp : Nat} {l : List Int} (h : Row w base a cp l) (hne : l ≠ []) : ∃ g, a = some ⟨g, 0, Option.none⟩ ∧ ∀ j u, (YtmhaknejeobfgaaGreatDoor.ints l)[j]? = some u → w.cell? ((⟨g, 0, Option.none⟩ : Addr).add j) = some u := by
  have hl : 0 < l.length := List.length_pos_iff.2 hne
  rcases h.2 with ⟨_, hn⟩ | ⟨g, cap, cur, hs, hb, hgg, h1, h2, h3, h4⟩
  · omega
  · cases hs
    refine ⟨g, rfl, fun j u hu => ?_⟩
    have hj : j < l.length := by
      have := (List.getElem?_eq_some_iff.1 hu).1
      rw [ints_length] at this
      exact this
    obtain ⟨g', e, hc⟩ := row_cell h hj hu
    cases e
    rw [show (⟨g, 0, Option.none⟩ : Addr).add j = ⟨g, j, Option.none⟩ by unfold Addr.add; split <;> simp_all]
    exact hc

/-- A list that was just laid. -/
theorem Row.new (w : World) (xs : List Int) {cs : Array Value} (hc : cs.toList = YtmhaknejeobfgaaGreatDoor.ints xs) {n : Nat} (hn : xs.length = n) (hm : n ≤ 1000) : Row (w.alloc (.cells cs 3)) w.heap.size (some ⟨w.heap.size, 0, Option.none⟩) n xs := by
  have hs : cs.size = n := by rw [← Array.length_toList, hc, ints_length, hn]
  refine ⟨by rw [ints_length, Nat.mul_one], .inr ⟨w.heap.size, n, cs, rfl, Nat.le_refl _, heap_alloc_new w _, by omega, by unfold maxLen; omega, by omega, ?_⟩⟩
  rw [hc, List.take_of_length_le (by rw [ints_length]; omega)]

end Go.Proofs.YtmhaknejeobfgaaGreatDoor
