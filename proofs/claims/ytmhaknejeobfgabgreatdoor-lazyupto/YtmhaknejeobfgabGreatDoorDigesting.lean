/- Digest: the hash of a source, or why it gives up. Digest: the hash of a source, or why it gives up. Lists of chunks in new memory; the laws' own chunked: a text as chunks. -/
import Derived.Test.YtmhaknejeobfgabGreatDoorChPlain
import Derived.Test.YtmhaknejeobfgabGreatDoorKeys
import Derived.Test.YtmhaknejeobfgabGreatDoorStreaming
import Derived.Test.YtmhaknejeobfgabGreatDoorQueues
import Derived.Test.YtmhaknejeobfgabGreatDoorChReads
import Derived.Maps.AppendAt
import Derived.Laws.Slices

/- DigestC. -/
namespace Go.Proofs.YtmhaknejeobfgabGreatDoor
open Go.RowKit Go.Proofs.YtmhaknejeobfgabGreatDoor.Stable Go.Proofs.YtmhaknejeobfgabGreatDoor.Order Go.Proofs.YtmhaknejeobfgabGreatDoor.Points
attribute [local go_sem ↓] Go.wp_at_zero Go.wp_at_succ

/-- Where a source stands: reads, has it ended, fetched. -/
structure Cs where
  k : Nat
  e : Bool
  t : Nat

def nxtC (m : Int) (L : List Chk) (s : Cs) : Int × Cs := ((fetchP m L s.t s.k s.e).c, ⟨(fetchP m L s.t s.k s.e).k, (fetchP m L s.t s.k s.e).e, if (fetchP m L s.t s.k s.e).c = -1 then s.t else s.t + 1⟩)

def badC (m : Int) (L : List Chk) (s : Cs) : Option Value := if (fetchP m L s.t s.k s.e).err = 0 then none else some (upV (fetchP m L s.t s.k s.e).err)

theorem chunk_fetcher (hi br bc : Nat) (a : Option Addr) (cpl : Nat) (m : Int) (L : List Chk) : Fetcher br (fun (s : Cs) w T => RcM w hi br bc a cpl m L s.k s.e s.t T) (nxtC m L) (badC m L) where
  ok := fun s w T h hb => by
    refine (fetchC_calls h).mono ?_
    rintro e w' ⟨h1 | h1, h2⟩
    · exact ⟨h1.2.1, h1.2.2, h2⟩
    · unfold badC at hb
      rw [if_neg h1.1] at hb
      cases hb
  no := fun s w T v h hb => by
    refine (fetchC_calls h).mono ?_
    rintro e w' ⟨h1 | h1, h2⟩
    · unfold badC at hb
      rw [if_pos h1.1] at hb
      cases hb
    · unfold badC at hb
      rw [if_neg h1.1] at hb
      cases hb
      exact ⟨h1.2.1, h2⟩
  kept := fun s w w' T h f => h.kept f (fun _ _ => id) (fun _ _ => id)

theorem comes_calm {m : Int} {L : List Chk} (hc : ∀ j, j < L.length → faultAt L j = 0) : ∀ (r tk : List Int), fullOf m L = tk ++ r → ∀ (k : Nat) (e : Bool), OkAt L k e → Comes (nxtC m L) (badC m L) ⟨k, e, tk.length⟩ r none
  | [], tk, h, k, e, ho => by
    obtain ⟨h1, h2, h3⟩ := fetch_calm (m := m) (t := tk.length) ho hc
    have hn : (fullOf m L)[tk.length]? = none := by rw [h, List.append_nil]; simp
    rcases h3 with h3 | ⟨_, h3, _⟩
    · rw [hn] at h3; cases h3
    · refine .stop ?_ h3
      unfold badC
      rw [if_pos h1]
  | c :: r, tk, h, k, e, ho => by
    obtain ⟨h1, h2, h3⟩ := fetch_calm (m := m) (t := tk.length) ho hc
    have hn : (fullOf m L)[tk.length]? = some c := by rw [h]; simp
    rcases h3 with h3 | ⟨h3, _, _⟩
    · rw [hn] at h3
      have hce : (fetchP m L tk.length k e).c = c := by cases h3; rfl
      have hv : Valid c := full_valid m L c (by rw [h]; simp)
      have hne : c ≠ -1 := by unfold Valid at hv; omega
      have hs := comes_calm hc r (tk ++ [c]) (by rw [h]; simp) _ _ h2
      have e1 : nxtC m L ⟨k, e, tk.length⟩ = (c, ⟨(fetchP m L tk.length k e).k, (fetchP m L tk.length k e).e, (tk ++ [c]).length⟩) := by
        unfold nxtC
        dsimp only
        rw [hce, if_neg hne, List.length_append, List.length_singleton]
      have := Comes.step (nxt := nxtC m L) (bad := badC m L) (s := ⟨k, e, tk.length⟩) (xs := r) (r := none) (by unfold badC; rw [if_pos h1]) (by rw [e1]; exact hv) (by rw [e1]; exact hs)
      rw [e1] at this
      exact this
    · rw [hn] at h3; cases h3

theorem comes_fault {m : Int} {L : List Chk} {j : Nat} (hj : j < L.length) (hf : faultAt L j ≠ 0) (hc : ∀ i, i < j → faultAt L i = 0) : ∀ (n k t : Nat), k ≤ j → (relOf m L j false).length ≤ t + n → ∃ xs, Comes (nxtC m L) (badC m L) ⟨k, false, t⟩ xs (some (upV (faultAt L j))) := by
  intro n
  induction n with
  | zero =>
    intro k t hk hn
    have hF := fetch_is' (m := m) (t := t) (L := L) (k := k) (e := false) ⟨by omega, fun h => by cases h⟩
    rcases hF.give with ⟨a1, a2, a3, a4, a5, a6⟩ | ⟨a1, a2, a3, a4, a5, a6⟩
    · have hkj : (fetchP m L t k false).k ≤ j := by
        rcases Nat.lt_or_ge j (fetchP m L t k false).k with h | h
        · exact absurd (a4 j hk h) hf
        · exact h
      have he : (fetchP m L t k false).e = false := by
        cases h : (fetchP m L t k false).e with
        | false => rfl
        | true => have := a2.2 h; omega
      rw [he] at a6
      rcases a6 with h | ⟨h, _⟩
      · obtain ⟨r, hr⟩ := rel_more m L hkj
        have := (List.getElem?_eq_some_iff.1 (at_prefix hr h)).1
        omega
      · cases h
    · have hkj : (fetchP m L t k false).k = j + 1 := by
        rcases Nat.lt_or_ge ((fetchP m L t k false).k - 1) j with h | h
        · rw [hc _ h] at a6
          exact absurd a6 a1
        · rcases Nat.lt_or_ge (j + 1) (fetchP m L t k false).k with h2 | h2
          · exact absurd (hF.calm j hk h2) hf
          · omega
      refine ⟨[], .fail ?_⟩
      unfold badC
      rw [if_neg a1, a6, hkj]
      rfl
  | succ n ih =>
    intro k t hk hn
    have hF := fetch_is' (m := m) (t := t) (L := L) (k := k) (e := false) ⟨by omega, fun h => by cases h⟩
    rcases hF.give with ⟨a1, a2, a3, a4, a5, a6⟩ | ⟨a1, a2, a3, a4, a5, a6⟩
    · have hkj : (fetchP m L t k false).k ≤ j := by
        rcases Nat.lt_or_ge j (fetchP m L t k false).k with h | h
        · exact absurd (a4 j hk h) hf
        · exact h
      have he : (fetchP m L t k false).e = false := by
        cases h : (fetchP m L t k false).e with
        | false => rfl
        | true => have := a2.2 h; omega
      have a6' := a6
      rw [he] at a6
      rcases a6 with h | ⟨h, _⟩
      · have hv : Valid (fetchP m L t k false).c := by
          obtain ⟨r, hr⟩ := rel_prefix m L a2
          rw [he] at hr
          exact full_valid m L _ (List.mem_of_getElem? (at_prefix hr h))
        have hne : (fetchP m L t k false).c ≠ -1 := by unfold Valid at hv; omega
        obtain ⟨xs, hx⟩ := ih (fetchP m L t k false).k (t + 1) hkj (by omega)
        have e1 : nxtC m L ⟨k, false, t⟩ = ((fetchP m L t k false).c, ⟨(fetchP m L t k false).k, false, t + 1⟩) := by
          unfold nxtC
          dsimp only
          rw [if_neg hne, he]
        exact ⟨_, Comes.step (nxt := nxtC m L) (bad := badC m L) (s := ⟨k, false, t⟩) (xs := xs) (by unfold badC; rw [if_pos a1]) (by rw [e1]; exact hv) (by rw [e1]; exact hx)⟩
      · cases h
    · have hkj : (fetchP m L t k false).k = j + 1 := by
        rcases Nat.lt_or_ge ((fetchP m L t k false).k - 1) j with h | h
        · rw [hc _ h] at a6
          exact absurd a6 a1
        · rcases Nat.lt_or_ge (j + 1) (fetchP m L t k false).k with h2 | h2
          · exact absurd (hF.calm j hk h2) hf
          · omega
      refine ⟨[], .fail ?_⟩
      unfold badC
      rw [if_neg a1, a6, hkj]
      rfl

end Go.Proofs.YtmhaknejeobfgabGreatDoor

/- DigestC2. -/
namespace Go.Proofs.YtmhaknejeobfgabGreatDoor
open Go.RowKit Go.Proofs.YtmhaknejeobfgabGreatDoor.Stable Go.Proofs.YtmhaknejeobfgabGreatDoor.Order Go.Proofs.YtmhaknejeobfgabGreatDoor.Points
attribute [local go_sem ↓] Go.wp_at_zero Go.wp_at_succ

/-- A hash in memory. -/
def hashC (h : Int) : Obj := .cells #[.int .u64 h] 23 (0, 0)

/-- What the closure leaves: the hash, if the source does not give up. -/
def Dig1 (T : Nat → Prop) (w w' : World) (vh : Nat) (h : Int) : Prop := w'.heap[vh]? = some (hashC h) ∧ Fr (fun z => T z ∨ z = vh) w w'

/-- How it ends. -/
def DigEnds (T : Nat → Prop) (w w' : World) (vh : Nat) (xs : List Int) (e : Ending) : Option Value → Prop
  | none => e = .returned (.tuple #[]) ∧ Dig1 T w w' vh (hashL (utf8 xs))
  | some v => e = .panicked [{ v := v, recovered := false }] ∧ Dig1 T w w' vh 0

set_option maxRecDepth 100000 in
theorem dig1_calls {w : World} {hi br bc : Nat} {a : Option Addr} {cpl : Nat} {m : Int} {L : List Chk} {T : Nat → Prop} {vf vh : Nat} {xs : List Int} {r : Option Value} (hf : w.heap[vf]? = some (.cells #[.pointer (some ⟨br, 0, none⟩)] 69 (0, 0))) (hh : w.heap[vh]? = some (hashC 0)) (nT : ¬ T vf ∧ ¬ T vh) (H : RcM w hi br bc a cpl m L 0 false 0 T) (hc : Comes (nxtC m L) (badC m L) ⟨0, false, 0⟩ xs r) :
    Calls Tryz.prog 28 #[.pointer (some ⟨vf, 0, none⟩), .pointer (some ⟨vh, 0, none⟩)] w fun e w' => DigEnds T w w' vh xs e r := by
  have cF : w.cell? ⟨vf, 0, none⟩ = some (.pointer (some ⟨br, 0, none⟩)) := cell_of hf rfl
  have hH := hashOf_calls (chunk_fetcher hi br bc a cpl m L) hc H
  cases r with
  | none =>
    have HO : Hid (Calls Tryz.prog 29 #[.pointer (some ⟨br, 0, none⟩)] w fun e w1 => e = .returned (.int .u64 (hashL (utf8 xs))) ∧ w1.heap[vh]? = some (hashC 0) ∧ Fr T w w1) := by
      refine hH.mono ?_
      rintro e w1 ⟨h1, h2⟩
      exact ⟨h1, (h2.block vh (lt_of hh) nT.2).trans hh, h2⟩
    obtain ⟨y, hy⟩ : ∃ y, y = hashL (utf8 xs) := ⟨_, rfl⟩
    rw [← hy] at HO
    unfold DigEnds
    rw [← hy]
    clear hf hh nT H hc hH hy
    go_enter Tryz.func28, Tryz.ntmps28
    go_wp2_with (go_at_call 29; refine HO.out.mono ?_; rintro e w1 ⟨rfl, k1, k2⟩; have c1 : w1.cell? ⟨vh, 0, none⟩ = some (.int .u64 0) := cell_of k1 rfl; have z1 : w1.frozen? ⟨vh, 0, none⟩ = false := frozen_of k1 0; have HK : Hid (w1.heap[vh]? = some (hashC 0) ∧ Fr T w w1) := ⟨k1, k2⟩; clear k1 k2)
    go_end0
    refine ⟨rfl, ?_, (HK.out.2.mono (S' := fun z => T z ∨ z = vh) (fun _ _ h => .inl h)).setCell ⟨vh, 0, none⟩ _ (fun _ => .inr rfl)⟩
    have := set_of HK.out.1 0 (.int .u64 y)
    unfold hashC
    simpa using this
  | some v =>
    have HO : Hid (Calls Tryz.prog 29 #[.pointer (some ⟨br, 0, none⟩)] w fun e w1 => e = .panicked [{ v := v, recovered := false }] ∧ Dig1 T w w1 vh 0) := by
      refine hH.mono ?_
      rintro e w1 ⟨h1, h2⟩
      exact ⟨h1, (h2.block vh (lt_of hh) nT.2).trans hh, h2.mono (fun _ _ h => .inl h)⟩
    unfold DigEnds
    clear hf hh nT H hc hH
    go_enter Tryz.func28, Tryz.ntmps28
    go_wp2_with (go_at_call 29; refine HO.out.mono ?_; rintro e w1 ⟨rfl, k1⟩)
    exact ⟨rfl, rfl, k1⟩

/-- What Digest answers: the hash of all, and the error. -/
def digOf (m : Int) (L : List Chk) : Int := if faultOf L = 0 then hashL (keyL m (bytesOf L)) else 0

theorem tillD_calls {w : World} {hi br bc : Nat} {a : Option Addr} {cpl : Nat} {m : Int} {L : List Chk} {T : Nat → Prop} {vf vh : Nat} (h0 : 0 ≤ m) (h3 : m ≤ 3) (hf : w.heap[vf]? = some (.cells #[.pointer (some ⟨br, 0, none⟩)] 69 (0, 0))) (hh : w.heap[vh]? = some (hashC 0)) (nT : ¬ T vf ∧ ¬ T vh) (hT : ∀ z, T z → z < w.heap.size) (H : RcM w hi br bc a cpl m L 0 false 0 T) :
    Calls Tryz.prog 27 #[.func (.func 28) #[] #[.pointer (some ⟨vf, 0, none⟩), .pointer (some ⟨vh, 0, none⟩)]] w fun e w' => e = .returned (.int .i64 (faultOf L)) ∧ Dig1 T w w' vh (digOf m L) := by
  have f0 : Fr (fun _ => False) w (w.alloc (.cells #[.int .i64 0] 24)) := (Fr.refl _ _).alloc _
  have hn : (w.alloc (.cells #[.int .i64 0] 24)).heap[w.heap.size]? = some (.cells #[.int .i64 0] 24 (0, 0)) := heap_alloc_new w _
  have hvh := lt_of hh
  have hen : ∀ (args : Array Value) (w : World), (callFunc 28 args).run Tryz.prog w = .ok (.enter 28 args) w := fun args w => by kernel_rfl
  have blk : ∀ (w' : World) (h : Int), Dig1 T (w.alloc (.cells #[.int .i64 0] 24)) w' vh h → w'.heap[w.heap.size]? = some (.cells #[.int .i64 0] 24 (0, 0)) := fun w' h hd => (hd.2.block w.heap.size (lt_of hn) (fun e => by
    rcases e with e | e
    · have := hT _ e; omega
    · omega)).trans hn
  have fin : ∀ (w1 w' : World) (h : Int), Dig1 T (w.alloc (.cells #[.int .i64 0] 24)) w1 vh h → Fr (fun z => z = w.heap.size) w1 w' → Dig1 T w w' vh h := fun w1 w' h hd f => by
    refine ⟨(f.block vh (lt_of hd.1) (by omega)).trans hd.1, ?_⟩
    exact ((f0.mono (S' := fun z => T z ∨ z = vh) (fun _ _ h => h.elim)).trans hd.2 (fun _ _ h => h)).trans f (fun i hi h => by omega)
  have hcl : ∀ {xs r}, Comes (nxtC m L) (badC m L) ⟨0, false, 0⟩ xs r → Calls Tryz.prog 28 #[.pointer (some ⟨vf, 0, none⟩), .pointer (some ⟨vh, 0, none⟩)] (w.alloc (.cells #[.int .i64 0] 24)) fun e w' => DigEnds T (w.alloc (.cells #[.int .i64 0] 24)) w' vh xs e r := fun {xs r} hc => dig1_calls (w := w.alloc (.cells #[.int .i64 0] 24)) (T := T) (xs := xs) (r := r) ((f0.block vf (lt_of hf) id).trans hf) ((f0.block vh (lt_of hh) id).trans hh) nT (H.kept f0 (fun _ _ => id) (fun _ _ => id)) hc
  rcases fault_spec L with ⟨h1, h2⟩ | ⟨j, h1, h2, h4, h5⟩
  · have hc := comes_calm (m := m) h2 (fullOf m L) [] rfl 0 false ⟨Nat.zero_le _, fun h => by cases h⟩
    have hd : digOf m L = hashL (utf8 (fullOf m L)) := by
      unfold digOf keyL
      rw [if_pos h1, full_form h0 h3]
    rw [h1, hd]
    refine (till_ok (Q := fun w' => Dig1 T (w.alloc (.cells #[.int .i64 0] 24)) w' vh (hashL (utf8 (fullOf m L)))) hen ((hcl hc).mono ?_)).mono ?_
    · rintro e w' ⟨rfl, h⟩
      exact ⟨rfl, ⟨0, cell_of (blk w' _ h) rfl⟩, frozen_of (blk w' _ h) 0, h⟩
    · rintro e w' ⟨rfl, w1, h, rfl⟩
      exact ⟨rfl, fin w1 _ _ h ((Fr.refl (fun z => z = w.heap.size) _).setCell ⟨w.heap.size, 0, none⟩ _ (fun _ => rfl))⟩
  · obtain ⟨xs, hc⟩ := comes_fault (m := m) h1 h2 h5 (relOf m L j false).length 0 0 (Nat.zero_le _) (by omega)
    have hd : digOf m L = 0 := by
      unfold digOf
      rw [if_neg (by rw [h4]; exact h2)]
    rw [h4, hd]
    refine (till_no (er := faultAt L j) (Q := fun w' => Dig1 T (w.alloc (.cells #[.int .i64 0] 24)) w' vh 0) hen ((hcl hc).mono ?_)).mono ?_
    · rintro e w' ⟨rfl, h⟩
      exact ⟨rfl, ⟨0, cell_of (blk w' _ h) rfl⟩, frozen_of (blk w' _ h) 0, h⟩
    · rintro e w' ⟨rfl, w1, h, rfl⟩
      exact ⟨rfl, fin w1 _ _ h (((Fr.refl (fun z => z = w.heap.size) _).setCell ⟨w.heap.size, 0, none⟩ _ (fun _ => rfl)).alloc _)⟩

set_option maxRecDepth 100000 in
theorem digest_none (m : Int) (a1 : Option Addr) (n1 c1 : Nat) (w : World) (h : m < 0 ∨ 3 < m) :
    Calls Tryz.prog 9 #[.int .i64 m, .slice a1 n1 c1] w fun e w' => e = .returned (.tuple #[.int .u64 0, .int .i64 1]) ∧ w' = w := by
  have HM : Hid (m < 0 ∨ 3 < m) := h
  clear h
  go_enter Tryz.func9, Tryz.ntmps9
  go_wp2_with (go_at_call 24; refine (of_none m _ HM.out).mono ?_; rintro e w' ⟨rfl, hw⟩; have hw' := hw.symm; subst hw'; clear hw)
  go_ret2
  exact ⟨rfl, rfl⟩

set_option maxRecDepth 100000 in
set_option maxHeartbeats 1600000 in
theorem digest_calls (m : Int) (a1 : Option Addr) (c1 : Nat) (A : List Chk) (w : World) (h0 : 0 ≤ m) (h3 : m ≤ 3) (hE : Env w) (hA : ChunksIn w w.heap.size a1 A) (lA : A.length ≤ 1099511627776) (bA : 432 * (bytesOf A).length ≤ 1099511627776) :
    Calls Tryz.prog 9 #[.int .i64 m, .slice a1 A.length c1] w fun e w' => e = .returned (.tuple #[.int .u64 (digOf m A), .int .i64 (faultOf A)]) ∧ Fr (fun _ => False) w w' := by
  have hmf : ∀ (fn : Fn) (first cap : Array Value) (w : World), (Instr.makeFunc fn first cap).run Tryz.prog w = .ok (.func fn first cap) w := fun _ _ _ _ => rfl
  have HM : Hid (0 ≤ m ∧ m ≤ 3) := ⟨h0, h3⟩
  have HE : Hid (Env w) := hE
  have HA : Hid (ChunksIn w w.heap.size a1 A ∧ A.length ≤ 1099511627776 ∧ 432 * (bytesOf A).length ≤ 1099511627776) := ⟨hA, lA, bA⟩
  obtain ⟨n, hn⟩ : ∃ n, (kindL m).length = n := ⟨_, rfl⟩
  have HN : Hid ((kindL m).length = n) := hn
  obtain ⟨nA, hnA⟩ : ∃ nA, nA = A.length := ⟨_, rfl⟩
  rw [← hnA]
  have HNL : Hid (nA = A.length) := hnA
  clear h0 h3 hE hA lA bA hn hnA
  go_enter Tryz.func9, Tryz.ntmps9
  go_wp2_with fail
  refine (of_calls m w HM.out.1 HM.out.2 HE.out).mono ?_
  rintro e w1 ⟨b0, Bt, cs, rfl, p1, p2, p3, p4, p5, p6⟩
  rw [HN.out] at p3 p4 ⊢
  have HP : Hid (w.heap.size ≤ b0 ∧ w1.heap[b0]? = some (.cells cs 108 (0, 0)) ∧ cs.size = 8 * n ∧ Fresh cs Bt m n ∧ TabIn w1 b0 Bt ∧ Fr (fun _ => False) w w1) := ⟨p1, p2, p3, p4, p5, p6⟩
  clear p1 p2 p3 p4 p5 p6
  go_wp2_with fail
  refine (newChunks_calls w1 a1 nA c1).mono ?_
  rintro e w2 ⟨rfl, hw2⟩
  obtain ⟨ca, hca⟩ : ∃ ca, ca = w1.heap.size := ⟨_, rfl⟩
  rw [← hca]
  have HS2 : Hid (Src w2 b0 ca a1 c1 A 0 ∧ Fr (fun _ => False) w1 w2 ∧ w2.heap.size = w1.heap.size + 1 ∧ ca = w1.heap.size) := by
    have hb := HP.out.1
    have hb0 := lt_of HP.out.2.1
    rw [hw2, hca, HNL.out]
    exact ⟨src_new ((HA.out.1.kept HP.out.2.2.2.2.2 (fun _ _ => id)).mono (by omega)) HA.out.2.1 (by omega), (Fr.refl _ _).alloc _, by simp, rfl⟩
  clear hw2 hca
  go_wp2_with fail
  have f02 : Fr (fun _ => False) w w2 := HP.out.2.2.2.2.2.trans HS2.out.2.1 (fun _ _ h => h)
  refine (beginC_calls (B := Bt) (cs := cs) (m := m) HM.out.1 HM.out.2 HN.out (HE.out.kept f02 (fun _ _ => id)) (by have := HE.out.size; have := HP.out.1; omega) HS2.out.1 (HP.out.2.2.2.2.1.kept HS2.out.2.1 (fun _ _ => id)) HP.out.2.2.2.1 HA.out.2.2 ((HS2.out.2.1.block b0 (lt_of HP.out.2.1) id).trans HP.out.2.1) HP.out.2.2.1).mono ?_
  rintro e w3 ⟨br, rfl, q1, q2, q3⟩
  have HQ : Hid (RcM w3 b0 br ca a1 c1 m A 0 false 0 (fun x => x = ca ∨ w2.heap.size ≤ x) ∧ Fr (fun _ => False) w2 w3 ∧ Fr (fun _ => False) w w2) := ⟨q1, q2, f02⟩
  clear q1 q2 q3 f02
  go_wp2_with fail
  change Calls _ _ _ ((w3.alloc (.cells #[.pointer (some ⟨br, 0, none⟩)] 69)).alloc (hashC 0)) _
  have HR : Hid (∃ T : Nat → Prop, (∀ z, T z → z < w3.heap.size ∧ b0 ≤ z) ∧ (((w3.alloc (.cells #[.pointer (some ⟨br, 0, none⟩)] 69)).alloc (hashC 0))).heap[w3.heap.size]? = some (.cells #[.pointer (some ⟨br, 0, none⟩)] 69 (0, 0)) ∧ (((w3.alloc (.cells #[.pointer (some ⟨br, 0, none⟩)] 69)).alloc (hashC 0))).heap[w3.heap.size + 1]? = some (hashC 0) ∧ RcM ((w3.alloc (.cells #[.pointer (some ⟨br, 0, none⟩)] 69)).alloc (hashC 0)) b0 br ca a1 c1 m A 0 false 0 T ∧ Fr (fun _ => False) w ((w3.alloc (.cells #[.pointer (some ⟨br, 0, none⟩)] 69)).alloc (hashC 0)) ∧ (((w3.alloc (.cells #[.pointer (some ⟨br, 0, none⟩)] 69)).alloc (hashC 0))).heap.size = w3.heap.size + 2) := by
    obtain ⟨w4, hw4⟩ : ∃ w4, w4 = w3.alloc (.cells #[.pointer (some ⟨br, 0, none⟩)] 69) := ⟨_, rfl⟩
    rw [← hw4]
    have s4 : w4.heap.size = w3.heap.size + 1 := by rw [hw4]; simp
    have r4 : w4.heap[w3.heap.size]? = some (.cells #[.pointer (some ⟨br, 0, none⟩)] 69 (0, 0)) := by rw [hw4]; exact heap_alloc_new w3 _
    have f34 : Fr (fun _ => False) w3 w4 := by rw [hw4]; exact (Fr.refl _ _).alloc _
    have f45 : Fr (fun _ => False) w4 (w4.alloc (hashC 0)) := (Fr.refl _ _).alloc _
    have f35 := f34.trans f45 (fun _ _ h => h)
    have h2 := HS2.out.2.2
    have hb0 := lt_of HP.out.2.1
    refine ⟨_, fun z hz => ⟨hz.2, ?_⟩, (f45.block _ (by omega) id).trans r4, by rw [← s4]; exact heap_alloc_new w4 _, HQ.out.1.tight.kept f35 (fun _ _ => id) (fun _ _ => id), (HQ.out.2.2.trans HQ.out.2.1 (fun _ _ h => h)).trans f35 (fun _ _ h => h), by simp [s4]⟩
    rcases hz.1 with h | h <;> omega
  obtain ⟨T, x1, x2, x3, x4, x5, x6⟩ := HR.out
  refine (tillD_calls HM.out.1 HM.out.2 x2 x3 ⟨fun h => by have := (x1 _ h).1; omega, fun h => by have := (x1 _ h).1; omega⟩ (fun z hz => by have := (x1 z hz).1; omega) x4).mono ?_
  rintro e w9 ⟨rfl, g1, g2⟩
  have hz0 : w.heap.size ≤ b0 := HP.out.1
  have hz1 : w.heap.size ≤ w3.heap.size := (HQ.out.2.2.trans HQ.out.2.1 (fun _ _ h => h)).size
  have HF : Hid (Fr (fun _ => False) w w9) := x5.trans g2 (fun i hi h => by
    rcases h with h | h
    · have := (x1 _ h).2; omega
    · omega)
  have cH : w9.cell? ⟨w3.heap.size + 1, 0, none⟩ = some (.int .u64 (digOf m A)) := cell_of g1 rfl
  clear g1 g2 x1 x2 x3 x4 x5 x6 HR hz0 hz1 HQ HS2 HP HA HE HM HN
  go_wp2
  go_ret2
  exact ⟨rfl, HF.out⟩

end Go.Proofs.YtmhaknejeobfgabGreatDoor

/- ChRow. -/
namespace Go.Proofs.YtmhaknejeobfgabGreatDoor
open Go.RowKit Go.Proofs.YtmhaknejeobfgabGreatDoor.Stable Go.Proofs.YtmhaknejeobfgabGreatDoor.Order Go.Proofs.YtmhaknejeobfgabGreatDoor.Points
attribute [local go_sem ↓] Go.wp_at_zero Go.wp_at_succ

theorem Tryz.info_chunk : (Tryz.prog.info? 49).map (fun i => (i.zero, i.size, i.bytes)) = some (some (.agg #[.int .i64 0, .string ⟨#[]⟩]), 2, 24) := by kernel_rfl

/-- Chunks as cells. -/
def chCells (L : List Chk) : List Value := L.flatMap fun c => [.int .i64 c.1, .string ⟨c.2.toArray⟩]

theorem chCells_append (L M : List Chk) : chCells (L ++ M) = chCells L ++ chCells M := by simp [chCells]

theorem chCells_length (L : List Chk) : (chCells L).length = L.length * 2 := by
  induction L with
  | nil => rfl
  | cons c r ih =>
    have : chCells (c :: r) = [.int .i64 c.1, .string ⟨c.2.toArray⟩] ++ chCells r := rfl
    rw [this, List.length_append, ih, List.length_cons]
    simp
    omega

theorem chCells_one (L : List Chk) : ∀ u ∈ chCells L, u.oneCell' = true := by
  intro u hu
  obtain ⟨c, _, hc⟩ := List.mem_flatMap.1 hu
  simp at hc
  rcases hc with rfl | rfl <;> rfl

theorem chCells_at : ∀ (L : List Chk) (j : Nat) (c : Chk), L[j]? = some c → (chCells L)[j * 2]? = some (.int .i64 c.1) ∧ (chCells L)[j * 2 + 1]? = some (.string ⟨c.2.toArray⟩)
  | [], j, c, h => by cases h
  | d :: r, 0, c, h => by
    cases h
    exact ⟨rfl, rfl⟩
  | d :: r, j + 1, c, h => by
    have e : chCells (d :: r) = .int .i64 d.1 :: .string ⟨d.2.toArray⟩ :: chCells r := rfl
    have := chCells_at r j c h
    rw [e, show (j + 1) * 2 = j * 2 + 1 + 1 by omega]
    exact this

/-- A list of chunks in memory that is not older than base. -/
def ChRow (w : World) (base : Nat) (a : Option Addr) (cp : Nat) (L : List Chk) : Prop := w.ownsRow base 49 2 (.slice a L.length cp) L.length (chCells L)

theorem ChRow.none (w : World) (base : Nat) : ChRow w base Option.none 0 [] := ⟨rfl, .inl ⟨rfl, rfl⟩⟩

theorem ChRow.kept {w w' : World} {base : Nat} {a : Option Addr} {cp : Nat} {L : List Chk} (h : ChRow w base a cp L) (f : Fr (fun _ => False) w w') : ChRow w' base a cp L := row_kept h f (fun _ _ => id)

theorem ChRow.chunks {w : World} {base : Nat} {a : Option Addr} {cp : Nat} {L : List Chk} (h : ChRow w base a cp L) (hk : ∀ c ∈ L, -9223372036854775808 ≤ c.1 ∧ c.1 ≤ 9223372036854775807) : ChunksIn w w.heap.size a L := fun j c hj => by
  have hlt : j < L.length := (List.getElem?_eq_some_iff.1 hj).1
  rcases h.2 with ⟨_, hn⟩ | ⟨g, cap, cur, hs, hb, hgg, h1, h2, h3, h4⟩
  · omega
  · cases hs
    have hl := chCells_at L j c hj
    have cell : ∀ i v, i < L.length * 2 → (chCells L)[i]? = some v → w.cell? ⟨g, 0 + i, Option.none⟩ = some v := fun i v hi hv => by
      rw [Nat.zero_add]
      refine cell_of hgg ?_
      have e2 : (cur.toList.take (L.length * 2))[i]? = (chCells L)[i]? := by rw [h4]
      rw [List.getElem?_take, if_pos hi] at e2
      rw [← Array.getElem?_toList, e2, hv]
    exact ⟨g, 0, rfl, lt_of hgg, lt_of hgg, cell _ _ (by omega) hl.1, by have := cell (j * 2 + 1) _ (by omega) hl.2; rwa [← Nat.add_assoc] at this, hk c (List.mem_of_getElem? hj)⟩

theorem ChRow.more {w' : World} {base : Nat} {L : List Chk} {c : Chk} {v' : Value} (h : w'.ownsRow base 49 2 v' (L.length + 1) (chCells L ++ [.int .i64 c.1, .string ⟨c.2.toArray⟩])) : ∃ a' c', v' = .slice a' (L ++ [c]).length c' ∧ ChRow w' base a' c' (L ++ [c]) := by
  obtain ⟨a', c', rfl⟩ := row_form h
  have e : (L ++ [c]).length = L.length + 1 := by simp
  refine ⟨a', c', by rw [e], ?_⟩
  unfold ChRow
  rw [e, chCells_append]
  exact h

theorem ChRow.lt {w : World} {base : Nat} {a : Option Addr} {cp : Nat} {L : List Chk} (h : ChRow w base a cp L) {x : Addr} (hx : a = some x) : base ≤ x.block ∧ x.block < w.heap.size := row_lt h (by rw [own_slice, hx]; rfl)

theorem chGrown {w w1 w' : World} {a : Option Addr} {n cp base : Nat} {L : List Chk} (f : Fr (fun _ => False) w w1) (hr : ChRow w1 base a cp L) (hb : w.heap.size ≤ base) (h : w1.grownBy w' (Value.slice a n cp).ownBlock) : Fr (fun _ => False) w w' :=
  f.trans (grown_fr h) (fun i hi e => by
    cases a with
    | none => cases e
    | some x =>
      have e' : i = x.block := by simpa using e
      have := (hr.lt rfl).1
      omega)

theorem cells_two_new (w : World) (u v : Value) (t : TypeId) : ∀ j x, [u, v][j]? = some x → (w.alloc (.cells #[u, v] t)).cell? ((⟨w.heap.size, 0, none⟩ : Addr).add j) = some x := fun j x hj => by
  have hb : (w.alloc (.cells #[u, v] t)).heap[w.heap.size]? = some (.cells #[u, v] t (0, 0)) := heap_alloc_new w _
  have ea : (⟨w.heap.size, 0, none⟩ : Addr).add j = ⟨w.heap.size, j, none⟩ := by unfold Addr.add; split <;> simp_all
  rw [ea]
  exact cell_of hb (by simpa using hj)

/-- Chunks that never give up: a few, all of the kind Some. -/
def Calm (L : List Chk) : Prop := L.length ≤ 41 ∧ ∀ c ∈ L, c.1 = 0

theorem Calm.faults {L : List Chk} (h : Calm L) : ∀ j, j < L.length → faultAt L j = 0 := fun j hj => by
  obtain ⟨c, hc⟩ : ∃ c, L[j]? = some c := ⟨_, List.getElem?_eq_getElem hj⟩
  rw [faultAt_some hc]
  unfold faultBy
  rw [if_pos (h.2 c (List.mem_of_getElem? hc)), if_neg]
  have := idle_le (L.take j ++ [c])
  rw [List.length_append, List.length_take, List.length_singleton] at this
  have := h.1
  omega

/-- Where chunked stands. -/
structure ChAt (w wr : World) (s sb : ByteArray) (L : List Chk) (a : Option Addr) (cp : Nat) : Prop where
  row : ChRow wr w.heap.size a cp L
  fr : Fr (fun _ => False) w wr
  all : bytesOf L ++ sb.data.toList = s.data.toList
  kind : ∀ c ∈ L, c.1 = 0

set_option maxRecDepth 100000 in
set_option maxHeartbeats 1600000 in
theorem chunked_calls (s : ByteArray) (a1 : Option Addr) (n1 p1 : Nat) (w : World) (hs : s.data.toList.length ≤ 8388608) (hn : NumsIn w a1 n1) (_ : n1 ≤ 1048576) :
    Calls Tryz.prog 14 #[.string s, .slice a1 n1 p1] w fun e w' => ∃ a cp L, e = .returned (.slice a L.length cp) ∧ ChunksIn w' w'.heap.size a L ∧ bytesOf L = s.data.toList ∧ Calm L ∧ Fr (fun _ => False) w w' := by
  obtain ⟨i0, hi0, hz0, hz1, hz2⟩ := info_parts Tryz.info_chunk
  have HI : Hid (Tryz.prog.info? 49 = some i0 ∧ i0.zero = some (.agg #[.int .i64 0, .string ⟨#[]⟩]) ∧ i0.size = 2 ∧ i0.bytes = 24) := ⟨hi0, hz0, hz1, hz2⟩
  have HN : Hid (NumsIn w a1 n1) := hn
  have HS : Hid (s.data.toList.length ≤ 8388608) := hs
  clear hi0 hz0 hz1 hz2 hn hs
  go_enter Tryz.func14, Tryz.ntmps14
  go_wp2
  go_loopw [0, 5, 6] (fun vs vl vi wr => ∃ (sb : ByteArray) (L : List Chk) (a : Option Addr) (cp k : Nat), vs = .string sb ∧ vl = .slice a L.length cp ∧ vi = .int .i64 k ∧ k ≤ 40 ∧ k ≤ n1 ∧ L.length = k ∧ Hid (ChAt w wr s sb L a cp)) (fun _ _ vi _ => 41 - (intOf vi).toNat)
  case atStart => exact ⟨s, [], none, 0, 0, rfl, rfl, rfl, Nat.zero_le _, Nat.zero_le _, rfl, ⟨ChRow.none _ _, Fr.refl _ _, rfl, fun c hc => by cases hc⟩⟩
  case round =>
    obtain ⟨sb, L, a, cp, k, rfl, rfl, rfl, hk, hkn, hlk0, hh⟩ := hrel
    have hlk : Hid (L.length = k) := hlk0
    clear hlk0
    have hsb : sb.data.toList.length ≤ 8388608 := by
      have h1 := congrArg List.length hh.out.all
      rw [List.length_append] at h1
      have := HS.out
      omega
    have hsz : sb.size = sb.data.toList.length := Lib.size_eq sb
    by_cases hgo : k < n1 ∧ k < 40
    · obtain ⟨b, off, z, rfl, cz, z0, z1, hbl⟩ := HN.out k hgo.1
      have cz' : wr.cell? ⟨b, off + k, none⟩ = some (.int .i64 z) := hh.out.fr.cell id hbl cz
      have q0 : (0 : Int) ≤ (k : Int) := by omega
      have q1 : (k : Int) < (n1 : Int) := by omega
      have q2 : (k : Int) < 40 := by omega
      have HPK : Hid (Calls Tryz.prog 12 #[.int .i64 z, .int .i64 ((sb.size : Int) + 1)] wr fun e w' => ∃ r : Nat, e = .returned (.int .i64 r) ∧ r < sb.size + 1 ∧ w' = wr) := by
        have := pick_calls z (sb.size + 1) wr z0 z1 (by omega) (by omega)
        rwa [show ((sb.size + 1 : Nat) : Int) = (sb.size : Int) + 1 by omega] at this
      have hb3 : (sb.size : Int) ≤ 8388608 := by omega
      have HSZ : Hid (sb.size = sb.data.toList.length ∧ sb.data.toList.length ≤ 8388608) := ⟨hsz, hsb⟩
      clear cz hbl z0 z1 hsz hsb
      go_wp2_with fail
      refine HPK.out.mono ?_
      rintro e w1 ⟨r, rfl, hr, hw⟩
      have hw' := hw.symm
      subst hw'
      clear hw
      obtain ⟨n2, hn2⟩ : ∃ n2, n2 = if 3 < r ∧ k % 2 = 0 then r % 3 else r := ⟨_, rfl⟩
      have hle : n2 ≤ sb.size := by
        rw [hn2]
        split
        · have := Nat.mod_le r 3; omega
        · omega
      have HTL : Hid (∀ (v1 : Value) (w1 : World), w1.ownsRow w.heap.size 49 2 v1 (L.length + 1) (chCells L ++ [.int .i64 0, .string (sb.extract 0 n2)]) → (wr.alloc (.cells #[.int .i64 0, .string (sb.extract 0 n2)] 49)).grownBy w1 (Value.slice a L.length cp).ownBlock → ∃ a' c', v1 = .slice a' (L ++ [((0 : Int), (sb.extract 0 n2).data.toList)]).length c' ∧ ChAt w w1 s (sb.extract n2 sb.size) (L ++ [((0 : Int), (sb.extract 0 n2).data.toList)]) a' c') := Hid.mk0 (fun v1 w1 k1 g1 => by
        obtain ⟨a', c', h1, h2⟩ := ChRow.more (L := L) (c := ((0 : Int), (sb.extract 0 n2).data.toList)) k1
        refine ⟨a', c', h1, h2, chGrown (hh.out.fr.alloc _) (hh.out.row.kept ((Fr.refl _ _).alloc _)) (Nat.le_refl _) g1, ?_, fun c hc => ?_⟩
        · rw [bytes_snoc, List.append_assoc, ← hh.out.all]
          congr 1
          rw [Lib.extract_data, Lib.extract_data, List.drop_zero, List.take_of_length_le (l := List.drop n2 sb.data.toList) (by rw [List.length_drop]; have := HSZ.out; omega)]
          simp
        · rcases List.mem_append.1 hc with hc | hc
          · exact hh.out.kind c hc
          · rw [List.mem_singleton.1 hc])
      have j0 : (0 : Int) ≤ (n2 : Int) := by omega
      have j1 : (n2 : Int) ≤ (sb.size : Int) := by omega
      clear HPK
      by_cases hc1 : 3 < r
      · have t1 : (3 : Int) < (r : Int) := by omega
        by_cases hc2 : k % 2 = 0
        · rw [if_pos ⟨hc1, hc2⟩] at hn2
          have t2 : ((k : Int).tmod 2 == 0) = true := by rw [beq_iff_eq, Int.tmod_eq_emod_of_nonneg (by omega)]; omega
          have t3 : (r : Int).tmod 3 = (n2 : Int) := by rw [Int.tmod_eq_emod_of_nonneg (by omega), hn2]; omega
          clear hn2
          go_wp2_with (at_builtin; refine wpList_append_own_at _ rfl _ _ 22 rfl w.heap.size 49 i0 (.agg #[.int .i64 0, .string ⟨#[]⟩]) 2 24 Tryz.underlying22 HI.out.1 HI.out.2.1 HI.out.2.2.1 HI.out.2.2.2 rfl (by decide) (.slice a L.length cp) L.length (chCells L) rfl ?own ⟨wr.heap.size, 0, none⟩ 1 1 [.int .i64 0, .string (sb.extract 0 n2)] rfl rfl (cells_two_new _ _ _ _) (by intro u hu; simp at hu; rcases hu with rfl | rfl <;> rfl) ?len ?bytes ?base ?grow)
          case own => exact hh.out.row.kept ((Fr.refl (fun _ => False) wr).alloc _)
          case len => have := hlk.out; unfold maxLen; omega
          case bytes => have := hlk.out; omega
          case base => have h1 := hh.out.fr.size; simp; omega
          case grow =>
            intro v1 w1 k1 g1 _ _
            have HM : Hid (∃ a' c', v1 = .slice a' (L ++ [((0 : Int), (sb.extract 0 n2).data.toList)]).length c' ∧ ChAt w w1 s (sb.extract n2 sb.size) (L ++ [((0 : Int), (sb.extract 0 n2).data.toList)]) a' c') := HTL.out v1 w1 k1 g1
            clear k1 g1
            obtain ⟨a', c', rfl, hm⟩ := HM.out
            have HM2 : Hid (ChAt w w1 s (sb.extract n2 sb.size) (L ++ [((0 : Int), (sb.extract 0 n2).data.toList)]) a' c') := hm
            clear hm HM
            go_wp2
            exact ⟨⟨sb.extract n2 sb.size, _, a', c', k + 1, rfl, rfl, by go_num, by omega, by omega, by have := hlk.out; simp; omega, HM2.out⟩, by simp [intOf]; omega⟩
        · rw [if_neg (fun h => hc2 h.2)] at hn2
          have t2 : ((k : Int).tmod 2 == 0) = false := by rw [beq_eq_false_iff_ne, Int.tmod_eq_emod_of_nonneg (by omega)]; omega
          subst hn2
          go_wp2_with (at_builtin; refine wpList_append_own_at _ rfl _ _ 22 rfl w.heap.size 49 i0 (.agg #[.int .i64 0, .string ⟨#[]⟩]) 2 24 Tryz.underlying22 HI.out.1 HI.out.2.1 HI.out.2.2.1 HI.out.2.2.2 rfl (by decide) (.slice a L.length cp) L.length (chCells L) rfl ?own ⟨wr.heap.size, 0, none⟩ 1 1 [.int .i64 0, .string (sb.extract 0 n2)] rfl rfl (cells_two_new _ _ _ _) (by intro u hu; simp at hu; rcases hu with rfl | rfl <;> rfl) ?len ?bytes ?base ?grow)
          case own => exact hh.out.row.kept ((Fr.refl (fun _ => False) wr).alloc _)
          case len => have := hlk.out; unfold maxLen; omega
          case bytes => have := hlk.out; omega
          case base => have h1 := hh.out.fr.size; simp; omega
          case grow =>
            intro v1 w1 k1 g1 _ _
            have HM : Hid (∃ a' c', v1 = .slice a' (L ++ [((0 : Int), (sb.extract 0 n2).data.toList)]).length c' ∧ ChAt w w1 s (sb.extract n2 sb.size) (L ++ [((0 : Int), (sb.extract 0 n2).data.toList)]) a' c') := HTL.out v1 w1 k1 g1
            clear k1 g1
            obtain ⟨a', c', rfl, hm⟩ := HM.out
            have HM2 : Hid (ChAt w w1 s (sb.extract n2 sb.size) (L ++ [((0 : Int), (sb.extract 0 n2).data.toList)]) a' c') := hm
            clear hm HM
            go_wp2
            exact ⟨⟨sb.extract n2 sb.size, _, a', c', k + 1, rfl, rfl, by go_num, by omega, by omega, by have := hlk.out; simp; omega, HM2.out⟩, by simp [intOf]; omega⟩
      · have t1 : ¬ (3 : Int) < (r : Int) := by omega
        rw [if_neg (fun h => hc1 h.1)] at hn2
        subst hn2
        go_wp2_with (at_builtin; refine wpList_append_own_at _ rfl _ _ 22 rfl w.heap.size 49 i0 (.agg #[.int .i64 0, .string ⟨#[]⟩]) 2 24 Tryz.underlying22 HI.out.1 HI.out.2.1 HI.out.2.2.1 HI.out.2.2.2 rfl (by decide) (.slice a L.length cp) L.length (chCells L) rfl ?own ⟨wr.heap.size, 0, none⟩ 1 1 [.int .i64 0, .string (sb.extract 0 n2)] rfl rfl (cells_two_new _ _ _ _) (by intro u hu; simp at hu; rcases hu with rfl | rfl <;> rfl) ?len ?bytes ?base ?grow)
        case own => exact hh.out.row.kept ((Fr.refl (fun _ => False) wr).alloc _)
        case len => have := hlk.out; unfold maxLen; omega
        case bytes => have := hlk.out; omega
        case base => have h1 := hh.out.fr.size; simp; omega
        case grow =>
          intro v1 w1 k1 g1 _ _
          have HM : Hid (∃ a' c', v1 = .slice a' (L ++ [((0 : Int), (sb.extract 0 n2).data.toList)]).length c' ∧ ChAt w w1 s (sb.extract n2 sb.size) (L ++ [((0 : Int), (sb.extract 0 n2).data.toList)]) a' c') := HTL.out v1 w1 k1 g1
          clear k1 g1
          obtain ⟨a', c', rfl, hm⟩ := HM.out
          have HM2 : Hid (ChAt w w1 s (sb.extract n2 sb.size) (L ++ [((0 : Int), (sb.extract 0 n2).data.toList)]) a' c') := hm
          clear hm HM
          go_wp2
          exact ⟨⟨sb.extract n2 sb.size, _, a', c', k + 1, rfl, rfl, by go_num, by omega, by omega, by have := hlk.out; simp; omega, HM2.out⟩, by simp [intOf]; omega⟩
    · have HSZ : Hid (sb.size = sb.data.toList.length ∧ sb.data.toList.length ≤ 8388608) := ⟨hsz, hsb⟩
      have hstop : ¬ (k : Int) < (n1 : Int) ∨ ((k : Int) < (n1 : Int) ∧ ¬ (k : Int) < 40) := by omega
      have HTL : Hid (∀ (v1 : Value) (w1 : World), w1.ownsRow w.heap.size 49 2 v1 (L.length + 1) (chCells L ++ [.int .i64 0, .string sb]) → (wr.alloc (.cells #[.int .i64 0, .string sb] 49)).grownBy w1 (Value.slice a L.length cp).ownBlock → ∃ a' c' L', v1 = .slice a' L'.length c' ∧ ChunksIn w1 w1.heap.size a' L' ∧ bytesOf L' = s.data.toList ∧ Calm L' ∧ Fr (fun _ => False) w w1) := Hid.mk0 (fun v1 w1 k1 g1 => by
        obtain ⟨a', c', h1, h2⟩ := ChRow.more (L := L) (c := ((0 : Int), sb.data.toList)) k1
        have hkind : ∀ c ∈ L ++ [((0 : Int), sb.data.toList)], c.1 = 0 := fun c hc => by
          rcases List.mem_append.1 hc with hc | hc
          · exact hh.out.kind c hc
          · rw [List.mem_singleton.1 hc]
        refine ⟨a', c', _, h1, h2.chunks (fun c hc => by rw [hkind c hc]; omega), by rw [bytes_snoc, hh.out.all], ⟨?_, hkind⟩, chGrown (hh.out.fr.alloc _) (hh.out.row.kept ((Fr.refl _ _).alloc _)) (Nat.le_refl _) g1⟩
        have := hlk.out
        simp
        omega)
      clear hsz hsb hgo
      rcases hstop with t1 | ⟨t1, t2⟩
      · go_wp2_with (at_builtin; refine wpList_append_own_at _ rfl _ _ 22 rfl w.heap.size 49 i0 (.agg #[.int .i64 0, .string ⟨#[]⟩]) 2 24 Tryz.underlying22 HI.out.1 HI.out.2.1 HI.out.2.2.1 HI.out.2.2.2 rfl (by decide) (.slice a L.length cp) L.length (chCells L) rfl ?own ⟨wr.heap.size, 0, none⟩ 1 1 [.int .i64 0, .string sb] rfl rfl (cells_two_new _ _ _ _) (by intro u hu; simp at hu; rcases hu with rfl | rfl <;> rfl) ?len ?bytes ?base ?grow)
        case own => exact hh.out.row.kept ((Fr.refl (fun _ => False) wr).alloc _)
        case len => have := hlk.out; unfold maxLen; omega
        case bytes => have := hlk.out; omega
        case base => have h1 := hh.out.fr.size; simp; omega
        case grow =>
          intro v1 w1 k1 g1 _ _
          have HM : Hid (∃ a' c' L', v1 = .slice a' L'.length c' ∧ ChunksIn w1 w1.heap.size a' L' ∧ bytesOf L' = s.data.toList ∧ Calm L' ∧ Fr (fun _ => False) w w1) := HTL.out v1 w1 k1 g1
          clear k1 g1
          obtain ⟨a', c', L', rfl, hm⟩ := HM.out
          have HM2 : Hid (ChunksIn w1 w1.heap.size a' L' ∧ bytesOf L' = s.data.toList ∧ Calm L' ∧ Fr (fun _ => False) w w1) := hm
          clear hm HM
          go_wp2
          go_ret
          exact ⟨a', c', L', rfl, HM2.out⟩
      · go_wp2_with (at_builtin; refine wpList_append_own_at _ rfl _ _ 22 rfl w.heap.size 49 i0 (.agg #[.int .i64 0, .string ⟨#[]⟩]) 2 24 Tryz.underlying22 HI.out.1 HI.out.2.1 HI.out.2.2.1 HI.out.2.2.2 rfl (by decide) (.slice a L.length cp) L.length (chCells L) rfl ?own ⟨wr.heap.size, 0, none⟩ 1 1 [.int .i64 0, .string sb] rfl rfl (cells_two_new _ _ _ _) (by intro u hu; simp at hu; rcases hu with rfl | rfl <;> rfl) ?len ?bytes ?base ?grow)
        case own => exact hh.out.row.kept ((Fr.refl (fun _ => False) wr).alloc _)
        case len => have := hlk.out; unfold maxLen; omega
        case bytes => have := hlk.out; omega
        case base => have h1 := hh.out.fr.size; simp; omega
        case grow =>
          intro v1 w1 k1 g1 _ _
          have HM : Hid (∃ a' c' L', v1 = .slice a' L'.length c' ∧ ChunksIn w1 w1.heap.size a' L' ∧ bytesOf L' = s.data.toList ∧ Calm L' ∧ Fr (fun _ => False) w w1) := HTL.out v1 w1 k1 g1
          clear k1 g1
          obtain ⟨a', c', L', rfl, hm⟩ := HM.out
          have HM2 : Hid (ChunksIn w1 w1.heap.size a' L' ∧ bytesOf L' = s.data.toList ∧ Calm L' ∧ Fr (fun _ => False) w w1) := hm
          clear hm HM
          go_wp2
          go_ret
          exact ⟨a', c', L', rfl, HM2.out⟩

end Go.Proofs.YtmhaknejeobfgabGreatDoor
