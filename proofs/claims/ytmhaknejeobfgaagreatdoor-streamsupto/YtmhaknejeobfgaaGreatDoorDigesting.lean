/- Digest: the hash of a source, or why it gives up. Digest: the hash of a source, or why it gives up. Lists of chunks in new memory; the laws' own chunked: a text as chunks. -/
import Derived.Test.YtmhaknejeobfgaaGreatDoorChPlain
import Derived.Test.YtmhaknejeobfgaaGreatDoorKeys
import Derived.Test.YtmhaknejeobfgaaGreatDoorStreaming
import Derived.Test.YtmhaknejeobfgaaGreatDoorQueues
import Derived.Test.YtmhaknejeobfgaaGreatDoorChReads
import Derived.Maps.AppendAt
import Derived.Laws.Slices

/- DigestC. -/
namespace Go.Proofs.YtmhaknejeobfgaaGreatDoor
open Go.RowKit Go.Proofs.YtmhaknejeobfgaaGreatDoor.Stable Go.Proofs.YtmhaknejeobfgaaGreatDoor.Order Go.Proofs.YtmhaknejeobfgaaGreatDoor.Points
attribute [local go_sem ↓] Go.wp_at_zero Go.wp_at_succ

/-- Where a source stands: reads, has it ended, fetched. -/
structure Cs where
  k : Nat
  e : Bool
  t : Nat

def nxtC (m : Int) (L : List Chk) (s : Cs) : Int × Cs := ((fetchP m L s.t s.k s.e).c, ⟨(fetchP m L s.t s.k s.e).k, (fetchP m L s.t s.k s.e).e, if (fetchP m L s.t s.k s.e).c = -1 then s.t else s.t + 1⟩)

def badC (m : Int) (L : List Chk) (s : Cs) : Option Value := if (fetchP m L s.t s.k s.e).err = 0 then none else some (upV (fetchP m L s.t s.k s.e).err)

theorem chunk_fetcher (hi br bc : Nat) (a : Option Addr) (cpl : Nat) (m : Int) (L : List Chk) : Fetcher br (fun (s : Cs) w T => RcM w hi br bc a cpl m L s.k s.e s.t T) (nxtC m L) (badC m L) where
  ok := fun s w T h hb => by
    refine (fetchC_calls h).mono ?_
    rintro e w' ⟨h1 | h1, h2⟩
    · exact ⟨h1.2.1, h1.2.2, h2⟩
    · unfold badC at hb
      rw [if_neg h1.1] at hb
      cases hb
  no := fun s w T v h hb => by
    refine (fetchC_calls h).mono ?_
    rintro e w' ⟨h1 | h1, h2⟩
    · unfold badC at hb
      rw [if_pos h1.1] at hb
      cases hb
    · unfold badC at hb
      rw [if_neg h1.1] at hb
      cases hb
      exact ⟨h1.2.1, h2⟩
  kept := fun s w w' T h f => h.kept f (fun _ _ => id) (fun _ _ => id)

theorem comes_calm {m : Int} {L : List Chk} (hc : ∀ j, j < L.length → faultAt L j = 0) : ∀ (r tk : List Int), fullOf m L = tk ++ r → ∀ (k : Nat) (e : Bool), OkAt L k e → Comes (nxtC m L) (badC m L) ⟨k, e, tk.length⟩ r none
  | [], tk, h, k, e, ho => by
    obtain ⟨h1, h2, h3⟩ := fetch_calm (m := m) (t := tk.length) ho hc
    have hn : (fullOf m L)[tk.length]? = none := by rw [h, List.append_nil]; simp
    rcases h3 with h3 | ⟨_, h3, _⟩
    · rw [hn] at h3; cases h3
    · refine .stop ?_ h3
      unfold badC
      rw [if_pos h1]
  | c :: r, tk, h, k, e, ho => by
    obtain ⟨h1, h2, h3⟩ := fetch_calm (m := m) (t := tk.length) ho hc
    have hn : (fullOf m L)[tk.length]? = some c := by rw [h]; simp
    rcases h3 with h3 | ⟨h3, _, _⟩
    · rw [hn] at h3
      have hce : (fetchP m L tk.length k e).c = c := by cases h3; rfl
      have hv : Valid c := full_valid m L c (by rw [h]; simp)
      have hne : c ≠ -1 := by unfold Valid at hv; omega
      have hs := comes_calm hc r (tk ++ [c]) (by rw [h]; simp) _ _ h2
      have e1 : nxtC m L ⟨k, e, tk.length⟩ = (c, ⟨(fetchP m L tk.length k e).k, (fetchP m L tk.length k e).e, (tk ++ [c]).length⟩) := by
        unfold nxtC
        dsimp only
        rw [hce, if_neg hne, List.length_append, List.length_singleton]
      have := Comes.step (nxt := nxtC m L) (bad := badC m L) (s := ⟨k, e, tk.length⟩) (xs := r) (r := none) (by unfold badC; rw [if_pos h1]) (by rw [e1]; exact hv) (by rw [e1]; exact hs)
      rw [e1] at this
      exact this
    · rw [hn] at h3; cases h3

theorem comes_fault {m : Int} {L : List Chk} {j : Nat} (hj : j < L.length) (hf : faultAt L j ≠ 0) (hc : ∀ i, i < j → faultAt L i = 0) : ∀ (n k t : Nat), k ≤ j → (relOf m L j false).length ≤ t + n → ∃ xs, Comes (nxtC m L) (badC m L) ⟨k, false, t⟩ xs (some (upV (faultAt L j))) := by
  intro n
  induction n with
  | zero =>
    intro k t hk hn
    have hF := fetch_is' (m := m) (t := t) (L := L) (k := k) (e := false) ⟨by omega, fun h => by cases h⟩
    rcases hF.give with ⟨a1, a2, a3, a4, a5, a6⟩ | ⟨a1, a2, a3, a4, a5, a6⟩
    · have hkj : (fetchP m L t k false).k ≤ j := by
        rcases Nat.lt_or_ge j (fetchP m L t k false).k with h | h
        · exact absurd (a4 j hk h) hf
        · exact h
      have he : (fetchP m L t k false).e = false := by
        cases h : (fetchP m L t k false).e with
        | false => rfl
        | true => have := a2.2 h; omega
      rw [he] at a6
      rcases a6 with h | ⟨h, _⟩
      · obtain ⟨r, hr⟩ := rel_more m L hkj
        have := (List.getElem?_eq_some_iff.1 (at_prefix hr h)).1
        omega
      · cases h
    · have hkj : (fetchP m L t k false).k = j + 1 := by
        rcases Nat.lt_or_ge ((fetchP m L t k false).k - 1) j with h | h
        · rw [hc _ h] at a6
          exact absurd a6 a1
        · rcases Nat.lt_or_ge (j + 1) (fetchP m L t k false).k with h2 | h2
          · exact absurd (hF.calm j hk h2) hf
          · omega
      refine ⟨[], .fail ?_⟩
      unfold badC
      rw [if_neg a1, a6, hkj]
      rfl
  | succ n ih =>
    intro k t hk hn
    have hF := fetch_is' (m := m) (t := t) (L := L) (k := k) (e := false) ⟨by omega, fun h => by cases h⟩
    rcases hF.give with ⟨a1, a2, a3, a4, a5, a6⟩ | ⟨a1, a2, a3, a4, a5, a6⟩
    · have hkj : (fetchP m L t k false).k ≤ j := by
        rcases Nat.lt_or_ge j (fetchP m L t k false).k with h | h
        · exact absurd (a4 j hk h) hf
        · exact h
      have he : (fetchP m L t k false).e = false := by
        cases h : (fetchP m L t k false).e with
        | false => rfl
        | true => have := a2.2 h; omega
      have a6' := a6
      rw [he] at a6
      rcases a6 with h | ⟨h, _⟩
      · have hv : Valid (fetchP m L t k false).c := by
          obtain ⟨r, hr⟩ := rel_prefix m L a2
          rw [he] at hr
          exact full_valid m L _ (List.mem_of_getElem? (at_prefix hr h))
        have hne : (fetchP m L t k false).c ≠ -1 := by unfold Valid at hv; omega
        obtain ⟨xs, hx⟩ := ih (fetchP m L t k false).k (t + 1) hkj (by omega)
        have e1 : nxtC m L ⟨k, false, t⟩ = ((fetchP m L t k false).c, ⟨(fetchP m L t k false).k, false, t + 1⟩) := by
          unfold nxtC
          dsimp only
          rw [if_neg hne, he]
        exact ⟨_, Comes.step (nxt := nxtC m L) (bad := badC m L) (s := ⟨k, false, t⟩) (xs := xs) (by unfold badC; rw [if_pos a1]) (by rw [e1]; exact hv) (by rw [e1]; exact hx)⟩
      · cases h
    · have hkj : (fetchP m L t k false).k = j + 1 := by
        rcases Nat.lt_or_ge ((fetchP m L t k false).k - 1) j with h | h
        · rw [hc _ h] at a6
          exact absurd a6 a1
        · rcases Nat.lt_or_ge (j + 1) (fetchP m L t k false).k with h2 | h2
          · exact absurd (hF.calm j hk h2) hf
          · omega
      refine ⟨[], .fail ?_⟩
      unfold badC
      rw [if_neg a1, a6, hkj]
      rfl

end Go.Proofs.YtmhaknejeobfgaaGreatDoor

/- DigestC2. -/
namespace Go.Proofs.YtmhaknejeobfgaaGreatDoor
open Go.RowKit Go.Proofs.YtmhaknejeobfgaaGreatDoor.Stable Go.Proofs.YtmhaknejeobfgaaGreatDoor.Order Go.Proofs.YtmhaknejeobfgaaGreatDoor.Points
attribute [local go_sem ↓] Go.wp_at_zero Go.wp_at_succ

/-- A hash in memory. -/
def hashC (h : Int) : Obj := .cells #[.int .u64 h] 27 (0, 0)

/-- What the closure leaves: the hash, if the source does not give up. -/
def Dig1 (T : Nat → Prop) (w w' : World) (vh : Nat) (h : Int) : Prop := w'.heap[vh]? = some (hashC h) ∧ Fr (fun z => T z ∨ z = vh) w w'

/-- How it ends. -/
def DigEnds (T : Nat → Prop) (w w' : World) (vh : Nat) (xs : List Int) (e : Ending) : Option Value → Prop
  | none => e = .returned (.tuple #[]) ∧ Dig1 T w w' vh (hashL (utf8 xs))
  | some v => e = .panicked [{ v := v, recovered := false }] ∧ Dig1 T w w' vh 0

/-- What Digest answers: the hash of all, and the error. -/
def digOf (m : Int) (L : List Chk) : Int := if faultOf L = 0 then hashL (keyL m (bytesOf L)) else 0


end Go.Proofs.YtmhaknejeobfgaaGreatDoor

/- ChRow. -/
namespace Go.Proofs.YtmhaknejeobfgaaGreatDoor
open Go.RowKit Go.Proofs.YtmhaknejeobfgaaGreatDoor.Stable Go.Proofs.YtmhaknejeobfgaaGreatDoor.Order Go.Proofs.YtmhaknejeobfgaaGreatDoor.Points
attribute [local go_sem ↓] Go.wp_at_zero Go.wp_at_succ

theorem Tryz.info_chunk : (Tryz.prog.info? 144).map (fun i => (i.zero, i.size, i.bytes)) = some (some (.agg #[.int .i64 0, .string ⟨#[]⟩]), 2, 24) := by kernel_rfl

/-- Chunks as cells. -/
def chCells (L : List Chk) : List Value := L.flatMap fun c => [.int .i64 c.1, .string ⟨c.2.toArray⟩]

theorem chCells_append (L M : List Chk) : chCells (L ++ M) = chCells L ++ chCells M := by simp [chCells]

theorem chCells_length (L : List Chk) : (chCells L).length = L.length * 2 := by
  induction L with
  | nil => rfl
  | cons c r ih =>
    have : chCells (c :: r) = [.int .i64 c.1, .string ⟨c.2.toArray⟩] ++ chCells r := rfl
    rw [this, List.length_append, ih, List.length_cons]
    simp
    omega

theorem chCells_one (L : List Chk) : ∀ u ∈ chCells L, u.oneCell' = true := by
  intro u hu
  obtain ⟨c, _, hc⟩ := List.mem_flatMap.1 hu
  simp at hc
  rcases hc with rfl | rfl <;> rfl

theorem chCells_at : ∀ (L : List Chk) (j : Nat) (c : Chk), L[j]? = some c → (chCells L)[j * 2]? = some (.int .i64 c.1) ∧ (chCells L)[j * 2 + 1]? = some (.string ⟨c.2.toArray⟩)
  | [], j, c, h => by cases h
  | d :: r, 0, c, h => by
    cases h
    exact ⟨rfl, rfl⟩
  | d :: r, j + 1, c, h => by
    have e : chCells (d :: r) = .int .i64 d.1 :: .string ⟨d.2.toArray⟩ :: chCells r := rfl
    have := chCells_at r j c h
    rw [e, show (j + 1) * 2 = j * 2 + 1 + 1 by omega]
    exact this

/-- A list of chunks in memory that is not older than base. -/
def ChRow (w : World) (base : Nat) (a : Option Addr) (cp : Nat) (L : List Chk) : Prop := w.ownsRow base 144 2 (.slice a L.length cp) L.length (chCells L)

theorem ChRow.none (w : World) (base : Nat) : ChRow w base Option.none 0 [] := ⟨rfl, .inl ⟨rfl, rfl⟩⟩

theorem ChRow.kept {w w' : World} {base : Nat} {a : Option Addr} {cp : Nat} {L : List Chk} (h : ChRow w base a cp L) (f : Fr (fun _ => False) w w') : ChRow w' base a cp L := row_kept h f (fun _ _ => id)

theorem ChRow.chunks {w : World} {base : Nat} {a : Option Addr} {cp : Nat} {L : List Chk} (h : ChRow w base a cp L) (hk : ∀ c ∈ L, -9223372036854775808 ≤ c.1 ∧ c.1 ≤ 9223372036854775807) : ChunksIn w w.heap.size a L := fun j c hj => by
  have hlt : j < L.length := (List.getElem?_eq_some_iff.1 hj).1
  rcases h.2 with ⟨_, hn⟩ | ⟨g, cap, cur, hs, hb, hgg, h1, h2, h3, h4⟩
  · omega
  · cases hs
    have hl := chCells_at L j c hj
    have cell : ∀ i v, i < L.length * 2 → (chCells L)[i]? = some v → w.cell? ⟨g, 0 + i, Option.none⟩ = some v := fun i v hi hv => by
      rw [Nat.zero_add]
      refine cell_of hgg ?_
      have e2 : (cur.toList.take (L.length * 2))[i]? = (chCells L)[i]? := by rw [h4]
      rw [List.getElem?_take, if_pos hi] at e2
      rw [← Array.getElem?_toList, e2, hv]
    exact ⟨g, 0, rfl, lt_of hgg, lt_of hgg, cell _ _ (by omega) hl.1, by have := cell (j * 2 + 1) _ (by omega) hl.2; rwa [← Nat.add_assoc] at this, hk c (List.mem_of_getElem? hj)⟩

theorem ChRow.more {w' : World} {base : Nat} {L : List Chk} {c : Chk} {v' : Value} (h : w'.ownsRow base 144 2 v' (L.length + 1) (chCells L ++ [.int .i64 c.1, .string ⟨c.2.toArray⟩])) : ∃ a' c', v' = .slice a' (L ++ [c]).length c' ∧ ChRow w' base a' c' (L ++ [c]) := by
  obtain ⟨a', c', rfl⟩ := row_form h
  have e : (L ++ [c]).length = L.length + 1 := by simp
  refine ⟨a', c', by rw [e], ?_⟩
  unfold ChRow
  rw [e, chCells_append]
  exact h

theorem ChRow.lt {w : World} {base : Nat} {a : Option Addr} {cp : Nat} {L : List Chk} (h : ChRow w base a cp L) {x : Addr} (hx : a = some x) : base ≤ x.block ∧ x.block < w.heap.size := row_lt h (by rw [own_slice, hx]; rfl)

theorem chGrown {w w1 w' : World} {a : Option Addr} {n cp base : Nat} {L : List Chk} (f : Fr (fun _ => False) w w1) (hr : ChRow w1 base a cp L) (hb : w.heap.size ≤ base) (h : w1.grownBy w' (Value.slice a n cp).ownBlock) : Fr (fun _ => False) w w' :=
  f.trans (grown_fr h) (fun i hi e => by
    cases a with
    | none => cases e
    | some x =>
      have e' : i = x.block := by simpa using e
      have := (hr.lt rfl).1
      omega)

theorem cells_two_new (w : World) (u v : Value) (t : TypeId) : ∀ j x, [u, v][j]? = some x → (w.alloc (.cells #[u, v] t)).cell? ((⟨w.heap.size, 0, none⟩ : Addr).add j) = some x := fun j x hj => by
  have hb : (w.alloc (.cells #[u, v] t)).heap[w.heap.size]? = some (.cells #[u, v] t (0, 0)) := heap_alloc_new w _
  have ea : (⟨w.heap.size, 0, none⟩ : Addr).add j = ⟨w.heap.size, j, none⟩ := by unfold Addr.add; split <;> simp_all
  rw [ea]
  exact cell_of hb (by simpa using hj)

/-- Chunks that never give up: a few, all of the kind Some. -/
def Calm (L : List Chk) : Prop := L.length ≤ 41 ∧ ∀ c ∈ L, c.1 = 0

theorem Calm.faults {L : List Chk} (h : Calm L) : ∀ j, j < L.length → faultAt L j = 0 := fun j hj => by
  obtain ⟨c, hc⟩ : ∃ c, L[j]? = some c := ⟨_, List.getElem?_eq_getElem hj⟩
  rw [faultAt_some hc]
  unfold faultBy
  rw [if_pos (h.2 c (List.mem_of_getElem? hc)), if_neg]
  have := idle_le (L.take j ++ [c])
  rw [List.length_append, List.length_take, List.length_singleton] at this
  have := h.1
  omega

/-- Where chunked stands. -/
structure ChAt (w wr : World) (s sb : ByteArray) (L : List Chk) (a : Option Addr) (cp : Nat) : Prop where
  row : ChRow wr w.heap.size a cp L
  fr : Fr (fun _ => False) w wr
  all : bytesOf L ++ sb.data.toList = s.data.toList
  kind : ∀ c ∈ L, c.1 = 0


end Go.Proofs.YtmhaknejeobfgaaGreatDoor
