/- What a reader holds is no row of bytes; a row of bytes as text; how long a form is. Key: the bytes of the mode's form. The hash of bytes: hashOf, the law's own sum, and Hash. The laws' own small functions: pick and known. -/
import Derived.Test.YtmhaknejeobfgabGreatDoorReaders
import Derived.Test.YtmhaknejeobfgabGreatDoorBase
import Derived.Laws.IdiomStrings
import Derived.Laws.BytesArg
import Derived.Laws.Runes

/- Key1. -/
namespace Go.Proofs.YtmhaknejeobfgabGreatDoor
open Go.RowKit Go.Proofs.YtmhaknejeobfgabGreatDoor.Stable Go.Proofs.YtmhaknejeobfgabGreatDoor.Order Go.Proofs.YtmhaknejeobfgabGreatDoor.Points

theorem QIs.typ {w : World} {k : IntKind} {e : TypeId} {cs : Array Value} {o : Nat} {g : Option Nat} {xs : List Int} {N : Nat} (h : QIs w k e cs o g xs N) {x : Nat} (hx : g = some x) : ∃ cur, w.heap[x]? = some (.cells cur e (0, 0)) := by
  obtain ⟨v, pre, _, _, hr, hg, _, _⟩ := h
  rcases hr.2 with ⟨h, _⟩ | ⟨g', cap, cur, h, _, hb, _⟩
  · rw [h] at hg
    rw [← hg] at hx
    cases hx
  · rw [h] at hg
    rw [← hg] at hx
    cases hx
    exact ⟨cur, hb⟩

/-- No row of bytes. -/
def NoBytes (w : World) (T : Nat → Prop) : Prop := ∀ x, T x → ∃ cs t, w.heap[x]? = some (.cells cs t (0, 0)) ∧ t ≠ 5

/-- The blocks of a reader, and no others. -/
theorem RdIs.tight {w : World} {hi br : Nat} {F taken : List Int} {T : Nat → Prop} (h : RdIs w hi br F taken T) : ∃ T0, RdIs w hi br F taken T0 ∧ (∀ x, T0 x → T x) ∧ NoBytes w T0 := by
  obtain ⟨g, bw, bl, bvr, bvs, bs, cp, B, n, ks, h, rest, e, R, S, h1, h2, h3, h4, ⟨t1, t2, t3, t4, t5, t6⟩, h6⟩ := h
  obtain ⟨cs, gm, gr, k1, k2⟩ := h1.st
  have H : Rd w hi br bw bl bvr bvs bs cp B n ks h rest e R (Own n bs gm gr) := ⟨h1.rd, h1.wh, h1.vr, h1.vs, h1.ln, ⟨cs, gm, gr, k1, fun x hx => hx⟩, ⟨fun h => h1.nS.1 (k2 _ h), fun h => h1.nS.2.1 (k2 _ h), fun h => h1.nS.2.2.1 (k2 _ h), fun h => h1.nS.2.2.2.1 (k2 _ h), fun h => h1.nS.2.2.2.2 (k2 _ h)⟩, h1.ne, ⟨h1.hib.1, h1.hib.2.1, h1.hib.2.2.1, fun x hx => h1.hib.2.2.2 x (k2 x hx)⟩, h1.env, h1.n0, h1.n3, h1.hv, h1.hR, h1.bd, h1.sl⟩
  refine ⟨fun x => x = br ∨ x = bw ∨ x = bl ∨ x = bvr ∨ x = bvs ∨ Own n bs gm gr x, ⟨g, bw, bl, bvr, bvs, bs, cp, B, n, ks, h, rest, e, R, Own n bs gm gr, H, h2, h3, h4, ⟨.inl rfl, .inr (.inl rfl), .inr (.inr (.inl rfl)), .inr (.inr (.inr (.inl rfl))), .inr (.inr (.inr (.inr (.inl rfl)))), fun x hx => .inr (.inr (.inr (.inr (.inr hx))))⟩, h6⟩, ?_, ?_⟩
  · rintro x (rfl | rfl | rfl | rfl | rfl | hx)
    · exact t1
    · exact t2
    · exact t3
    · exact t4
    · exact t5
    · exact t6 x (k2 x hx)
  · rintro x (rfl | rfl | rfl | rfl | rfl | hx)
    · exact ⟨_, _, h1.rd, by decide⟩
    · exact ⟨_, _, h1.wh, by decide⟩
    · exact ⟨_, _, h1.ln, by decide⟩
    · exact ⟨_, _, h1.vr, by decide⟩
    · exact ⟨_, _, h1.vs, by decide⟩
    · rcases hx with rfl | ⟨j, hj, hx⟩
      · exact ⟨_, _, k1.blk, by decide⟩
      · obtain ⟨N, hS, _⟩ := k1.st j hj
        rcases hx with hx | hx
        · obtain ⟨cur, hc⟩ := hS.qm.typ hx
          exact ⟨_, _, hc, by decide⟩
        · obtain ⟨cur, hc⟩ := hS.qr.typ hx
          exact ⟨_, _, hc, by decide⟩

/-- A slice of bytes in memory of its own. -/
def Buf (w : World) (base : Nat) (v : Value) (l : List UInt8) : Prop := w.ownsRow base 5 1 v l.length (Lib.byteCells l)

theorem Buf.kept {w w' : World} {base : Nat} {v : Value} {l : List UInt8} (h : Buf w base v l) {X : Nat → Prop} (f : Fr X w w') (hX : ∀ x, v.ownBlock = some x → ¬ X x) : Buf w' base v l := by
  refine ⟨h.1, ?_⟩
  rcases h.2 with hn | ⟨x, cap, cur, rfl, hb, hgg, rest⟩
  · exact .inl hn
  · exact .inr ⟨x, cap, cur, rfl, hb, by rw [f.block x (lt_of hgg) (hX x rfl)]; exact hgg, rest⟩

theorem Buf.lt {w : World} {base : Nat} {v : Value} {l : List UInt8} (h : Buf w base v l) {x : Nat} (hx : v.ownBlock = some x) : base ≤ x ∧ x < w.heap.size := by
  rcases h.2 with ⟨hn, _⟩ | ⟨g, cap, cur, rfl, hb, hgg, rest⟩
  · rw [hn] at hx; cases hx
  · cases hx; exact ⟨hb, lt_of hgg⟩

/-- A new row of bytes is none of the reader's. -/
theorem Buf.apart {w w' : World} {base : Nat} {v v' : Value} {l : List UInt8} {T : Nat → Prop} (h : Buf w' base v' l) (hT : NoBytes w T) (hv : ∀ x, v.ownBlock = some x → ¬ T x) (f : Fr (fun x => some x = v.ownBlock) w w') : ∀ x, v'.ownBlock = some x → ¬ T x := by
  intro x hx ht
  obtain ⟨cs, t, h1, h2⟩ := hT x ht
  have h3 := (f.block x (lt_of h1) (fun e => hv x e.symm ht)).trans h1
  rcases h.2 with ⟨hn, _⟩ | ⟨g, cap, cur, rfl, hb, hgg, rest⟩
  · rw [hn] at hx; cases hx
  · cases hx
    rw [h3] at hgg
    cases hgg
    exact h2 rfl

theorem Buf.text {w : World} {base : Nat} {v : Value} {l : List UInt8} (h : Buf w base v l) : (convert 96 9 v).run Tryz.prog w = .ok (.string ⟨l.toArray⟩) w := by
  rcases h.2 with ⟨rfl, hn⟩ | ⟨g, cap, cur, rfl, hb, hgg, h1, h2, h3, h4⟩
  · have : l = [] := List.eq_nil_of_length_eq_zero hn
    subst this
    exact run_convert_bytes_nil w _ 5 Tryz.underlying96 Tryz.underlying5 0 0 _ Tryz.underlying9
  · refine run_convert_bytes_back w _ _ 5 ⟨g, 0, none⟩ cap l Tryz.underlying96 Tryz.underlying5 Tryz.underlying9 (fun j hj => ?_)
    have e1 : (⟨g, 0, none⟩ : Addr).add j = ⟨g, j, none⟩ := by unfold Addr.add; split <;> simp_all
    rw [e1]
    refine cell_of hgg ?_
    have e2 : (cur.toList.take (l.length * 1))[j]? = (Lib.byteCells l)[j]? := by rw [h4]
    rw [List.getElem?_take, if_pos (by omega)] at e2
    rw [← Array.getElem?_toList, e2]
    unfold Lib.byteCells
    simp [hj]

theorem codes_length : ∀ (n : Nat) (l : List UInt8), l.length ≤ n → (codes l).length ≤ l.length
  | 0, l, hn => by
    have : l = [] := List.eq_nil_of_length_eq_zero (by omega)
    subst this
    simp [codes_nil]
  | n + 1, l, hn => by
    by_cases hne : l = []
    · subst hne; simp [codes_nil]
    · have hw := Lib.decodeL_width l
      have hl : 0 < l.length := List.length_pos_iff.2 hne
      rw [codes_step l hne, List.length_cons]
      have := codes_length n (l.drop (Lib.decodeL l).2) (by rw [List.length_drop]; omega)
      rw [List.length_drop] at this
      omega

theorem form_length {m : Int} (h0 : 0 ≤ m) (h3 : m ≤ 3) (l : List UInt8) : (form m (codes l)).length ≤ 216 * l.length := by
  rw [form_line h0 h3, ← inE_const]
  have h2 := codes_length l.length l (Nat.le_refl _)
  obtain ⟨i, hi, e⟩ : ∃ i, i < 3 ∧ stagesOf m = i + 1 := by
    rcases modes h0 h3 with rfl | rfl | rfl | rfl
    · exact ⟨0, by omega, rfl⟩
    · exact ⟨0, by omega, rfl⟩
    · exact ⟨1, by omega, rfl⟩
    · exact ⟨2, by omega, rfl⟩
  have h1 := slim_kindAt h0 h3 (fun _ => true) (codes l) i hi
  have h4 := out_length true (gotE (kindAt m) (fun _ => true) (codes l) i)
  rw [e, inE_succ]
  omega

theorem utf8_length (l : List Int) : (utf8 l).length ≤ 4 * l.length := by
  induction l with
  | nil => simp [utf8]
  | cons c r ih =>
    rw [utf8_cons, List.length_append, List.length_cons]
    have h1 : (Lib.encodeRune c).length ≤ 4 := by
      unfold Lib.encodeRune
      rw [List.length_map]
      exact (Lib.encodeRuneZ_length c).2
    omega

theorem byteCells_append (a b : List UInt8) : Lib.byteCells (a ++ b) = Lib.byteCells a ++ Lib.byteCells b := by simp [Lib.byteCells]

theorem Tryz.appendRune_buf {w : World} {base : Nat} {v : Value} {l : List UInt8} (c : Int) (hc : Valid c) (h : Buf w base v l) (hlen : l.length + 4 ≤ 140737488355328) (hb : base ≤ w.heap.size) :
    Calls Tryz.prog 50 #[v, .int .i32 c] w fun e w' => ∃ a n cp, e = .returned (.slice a n cp) ∧ Buf w' base (.slice a n cp) (l ++ Lib.encodeRune c) ∧ Fr (fun x => some x = v.ownBlock) w w' := by
  refine (Tryz.utf8_AppendRune_plain base v l.length (Lib.byteCells l) c (by unfold Valid at hc; omega) (by unfold Valid at hc; omega) w h hlen hb).mono ?_
  rintro e w' ⟨v', rfl, h1, o, h2⟩
  rw [← Lib.byteCells_encodeRune, ← byteCells_append, show l.length + (Lib.byteCells (Lib.encodeRune c)).length = (l ++ Lib.encodeRune c).length by simp [Lib.byteCells]] at h1
  have hf : Fr (fun x => some x = v.ownBlock) w w' := ((Fr.refl (fun x => some x = v.ownBlock) w).alloc o).grown h2 (fun k hk _ => hk.symm)
  rcases h1.2 with ⟨rfl, hn⟩ | ⟨g, cap, cur, rfl, _⟩
  · exact ⟨none, 0, 0, rfl, h1, hf⟩
  · exact ⟨_, _, _, rfl, h1, hf⟩

end Go.Proofs.YtmhaknejeobfgabGreatDoor

/- Key2. -/
namespace Go.Proofs.YtmhaknejeobfgabGreatDoor
open Go.RowKit Go.Proofs.YtmhaknejeobfgabGreatDoor.Stable Go.Proofs.YtmhaknejeobfgabGreatDoor.Order Go.Proofs.YtmhaknejeobfgabGreatDoor.Points
attribute [local go_sem ↓] Go.wp_at_zero Go.wp_at_succ

/-- Where Key's loop stands: tk is in the row of bytes, c has been fetched. -/
def KeyAt (w wr : World) (hi br base : Nat) (F : List Int) (g : Nat) (vk : Value) (c : Int) : Prop :=
  ∃ tk T, ((∃ r, F = tk ++ c :: r ∧ g = r.length + 1 ∧ RdIs wr hi br F (tk ++ [c]) T) ∨ (F = tk ∧ c = -1 ∧ g = 0 ∧ RdIs wr hi br F tk T)) ∧ Buf wr base vk (utf8 tk) ∧ (∀ x, vk.ownBlock = some x → ¬ T x) ∧ (∀ x, T x → w.heap.size ≤ x) ∧ Fr (fun _ => False) w wr ∧ base ≤ wr.heap.size ∧ hi ≤ base

/-- A Fetch from where the row of bytes stands. -/
theorem KeyAt.fetched {w wr w' : World} {hi br base : Nat} {F tk : List Int} {vk : Value} {T : Nat → Prop} {c : Int} (hF : Fetched wr w' hi br F tk T c) (hb : Buf wr base vk (utf8 tk)) (hv : ∀ x, vk.ownBlock = some x → ¬ T x) (hT : ∀ x, T x → w.heap.size ≤ x) (hf : Fr (fun _ => False) w wr) (hb1 : base ≤ wr.heap.size) (hb2 : hi ≤ base) : ∃ g, KeyAt w w' hi br base F g vk c ∧ g ≤ F.length - tk.length := by
  obtain ⟨h1, f⟩ := hF
  have hlt : ∀ x, vk.ownBlock = some x → ¬ (T x ∨ wr.heap.size ≤ x) := fun x hx h => by
    rcases h with h | h
    · exact hv x hx h
    · have := (hb.lt hx).2; omega
  have hT' : ∀ x, (T x ∨ wr.heap.size ≤ x) → w.heap.size ≤ x := fun x h => by
    rcases h with h | h
    · exact hT x h
    · have := hf.size; omega
  have hf' : Fr (fun _ => False) w w' := hf.trans f (fun i hi h => by have := hT i h; omega)
  have hb' := hb.kept f hv
  have hs := f.size
  rcases h1 with ⟨r, e1, h1⟩ | ⟨e1, e2, h1⟩
  · exact ⟨r.length + 1, ⟨tk, _, .inl ⟨r, e1, rfl, h1⟩, hb', hlt, hT', hf', by omega, hb2⟩, by rw [e1]; simp⟩
  · exact ⟨0, ⟨tk, _, .inr ⟨e1, e2, rfl, h1⟩, hb', hlt, hT', hf', by omega, hb2⟩, by omega⟩

set_option maxRecDepth 100000 in
theorem key_none (m : Int) (s : ByteArray) (w : World) (h : m < 0 ∨ 3 < m) :
    Calls Tryz.prog 23 #[.int .i64 m, .string s] w fun e w' => e = .returned (.tuple #[.string ⟨#[]⟩, .int .i64 1]) ∧ w' = w := by
  have HM : Hid (m < 0 ∨ 3 < m) := h
  clear h
  go_enter Tryz.func23, Tryz.ntmps23
  go_wp2_with (go_at_call 24; refine (of_none m _ HM.out).mono ?_; rintro e w' ⟨rfl, hw⟩; have hw' := hw.symm; subst hw'; clear hw)
  go_ret2
  exact ⟨rfl, rfl⟩

set_option maxRecDepth 100000 in
set_option maxHeartbeats 1600000 in
theorem key_calls (m : Int) (s : ByteArray) (w : World) (h0 : 0 ≤ m) (h3 : m ≤ 3) (hE : Env w) (hbd : 432 * s.data.toList.length ≤ 1099511627776) :
    Calls Tryz.prog 23 #[.int .i64 m, .string s] w fun e w' => e = .returned (.tuple #[.string ⟨(keyL m s.data.toList).toArray⟩, .int .i64 0]) ∧ Fr (fun _ => False) w w' := by
  have hFv : ∀ c ∈ form m (codes s.data.toList), Valid c := form_valid (codes_valid _)
  have hFl : 4 * (form m (codes s.data.toList)).length + 4 ≤ 140737488355328 := by
    have := form_length h0 h3 s.data.toList
    omega
  obtain ⟨F, hF⟩ : ∃ F, F = form m (codes s.data.toList) := ⟨_, rfl⟩
  have HM : Hid (0 ≤ m ∧ m ≤ 3 ∧ 432 * s.data.toList.length ≤ 1099511627776) := ⟨h0, h3, hbd⟩
  have HE : Hid (Env w) := hE
  have hk : keyL m s.data.toList = utf8 F := by rw [hF]; rfl
  rw [hk]
  rw [← hF] at hFv hFl
  have HF : Hid (F = form m (codes s.data.toList) ∧ (∀ c ∈ F, Valid c) ∧ 4 * F.length + 4 ≤ 140737488355328) := ⟨hF, hFv, hFl⟩
  obtain ⟨n, hn⟩ : ∃ n, (kindL m).length = n := ⟨_, rfl⟩
  have HN : Hid ((kindL m).length = n) := hn
  clear hE h0 h3 hbd hFv hFl hF hk hn
  go_enter Tryz.func23, Tryz.ntmps23
  go_wp2_with (first
    | (go_at_call 24; refine (of_calls m _ HM.out.1 HM.out.2.1 HE.out).mono ?_; rintro e w1 ⟨b0, B, cs, rfl, p1, p2, p3, p4, p5, p6⟩; rw [HN.out] at p3 p4 ⊢; have HP : Hid (w.heap.size ≤ b0 ∧ w1.heap[b0]? = some (.cells cs 108 (0, 0)) ∧ cs.size = 8 * n ∧ Fresh cs B m n ∧ TabIn w1 b0 B ∧ Fr (fun _ => False) w w1) := ⟨p1, p2, p3, p4, p5, p6⟩; clear p1 p2 p3 p4 p5 p6)
    | (go_at_call 36; refine (newWhole_calls _ s).mono ?_; rintro e w2 ⟨rfl, hw2⟩; have HW2 : Hid (w2.heap[w1.heap.size]? = some (.cells #[.string s] 126 (0, 0)) ∧ Fr (fun _ => False) w1 w2) := ⟨hw2 ▸ heap_alloc_new w1 _, hw2 ▸ (Fr.refl _ _).alloc _⟩; clear hw2)
    | (go_at_call 25; refine (begin_calls (B := B) (cs := cs) (m := m) (s := s) HM.out.1 HM.out.2.1 HN.out ((HE.out.kept HP.out.2.2.2.2.2 (fun _ _ => id)).kept HW2.out.2 (fun _ _ => id)) (by have := HE.out.size; have := HP.out.1; omega) (Nat.le_of_lt (lt_of HP.out.2.1)) HW2.out.1 (HP.out.2.2.2.2.1.kept HW2.out.2 (fun _ _ => id)) HP.out.2.2.2.1 HM.out.2.2 ((HW2.out.2.block b0 (lt_of HP.out.2.1) id).trans HP.out.2.1) HP.out.2.2.1).mono ?_; rintro e w3 ⟨br, rfl, q1, q2⟩; rw [← HF.out.1] at q1; have HQ : Hid (RdIs w3 b0 br F [] (fun x => x = w1.heap.size ∨ w2.heap.size ≤ x) ∧ Fr (fun _ => False) w2 w3) := ⟨q1, q2⟩; clear q1 q2)
    | (go_at_call 49; refine (fetch_calls HQ.out.1).mono ?_; rintro e w4 ⟨c, rfl, hFe⟩; have HFE : Hid (Fetched w3 w4 b0 br F [] (fun x => x = w1.heap.size ∨ w2.heap.size ≤ x) c) := hFe; clear hFe))
  have hT0 : ∀ x, (x = w1.heap.size ∨ w2.heap.size ≤ x) → w.heap.size ≤ x := fun x hx => by
    have s1 := HP.out.2.2.2.2.2.size
    have s2 := HW2.out.2.size
    omega
  have hfw : Fr (fun _ => False) w w3 := (HP.out.2.2.2.2.2.trans HW2.out.2 (fun _ _ h => h)).trans HQ.out.2 (fun _ _ h => h)
  have hbl : b0 ≤ w3.heap.size := by
    have h1 := lt_of HP.out.2.1
    have s2 := HW2.out.2.size
    have s3 := HQ.out.2.size
    omega
  obtain ⟨g0, hK, _⟩ := KeyAt.fetched (base := w3.heap.size) (vk := .slice none 0 0) HFE.out ⟨rfl, .inl ⟨rfl, rfl⟩⟩ (fun x hx => by cases hx) hT0 hfw (Nat.le_refl _) hbl
  have HK : Hid (KeyAt w w4 b0 br w3.heap.size F g0 (.slice none 0 0) c) := hK
  clear hT0 hfw hbl hK
  go_loopg [9, 10] g0 (fun g vk vc wr => ∃ a n cp c, vk = .slice a n cp ∧ vc = .int .i32 c ∧ Hid (KeyAt w wr b0 br w3.heap.size F g (.slice a n cp) c))
  case atStart => exact ⟨none, 0, 0, c, rfl, rfl, HK.out⟩
  case round =>
    obtain ⟨a, n', cp, c', rfl, rfl, hh⟩ := hrel
    obtain ⟨tk, T, hd, hbuf, hv, hT, hfr, hb1, hb2⟩ := hh.out
    rcases hd with ⟨r, e1, e2, hR⟩ | ⟨e1, e2, e3, hR⟩
    · have hcv : Valid c' := HF.out.2.1 c' (by rw [e1]; simp)
      have hne : (c' != -1) = true := by
        unfold Valid at hcv
        rw [bne_iff_ne]
        omega
      obtain ⟨T0, hR0, hT0, hnb⟩ := hR.tight
      have hlen : (utf8 tk).length + 4 ≤ 140737488355328 := by
        have h1 := HF.out.2.2
        have h2 := utf8_length tk
        have h3 : F.length = tk.length + (r.length + 1) := by rw [e1]; simp
        omega
      have HC : Hid (Valid c') := hcv
      have HB : Hid (Buf wr w3.heap.size (.slice a n' cp) (utf8 tk) ∧ (utf8 tk).length + 4 ≤ 140737488355328 ∧ w3.heap.size ≤ wr.heap.size ∧ b0 ≤ w3.heap.size ∧ Fr (fun _ => False) w wr) := ⟨hbuf, hlen, hb1, hb2, hfr⟩
      have HR : Hid (RdIs wr b0 br F (tk ++ [c']) T0 ∧ NoBytes wr T0 ∧ (∀ x, (Value.slice a n' cp).ownBlock = some x → ¬ T0 x) ∧ (∀ x, T0 x → w.heap.size ≤ x) ∧ F = tk ++ c' :: r ∧ gk = r.length + 1) := ⟨hR0, hnb, fun x hx h => hv x hx (hT0 x h), fun x h => hT x (hT0 x h), e1, e2⟩
      clear hcv hh hbuf hv hT hfr hb1 hb2 hR hR0 hT0 hnb hlen e1 e2
      go_wp2_with (first
        | (go_at_call 50; refine (Tryz.appendRune_buf c' HC.out HB.out.1 HB.out.2.1 HB.out.2.2.1).mono ?_; rintro e w5 ⟨a5, n5, cp5, rfl, k1, k2⟩; have HK5 : Hid (Buf w5 w3.heap.size (.slice a5 n5 cp5) (utf8 tk ++ Lib.encodeRune c') ∧ Fr (fun x => some x = (Value.slice a n' cp).ownBlock) wr w5) := ⟨k1, k2⟩; clear k1 k2; have HR5 : Hid (RdIs w5 b0 br F (tk ++ [c']) T0) := HR.out.1.kept HK5.out.2 (fun x hx h => HR.out.2.2.1 x h.symm hx) (fun x hx h => (by have := (HB.out.1.lt h.symm).1; have := HB.out.2.2.2.1; omega)))
        | (go_at_call 49; refine (fetch_calls HR5.out).mono ?_; rintro e w6 ⟨c6, rfl, hFe⟩; have HFE6 : Hid (Fetched w5 w6 b0 br F (tk ++ [c']) T0 c6) := hFe; clear hFe))
      have hbuf5 : Buf w5 w3.heap.size (.slice a5 n5 cp5) (utf8 (tk ++ [c'])) := by
        rw [utf8_append]
        have : utf8 [c'] = Lib.encodeRune c' := by simp [utf8]
        rw [this]
        exact HK5.out.1
      have hs5 := HK5.out.2.size
      obtain ⟨g', hK', hg'⟩ := KeyAt.fetched (w := w) HFE6.out hbuf5 (HK5.out.1.apart HR.out.2.1 HR.out.2.2.1 HK5.out.2) HR.out.2.2.2.1 (HB.out.2.2.2.2.trans HK5.out.2 (fun i hi h => by have := (HB.out.1.lt h.symm).1; have := HB.out.2.2.2.1; have := lt_of HP.out.2.1; have := HP.out.1; omega)) (by have := HB.out.2.2.1; omega) HB.out.2.2.2.1
      go_roundg g'
      case measure =>
        have h1 := HR.out.2.2.2.2.2
        have h2 : F.length = tk.length + (r.length + 1) := by rw [HR.out.2.2.2.2.1]; simp
        simp at hg'
        omega
      case rel => exact ⟨a5, n5, cp5, c6, rfl, rfl, hK'⟩
    · have hne : (c' != -1) = false := by rw [e2]; rfl
      have hcv := hbuf.text
      have HB : Hid (F = tk ∧ Fr (fun _ => False) w wr) := ⟨e1, hfr⟩
      clear hh hbuf hv hT hfr hb1 hb2 hR e1 e2 e3
      go_wp2
      go_ret2
      have e := HB.out.1
      subst e
      exact ⟨rfl, HB.out.2⟩

end Go.Proofs.YtmhaknejeobfgabGreatDoor

/- Hash1. -/
namespace Go.Proofs.YtmhaknejeobfgabGreatDoor
open Go.RowKit Go.Proofs.YtmhaknejeobfgabGreatDoor.Stable Go.Proofs.YtmhaknejeobfgabGreatDoor.Order Go.Proofs.YtmhaknejeobfgabGreatDoor.Points
attribute [local go_sem ↓] Go.wp_at_zero Go.wp_at_succ

/-- One byte more. -/
def hstep (h : Int) (b : UInt8) : Int := IntKind.u64.wrap (bits .xor .u64 h (IntKind.u64.wrap (b.toNat : Int)) * 1099511628211)

/-- The hash of bytes. -/
def hashL (l : List UInt8) : Int := l.foldl hstep 14695981039346656037

theorem hashL_take {s : ByteArray} {k : Nat} (h : k < s.size) : hashL (s.data.toList.take (k + 1)) = hstep (hashL (s.data.toList.take k)) s[k] := by
  have hl : k < s.data.toList.length := by rw [← Lib.size_eq]; exact h
  unfold hashL
  rw [List.take_add_one, List.getElem?_eq_getElem hl, Option.toList_some, List.foldl_append]
  rfl

theorem hashL_all (s : ByteArray) : hashL (s.data.toList.take s.size) = hashL s.data.toList := by rw [Lib.size_eq, List.take_length]

theorem encode_is {c : Int} (h : Valid c) : (Utf8.encode c).data.toList = Lib.encodeRune c := by
  obtain ⟨n, rfl⟩ : ∃ n : Nat, c = n := ⟨c.toNat, by unfold Valid at h; omega⟩
  have hv : Utf8.valid (n : Int) = true := by
    unfold Valid at h
    unfold Utf8.valid
    simp
    omega
  have hu : ∀ {z : Int} {k : Nat}, z = k → z.toNat.toUInt8 = UInt8.ofNat k := fun h => by subst h; simp
  unfold Valid at h
  unfold Lib.encodeRune
  by_cases h1 : n < 128
  · rw [Lib.encodeRuneZ_one (by omega) (by omega)]
    simp [Utf8.encode, hv, h1]
  · by_cases h2 : n < 2048
    · rw [Lib.encodeRuneZ_two (by omega) (by omega), List.map_cons, List.map_cons, List.map_nil, hu (k := 192 + n / 64) (by omega), hu (k := 128 + n % 64) (by omega)]
      simp [Utf8.encode, hv, h1, h2]
    · by_cases h3 : n < 65536
      · rw [Lib.encodeRuneZ_three (by omega), List.map_cons, List.map_cons, List.map_cons, List.map_nil, hu (k := 224 + n / 4096) (by omega), hu (k := 128 + n / 64 % 64) (by omega), hu (k := 128 + n % 64) (by omega)]
        simp [Utf8.encode, hv, h1, h2, h3]
      · rw [Lib.encodeRuneZ_four (by omega) (by omega), List.map_cons, List.map_cons, List.map_cons, List.map_cons, List.map_nil, hu (k := 240 + n / 262144) (by omega), hu (k := 128 + n / 4096 % 64) (by omega), hu (k := 128 + n / 64 % 64) (by omega), hu (k := 128 + n % 64) (by omega)]
        simp [Utf8.encode, hv, h1, h2, h3]

theorem bytesRow_cell {s : ByteArray} {cap k : Nat} (h : k < s.size) : (bytesRow s cap)[k]? = some (.int .u8 s[k].toNat) := by
  unfold bytesRow
  have hk : k < s.data.size := h
  rw [Array.getElem?_append_left (by simpa using hk)]
  rw [Array.getElem?_map, Array.getElem?_eq_getElem hk]
  rfl

/-- What a reader's Fetch does, from state to state: it gives the next code point (-1 behind the last), or it panics. -/
structure Fetcher {σ : Type} (br : Nat) (Q : σ → World → (Nat → Prop) → Prop) (nxt : σ → Int × σ) (bad : σ → Option Value) : Prop where
  ok : ∀ s w T, Q s w T → bad s = none → Calls Tryz.prog 49 #[.pointer (some ⟨br, 0, none⟩)] w fun e w' => e = .returned (.int .i32 (nxt s).1) ∧ Q (nxt s).2 w' (fun x => T x ∨ w.heap.size ≤ x) ∧ Fr T w w'
  no : ∀ s w T v, Q s w T → bad s = some v → Calls Tryz.prog 49 #[.pointer (some ⟨br, 0, none⟩)] w fun e w' => e = .panicked [{ v := v, recovered := false }] ∧ Fr T w w'
  kept : ∀ s w w' T, Q s w T → Fr (fun _ => False) w w' → Q s w' T

/-- All that comes: code points, then the end, or a panic. -/
def Comes {σ : Type} (nxt : σ → Int × σ) (bad : σ → Option Value) (s : σ) : List Int → Option Value → Prop
  | [], none => bad s = none ∧ (nxt s).1 = -1
  | [], some v => bad s = some v
  | x :: xs, r => bad s = none ∧ Valid (nxt s).1 ∧ x = (nxt s).1 ∧ Comes nxt bad (nxt s).2 xs r

theorem Comes.stop {σ : Type} {nxt : σ → Int × σ} {bad : σ → Option Value} {s : σ} (h : bad s = none) (k : (nxt s).1 = -1) : Comes nxt bad s [] none := ⟨h, k⟩

theorem Comes.fail {σ : Type} {nxt : σ → Int × σ} {bad : σ → Option Value} {s : σ} {v : Value} (h : bad s = some v) : Comes nxt bad s [] (some v) := h

theorem Comes.step {σ : Type} {nxt : σ → Int × σ} {bad : σ → Option Value} {s : σ} {xs : List Int} {r : Option Value} (h : bad s = none) (hv : Valid (nxt s).1) (k : Comes nxt bad (nxt s).2 xs r) : Comes nxt bad s ((nxt s).1 :: xs) r := ⟨h, hv, rfl, k⟩

theorem Comes.inv {σ : Type} {nxt : σ → Int × σ} {bad : σ → Option Value} {s : σ} {xs : List Int} {r : Option Value} (h : Comes nxt bad s xs r) :
    (xs = [] ∧ r = none ∧ bad s = none ∧ (nxt s).1 = -1) ∨ (∃ v, xs = [] ∧ r = some v ∧ bad s = some v) ∨ ∃ ys, xs = (nxt s).1 :: ys ∧ bad s = none ∧ Valid (nxt s).1 ∧ Comes nxt bad (nxt s).2 ys r := by
  match xs, r, h with
  | [], none, h => exact .inl ⟨rfl, rfl, h.1, h.2⟩
  | [], some v, h => exact .inr (.inl ⟨v, rfl, rfl, h⟩)
  | x :: xs, r, h => exact .inr (.inr ⟨xs, by rw [h.2.2.1], h.1, h.2.1, h.2.2.2⟩)

/-- Where hashOf's loop stands: tk is in the hash, c has been fetched. -/
def HashAt {σ : Type} (Q : σ → World → (Nat → Prop) → Prop) (nxt : σ → Int × σ) (bad : σ → Option Value) (w wr : World) (T : Nat → Prop) (xs : List Int) (r : Option Value) (g : Nat) (h c : Int) : Prop :=
  ∃ tk, h = hashL (utf8 tk) ∧ Fr T w wr ∧ ((c = -1 ∧ xs = tk ∧ r = none ∧ g = 0) ∨ ∃ s rest T', Valid c ∧ xs = tk ++ c :: rest ∧ Comes nxt bad s rest r ∧ Q s wr T' ∧ (∀ x, T' x → T x ∨ w.heap.size ≤ x) ∧ g = rest.length + 1)

/-- How it ends. -/
def HashEnds (xs : List Int) (r : Option Value) (e : Ending) : Prop := match r with
  | none => e = .returned (.int .u64 (hashL (utf8 xs)))
  | some v => e = .panicked [{ v := v, recovered := false }]

theorem hashL_append (a b : List UInt8) : hashL (a ++ b) = b.foldl hstep (hashL a) := by unfold hashL; rw [List.foldl_append]

set_option maxRecDepth 100000 in
set_option maxHeartbeats 1600000 in
theorem hashOf_calls {σ : Type} {br : Nat} {Q : σ → World → (Nat → Prop) → Prop} {nxt : σ → Int × σ} {bad : σ → Option Value} (HF : Fetcher br Q nxt bad) {s : σ} {xs : List Int} {r : Option Value} (hr : Comes nxt bad s xs r) {w : World} {T : Nat → Prop} (hq : Q s w T) :
    Calls Tryz.prog 29 #[.pointer (some ⟨br, 0, none⟩)] w fun e w' => HashEnds xs r e ∧ Fr T w w' := by
  have hsb : ∀ (s : ByteArray) (w : World), (convert 9 96 (.string s)).run Tryz.prog w = .ok (.slice (some ⟨w.heap.size, 0, none⟩) s.size (grownCap w s.size 0 5)) (w.drew.alloc (.cells (bytesRow s (grownCap w s.size 0 5)) 5 ((bytesRow s (grownCap w s.size 0 5)).size, (bytesRow s (grownCap w s.size 0 5)).size + 1))) := fun s w => run_bytes_of_string w _ _ _ s Tryz.underlying9 Tryz.underlying96 Tryz.underlying5
  cases hb : bad s with
  | some v =>
    obtain ⟨rfl, rfl⟩ : xs = [] ∧ r = some v := by
      rcases hr.inv with ⟨_, _, h, _⟩ | ⟨v', e1, e2, h⟩ | ⟨_, _, h, _⟩
      · rw [hb] at h; cases h
      · rw [hb] at h; cases h; exact ⟨e1, e2⟩
      · rw [hb] at h; cases h
    have HN : Hid (Calls Tryz.prog 49 #[.pointer (some ⟨br, 0, none⟩)] w fun e w' => e = .panicked [{ v := v, recovered := false }] ∧ Fr T w w') := HF.no s w T v hq hb
    clear hq hb hr
    go_enter Tryz.func29, Tryz.ntmps29
    go_wp2_with (go_at_call 49; refine HN.out.mono ?_; rintro e w' ⟨rfl, hf⟩)
    exact ⟨rfl, rfl, hf⟩
  | none =>
    have HN : Hid (Calls Tryz.prog 49 #[.pointer (some ⟨br, 0, none⟩)] w fun e w' => e = .returned (.int .i32 (nxt s).1) ∧ Q (nxt s).2 w' (fun x => T x ∨ w.heap.size ≤ x) ∧ Fr T w w') := HF.ok s w T hq hb
    obtain ⟨c0, hc0⟩ : ∃ c, c = (nxt s).1 := ⟨_, rfl⟩
    have HST : Hid (∀ w', Q (nxt s).2 w' (fun x => T x ∨ w.heap.size ≤ x) → Fr T w w' → ∃ g, HashAt Q nxt bad w w' T xs r g 14695981039346656037 c0) := Hid.mk0 (fun w' h1 h2 => by
      rw [hc0]
      rcases hr.inv with ⟨e1, e2, _, h⟩ | ⟨v', _, _, h⟩ | ⟨ys, e1, _, hv, hs⟩
      · exact ⟨0, [], rfl, h2, .inl ⟨h, e1, e2, rfl⟩⟩
      · rw [hb] at h; cases h
      · exact ⟨_, [], rfl, h2, .inr ⟨_, _, _, hv, e1, hs, h1, fun _ h => h, rfl⟩⟩)
    have HFF : Hid (Fetcher br Q nxt bad) := HF
    rw [← hc0] at HN
    clear hq hb hr hc0 HF
    go_enter Tryz.func29, Tryz.ntmps29
    go_wp2_with (go_at_call 49; refine HN.out.mono ?_; rintro e w1 ⟨rfl, h1, h2⟩)
    obtain ⟨g0, hA⟩ := HST.out w1 h1 h2
    have HA : Hid (HashAt Q nxt bad w w1 T xs r g0 14695981039346656037 c0) := hA
    clear hA h1 h2 HST HN
    go_loopg [3, 4] g0 (fun g vh vc wr => ∃ h c, vh = .int .u64 h ∧ vc = .int .i32 c ∧ Hid (HashAt Q nxt bad w wr T xs r g h c))
    case atStart => exact ⟨_, _, rfl, rfl, HA.out⟩
    case round =>
      obtain ⟨h, c, rfl, rfl, hh⟩ := hrel
      obtain ⟨tk, e0, hfr, hd⟩ := hh.out
      rcases hd with ⟨e1, e2, e3, _⟩ | ⟨s1, rest, T1, hv, e1, hcm, hQ, hT1, e2⟩
      · have hne : (c != -1) = false := by rw [e1]; rfl
        have HB : Hid (xs = tk ∧ r = none ∧ h = hashL (utf8 tk) ∧ Fr T w wr) := ⟨e2, e3, e0, hfr⟩
        clear hh e0 hfr e1 e2 e3
        go_wp2
        go_ret
        obtain ⟨k1, k2, k3, k4⟩ := HB.out
        subst k1 k2 k3
        exact ⟨rfl, k4⟩
      · have hne : (c != -1) = true := by
          unfold Valid at hv
          rw [bne_iff_ne]
          omega
        obtain ⟨sb, hsb1⟩ : ∃ sb : ByteArray, sb = Utf8.encode c := ⟨_, rfl⟩
        have hlen : sb.size ≤ 4 := by
          rw [Lib.size_eq, hsb1, encode_is hv]
          unfold Lib.encodeRune
          rw [List.length_map]
          exact (Lib.encodeRuneZ_length c).2
        have hse : (convert 21 9 (.int .i32 c)).run Tryz.prog wr = .ok (.string sb) wr := by
          rw [hsb1]
          exact run_convert_int_string wr _ _ _ _ (by rw [Tryz.underlying21]; rfl) Tryz.underlying9
        have HV : Hid (Valid c ∧ sb.data.toList = Lib.encodeRune c) := ⟨hv, by rw [hsb1]; exact encode_is hv⟩
        have HB : Hid (xs = tk ++ c :: rest ∧ h = hashL (utf8 tk) ∧ Fr T w wr ∧ Comes nxt bad s1 rest r ∧ Q s1 wr T1 ∧ (∀ x, T1 x → T x ∨ w.heap.size ≤ x) ∧ gk = rest.length + 1) := ⟨e1, e0, hfr, hcm, hQ, hT1, e2⟩
        clear hh e0 hfr e1 e2 hcm hQ hT1 hv hsb1
        have HW : Hid (∀ o, Fr (fun _ => False) wr (wr.alloc o).drew) := Hid.mk0 (fun o => ((Fr.refl _ _).alloc o).drew)
        have HC5 : Hid (∀ k (hk : k < sb.size) cap t fr, (wr.alloc (.cells (bytesRow sb cap) t fr)).drew.cell? ⟨wr.heap.size, k, none⟩ = some (.int .u8 sb[k].toNat)) := Hid.mk0 (fun k hk cap t fr => cell_of (w := (wr.alloc (.cells (bytesRow sb cap) t fr)).drew) (heap_alloc_new wr _) (bytesRow_cell hk))
        go_wp2
        generalize hw5 : (World.drew (wr.alloc _)) = w5
        have HW5 : Hid (Fr (fun _ => False) wr w5 ∧ ∀ k (hk : k < sb.size), w5.cell? ⟨wr.heap.size, k, none⟩ = some (.int .u8 sb[k].toNat)) := ⟨hw5 ▸ HW.out _, fun k hk => hw5 ▸ HC5.out k hk _ _ _⟩
        clear hw5 HW HC5
        go_loopw [3, 17] (fun vh vi w6 => ∃ (k : Nat) (h' : Int), vi = .int .i64 k ∧ vh = .int .u64 h' ∧ k ≤ sb.size ∧ w6 = w5 ∧ Hid (h' = (sb.data.toList.take k).foldl hstep h)) (fun _ vi _ => sb.size - (intOf vi).toNat)
        case atStart => exact ⟨0, h, rfl, rfl, Nat.zero_le _, rfl, rfl⟩
        case round =>
          obtain ⟨k, h', rfl, rfl, hk, hw6, hh'⟩ := hrel
          have hw7 := hw6.symm
          subst hw7
          clear hw6
          by_cases hlt : k < sb.size
          · have i0 : (0 : Int) ≤ (k : Int) := by omega
            have i1 : (k : Int) < (sb.size : Int) := by omega
            have ck := HW5.out.2 k hlt
            go_wp2
            refine ⟨⟨k + 1, _, by go_num, rfl, by omega, trivial, ?_⟩, by simp [intOf]; omega⟩
            have e5 := hh'.out
            have hl : k < sb.data.toList.length := by rw [← Lib.size_eq]; exact hlt
            show IntKind.u64.wrap _ = _
            rw [List.take_add_one, List.getElem?_eq_getElem hl, Option.toList_some, List.foldl_append, ← e5]
            rfl
          · obtain rfl : k = sb.size := by omega
            cases hb1 : bad s1 with
            | some v =>
              obtain ⟨er, er2⟩ : rest = [] ∧ r = some v := by
                have := HB.out.2.2.2.1
                rcases this.inv with ⟨_, _, h, _⟩ | ⟨v', e1, e2, h⟩ | ⟨_, _, h, _⟩
                · rw [hb1] at h; cases h
                · rw [hb1] at h; cases h; exact ⟨e1, e2⟩
                · rw [hb1] at h; cases h
              have HNO : Hid (Calls Tryz.prog 49 #[.pointer (some ⟨br, 0, none⟩)] w5 fun e w' => e = .panicked [{ v := v, recovered := false }] ∧ Fr T1 w5 w') := HFF.out.no s1 w5 T1 v (HFF.out.kept _ _ _ _ HB.out.2.2.2.2.1 HW5.out.1) hb1
              go_wp2_with (go_at_call 49; refine HNO.out.mono ?_; rintro e w7 ⟨rfl, hf7⟩)
              refine ⟨rfl, by rw [er2]; rfl, (HB.out.2.2.1.trans HW5.out.1 (fun _ _ h => h.elim)).trans hf7 (fun i hi h => ?_)⟩
              rcases HB.out.2.2.2.2.2.1 i h with h | h
              · exact h
              · omega
            | none =>
              have HOK : Hid (Calls Tryz.prog 49 #[.pointer (some ⟨br, 0, none⟩)] w5 fun e w' => e = .returned (.int .i32 (nxt s1).1) ∧ Q (nxt s1).2 w' (fun x => T1 x ∨ w5.heap.size ≤ x) ∧ Fr T1 w5 w') := HFF.out.ok s1 w5 T1 (HFF.out.kept _ _ _ _ HB.out.2.2.2.2.1 HW5.out.1) hb1
              have HB1 : Hid (bad s1 = none) := hb1
              clear hb1
              obtain ⟨c1, hc1⟩ : ∃ c, c = (nxt s1).1 := ⟨_, rfl⟩
              rw [← hc1] at HOK
              have HC1 : Hid (c1 = (nxt s1).1) := hc1
              clear hc1
              go_wp2_with (go_at_call 49; refine HOK.out.mono ?_; rintro e w7 ⟨rfl, hq7, hf7⟩)
              obtain ⟨b1, b2, b3, b4, b5, b6, b7⟩ := HB.out
              have hs5 := HW5.out.1.size
              have hs := b3.size
              have hfw : Fr T w w7 := (b3.trans HW5.out.1 (fun _ _ h => h.elim)).trans hf7 (fun i hi h => by
                rcases b6 i h with h | h
                · exact h
                · omega)
              have hT7 : ∀ x, (T1 x ∨ w5.heap.size ≤ x) → T x ∨ w.heap.size ≤ x := fun x h => by
                rcases h with h | h
                · exact b6 x h
                · exact .inr (by omega)
              have eh : h' = hashL (utf8 (tk ++ [c])) := by
                rw [utf8_append, hashL_append, ← b2]
                have e1 : utf8 [c] = sb.data.toList := by rw [HV.out.2]; simp [utf8]
                rw [e1, hh'.out, Lib.size_eq, List.take_length]
              have hg : ∃ g', g' < gk ∧ HashAt Q nxt bad w w7 T xs r g' h' c1 := by
                have hc1 := HC1.out
                rcases b4.inv with ⟨er, er2, _, hm⟩ | ⟨_, _, _, hm⟩ | ⟨rest', er, _, hv', hs'⟩
                · exact ⟨0, by omega, tk ++ [c], eh, hfw, .inl ⟨by rw [hc1]; exact hm, by rw [b1, er], er2, rfl⟩⟩
                · rw [HB1.out] at hm; cases hm
                · refine ⟨rest'.length + 1, by rw [b7, er, List.length_cons]; omega, tk ++ [c], eh, hfw, .inr ⟨_, rest', _, by rw [hc1]; exact hv', by rw [b1, er, hc1]; simp, hs', hq7, hT7, rfl⟩⟩
              obtain ⟨g', hg1, hg2⟩ := hg
              go_roundg g'
              case measure => exact hg1
              case rel => exact ⟨h', c1, rfl, rfl, hg2⟩

theorem key_size {m : Int} (h0 : 0 ≤ m) (h3 : m ≤ 3) (l : List UInt8) : (keyL m l).length ≤ 864 * l.length := by
  unfold keyL
  have h1 := utf8_length (form m (codes l))
  have h2 := form_length h0 h3 l
  omega

/-- A reader of a whole text, by what was fetched. -/
theorem whole_fetcher (hi br : Nat) (F : List Int) : Fetcher br (fun (tk : List Int) w T => RdIs w hi br F tk T ∧ ∃ r, F = tk ++ r) (fun tk => match F.drop tk.length with
    | [] => (-1, tk)
    | c :: _ => (c, tk ++ [c])) (fun _ => none) where
  ok := fun tk w T h _ => by
    obtain ⟨h, r, hr⟩ := h
    have ed : F.drop tk.length = r := by rw [hr]; simp
    refine (fetch_calls h).mono ?_
    rintro e w' ⟨c, rfl, h1, h2⟩
    rw [ed]
    rcases h1 with ⟨r', e1, h1⟩ | ⟨e1, e2, h1⟩
    · rw [hr] at e1
      have e3 := List.append_cancel_left e1
      subst e3
      exact ⟨rfl, ⟨h1, r', by rw [hr]; simp⟩, h2⟩
    · have e3 : r = [] := by
        rw [hr] at e1
        have := congrArg List.length e1
        simp at this
        exact this
      subst e3
      exact ⟨by rw [e2], ⟨h1, [], by rw [hr]⟩, h2⟩
  no := fun _ _ _ _ _ h => by cases h
  kept := fun tk w w' T h f => ⟨h.1.kept f (fun _ _ => id) (fun _ _ => id), h.2⟩

theorem whole_comes (F : List Int) (hv : ∀ c ∈ F, Valid c) : ∀ (r tk : List Int), F = tk ++ r → Comes (fun tk : List Int => match F.drop tk.length with
    | [] => ((-1 : Int), tk)
    | c :: _ => (c, tk ++ [c])) (fun _ => none) tk r none
  | [], tk, h => by
    have ed : F.drop tk.length = [] := by rw [h]; simp
    refine .stop rfl ?_
    rw [ed]
  | c :: r, tk, h => by
    have ed : F.drop tk.length = c :: r := by rw [h]; simp
    have hs := whole_comes F hv r (tk ++ [c]) (by rw [h]; simp)
    have e0 : (match F.drop tk.length with
      | [] => ((-1 : Int), tk)
      | c :: _ => (c, tk ++ [c])) = (c, tk ++ [c]) := by rw [ed]
    have := Comes.step (nxt := fun tk : List Int => match F.drop tk.length with
      | [] => ((-1 : Int), tk)
      | c :: _ => (c, tk ++ [c])) (bad := fun _ => none) (s := tk) (xs := r) (r := none) rfl (by rw [e0]; exact hv c (by rw [h]; simp)) (by rw [e0]; exact hs)
    rw [e0] at this
    exact this

set_option maxRecDepth 100000 in
theorem hash_none (m : Int) (s : ByteArray) (w : World) (h : m < 0 ∨ 3 < m) :
    Calls Tryz.prog 17 #[.int .i64 m, .string s] w fun e w' => e = .returned (.tuple #[.int .u64 0, .int .i64 1]) ∧ w' = w := by
  have HM : Hid (m < 0 ∨ 3 < m) := h
  clear h
  go_enter Tryz.func17, Tryz.ntmps17
  go_wp2_with (go_at_call 24; refine (of_none m _ HM.out).mono ?_; rintro e w' ⟨rfl, hw⟩; have hw' := hw.symm; subst hw'; clear hw)
  go_ret2
  exact ⟨rfl, rfl⟩

set_option maxRecDepth 100000 in
set_option maxHeartbeats 1600000 in
theorem hash_calls (m : Int) (s : ByteArray) (w : World) (h0 : 0 ≤ m) (h3 : m ≤ 3) (hE : Env w) (hbd : 864 * s.data.toList.length ≤ 1099511627776) :
    Calls Tryz.prog 17 #[.int .i64 m, .string s] w fun e w' => e = .returned (.tuple #[.int .u64 (hashL (keyL m s.data.toList)), .int .i64 0]) ∧ Fr (fun _ => False) w w' := by
  have hFv : ∀ c ∈ form m (codes s.data.toList), Valid c := form_valid (codes_valid _)
  obtain ⟨F, hF⟩ : ∃ F, F = form m (codes s.data.toList) := ⟨_, rfl⟩
  have HM : Hid (0 ≤ m ∧ m ≤ 3 ∧ 432 * s.data.toList.length ≤ 1099511627776) := ⟨h0, h3, by omega⟩
  have HE : Hid (Env w) := hE
  have hk : keyL m s.data.toList = utf8 F := by rw [hF]; rfl
  rw [hk]
  rw [← hF] at hFv
  have HF : Hid (F = form m (codes s.data.toList) ∧ ∀ c ∈ F, Valid c) := ⟨hF, hFv⟩
  obtain ⟨n, hn⟩ : ∃ n, (kindL m).length = n := ⟨_, rfl⟩
  have HN : Hid ((kindL m).length = n) := hn
  clear hE h0 h3 hbd hFv hF hk hn
  go_enter Tryz.func17, Tryz.ntmps17
  go_wp2_with (first
    | (go_at_call 24; refine (of_calls m _ HM.out.1 HM.out.2.1 HE.out).mono ?_; rintro e w1 ⟨b0, B, cs, rfl, p1, p2, p3, p4, p5, p6⟩; rw [HN.out] at p3 p4 ⊢; have HP : Hid (w.heap.size ≤ b0 ∧ w1.heap[b0]? = some (.cells cs 108 (0, 0)) ∧ cs.size = 8 * n ∧ Fresh cs B m n ∧ TabIn w1 b0 B ∧ Fr (fun _ => False) w w1) := ⟨p1, p2, p3, p4, p5, p6⟩; clear p1 p2 p3 p4 p5 p6)
    | (go_at_call 36; refine (newWhole_calls _ s).mono ?_; rintro e w2 ⟨rfl, hw2⟩; have HW2 : Hid (w2.heap[w1.heap.size]? = some (.cells #[.string s] 126 (0, 0)) ∧ Fr (fun _ => False) w1 w2) := ⟨hw2 ▸ heap_alloc_new w1 _, hw2 ▸ (Fr.refl _ _).alloc _⟩; clear hw2)
    | (go_at_call 25; refine (begin_calls (B := B) (cs := cs) (m := m) (s := s) HM.out.1 HM.out.2.1 HN.out ((HE.out.kept HP.out.2.2.2.2.2 (fun _ _ => id)).kept HW2.out.2 (fun _ _ => id)) (by have := HE.out.size; have := HP.out.1; omega) (Nat.le_of_lt (lt_of HP.out.2.1)) HW2.out.1 (HP.out.2.2.2.2.1.kept HW2.out.2 (fun _ _ => id)) HP.out.2.2.2.1 HM.out.2.2 ((HW2.out.2.block b0 (lt_of HP.out.2.1) id).trans HP.out.2.1) HP.out.2.2.1).mono ?_; rintro e w3 ⟨br, rfl, q1, q2⟩; rw [← HF.out.1] at q1; have HQ : Hid (RdIs w3 b0 br F [] (fun x => x = w1.heap.size ∨ w2.heap.size ≤ x) ∧ Fr (fun _ => False) w2 w3) := ⟨q1, q2⟩; clear q1 q2)
    | (go_at_call 29; refine (hashOf_calls (whole_fetcher b0 br F) (whole_comes F HF.out.2 F [] rfl) ⟨HQ.out.1, F, rfl⟩).mono ?_; rintro e w4 ⟨rfl, hf4⟩; have HF4 : Hid (Fr (fun x => x = w1.heap.size ∨ w2.heap.size ≤ x) w3 w4) := hf4; clear hf4))
  go_ret2
  refine ⟨rfl, ((HP.out.2.2.2.2.2.trans HW2.out.2 (fun _ _ h => h)).trans HQ.out.2 (fun _ _ h => h)).trans HF4.out (fun i hi h => ?_)⟩
  have s1 := HP.out.2.2.2.2.2.size
  have s2 := HW2.out.2.size
  omega

end Go.Proofs.YtmhaknejeobfgabGreatDoor

/- Laws1. -/
namespace Go.Proofs.YtmhaknejeobfgabGreatDoor
open Go.RowKit Go.Proofs.YtmhaknejeobfgabGreatDoor.Stable Go.Proofs.YtmhaknejeobfgabGreatDoor.Order Go.Proofs.YtmhaknejeobfgabGreatDoor.Points
attribute [local go_sem ↓] Go.wp_at_zero Go.wp_at_succ

set_option maxRecDepth 100000 in
theorem pick_calls (c : Int) (n : Nat) (w : World) (h0 : -9223372036854775808 ≤ c) (h1 : c ≤ 9223372036854775807) (hn : 0 < n) (hn2 : n ≤ 1099511627776) :
    Calls Tryz.prog 12 #[.int .i64 c, .int .i64 n] w fun e w' => ∃ r : Nat, e = .returned (.int .i64 r) ∧ r < n ∧ w' = w := by
  have hz : ((n : Int) == 0) = false := by rw [beq_eq_false_iff_ne]; omega
  have hne : ¬ ((n : Int) = 0) := by omega
  have hm1 : ¬ ((n : Int) = -1) := by omega
  rcases Int.lt_or_le c 0 with hc | hc
  · go_enter Tryz.func12, Tryz.ntmps12
    go_wp2
    go_ret
    have e : -((c + 1).tmod (n : Int)) = (-(c + 1)) % (n : Int) := by rw [← Int.neg_tmod, Int.tmod_eq_emod_of_nonneg (by omega)]
    have b0 := Int.emod_nonneg (-(c + 1)) (b := (n : Int)) (by omega)
    have b1 := Int.emod_lt_of_pos (-(c + 1)) (b := (n : Int)) (by omega)
    refine ⟨((-(c + 1)) % (n : Int)).toNat, ?_, by omega, rfl⟩
    rw [Int.toNat_of_nonneg b0, ← e]
    rfl
  · go_enter Tryz.func12, Tryz.ntmps12
    go_wp2
    go_ret
    have b0 := Int.emod_nonneg c (b := (n : Int)) (by omega)
    have b1 := Int.emod_lt_of_pos c (b := (n : Int)) (by omega)
    refine ⟨(c % (n : Int)).toNat, ?_, by omega, rfl⟩
    rw [Int.toNat_of_nonneg b0]
    rfl

theorem known_0 : keyL 0 [226, 132, 171] = [65, 204, 138] := by decide +kernel
theorem known_1 : keyL 1 [226, 132, 171] = [65, 204, 138] := by decide +kernel
theorem known_2 : keyL 2 [226, 132, 171] = [97, 204, 138] := by decide +kernel
theorem known_3 : keyL 3 [226, 132, 171] = [97, 204, 138] := by decide +kernel

set_option maxRecDepth 100000 in
theorem known_calls (m : Int) (w : World) (h0 : 0 ≤ m) (h3 : m ≤ 3) (hE : Env w) :
    Calls Tryz.prog 13 #[.int .i64 m] w fun e w' => e = .returned (.bool true) ∧ Fr (fun _ => False) w w' := by
  have hk := key_calls m ⟨#[226, 132, 171]⟩ w h0 h3 hE (by decide)
  rcases modes h0 h3 with rfl | rfl | rfl | rfl
  · have e : keyL 0 (⟨#[226, 132, 171]⟩ : ByteArray).data.toList = [65, 204, 138] := known_0
    rw [e] at hk
    have HK : Hid (Calls Tryz.prog 23 #[.int .i64 0, .string ⟨#[226, 132, 171]⟩] w fun e w' => e = .returned (.tuple #[.string ⟨#[65, 204, 138]⟩, .int .i64 0]) ∧ Fr (fun _ => False) w w') := hk
    clear hk e hE
    go_enter Tryz.func13, Tryz.ntmps13
    go_wp2_with (go_at_call 23; refine HK.out.mono ?_; rintro e w1 ⟨rfl, hf⟩)
    go_ret
    exact ⟨rfl, hf⟩
  · have e : keyL 1 (⟨#[226, 132, 171]⟩ : ByteArray).data.toList = [65, 204, 138] := known_1
    rw [e] at hk
    have HK : Hid (Calls Tryz.prog 23 #[.int .i64 1, .string ⟨#[226, 132, 171]⟩] w fun e w' => e = .returned (.tuple #[.string ⟨#[65, 204, 138]⟩, .int .i64 0]) ∧ Fr (fun _ => False) w w') := hk
    clear hk e hE
    go_enter Tryz.func13, Tryz.ntmps13
    go_wp2_with (go_at_call 23; refine HK.out.mono ?_; rintro e w1 ⟨rfl, hf⟩)
    go_ret
    exact ⟨rfl, hf⟩
  · have e : keyL 2 (⟨#[226, 132, 171]⟩ : ByteArray).data.toList = [97, 204, 138] := known_2
    rw [e] at hk
    have HK : Hid (Calls Tryz.prog 23 #[.int .i64 2, .string ⟨#[226, 132, 171]⟩] w fun e w' => e = .returned (.tuple #[.string ⟨#[97, 204, 138]⟩, .int .i64 0]) ∧ Fr (fun _ => False) w w') := hk
    clear hk e hE
    go_enter Tryz.func13, Tryz.ntmps13
    go_wp2_with (go_at_call 23; refine HK.out.mono ?_; rintro e w1 ⟨rfl, hf⟩)
    go_ret
    exact ⟨rfl, hf⟩
  · have e : keyL 3 (⟨#[226, 132, 171]⟩ : ByteArray).data.toList = [97, 204, 138] := known_3
    rw [e] at hk
    have HK : Hid (Calls Tryz.prog 23 #[.int .i64 3, .string ⟨#[226, 132, 171]⟩] w fun e w' => e = .returned (.tuple #[.string ⟨#[97, 204, 138]⟩, .int .i64 0]) ∧ Fr (fun _ => False) w w') := hk
    clear hk e hE
    go_enter Tryz.func13, Tryz.ntmps13
    go_wp2_with (go_at_call 23; refine HK.out.mono ?_; rintro e w1 ⟨rfl, hf⟩)
    go_ret
    exact ⟨rfl, hf⟩

/-- A list of numbers that came in. -/
def NumsIn (w : World) (a : Option Addr) (n : Nat) : Prop := ∀ j, j < n → ∃ b off z, a = some ⟨b, off, none⟩ ∧ w.cell? ⟨b, off + j, none⟩ = some (.int .i64 z) ∧ -9223372036854775808 ≤ z ∧ z ≤ 9223372036854775807 ∧ b < w.heap.size

theorem NumsIn.kept {w w' : World} {a : Option Addr} {n : Nat} (h : NumsIn w a n) (f : Fr (fun _ => False) w w') : NumsIn w' a n := fun j hj => by
  obtain ⟨b, off, z, h1, h2, h3, h4, h5⟩ := h j hj
  exact ⟨b, off, z, h1, f.cell id h5 h2, h3, h4, by have := f.size; omega⟩

end Go.Proofs.YtmhaknejeobfgabGreatDoor
