/-
  To: the law's own copy of an element.
-/
import Derived.Test.YtohkocknpmnakaaGreatDoorRpH
import Derived.Deep.RegionLaw
namespace Go.Proofs.YtohkocknpmnakaaGreatDoor
open Go.RowKit

/-- Rows of elements that are not too long. -/
def Sml : Nat → List Nod → Prop
  | 0, _ => True
  | h + 1, ks => ks.length ≤ 65536 ∧ ∀ t ∈ ks, Sml h t.ks
/-- Elements in memory. -/
def Inm (h : Nat) (w : World) (a : Option Addr) (ks : List Nod) : Prop := Kd (fun _ => True) h w a ks
def ToQ (h : Nat) : Prop := ∀ (t : Nod) (a : Option Addr) (c : Nat) (W : World), Inm h W a t.ks → Sml h t.ks → Calls Tryz.prog 12 #[ndV t a c] W fun e w' => ∃ a' c', e = .returned (ndV t a' c') ∧ Kd (fun b => W.heap.size ≤ b) h w' a' t.ks ∧ Below W.heap.size W w'

/-- The three boxes of To: what came in, the answer, the copy. -/
structure Bxs (w wx : World) (q r : Nat) (n t : ByteArray) (s v : Value) : Prop where
  b0 : wx.heap[w.heap.size]? = some (.cells #[.string n, .string t, s] 24 (0, 0))
  b1 : Bn wx q (.string ⟨#[]⟩) (.string ⟨#[]⟩) (.slice none 0 0)
  b2 : Bn wx r (.string n) (.string t) v
  lo : Below w.heap.size w wx
  sz : w.heap.size + 3 ≤ wx.heap.size
  eq : q = w.heap.size + 1
  er : r = w.heap.size + 2
theorem Bxs.start (w : World) (n t : ByteArray) (s : Value) : Bxs w (((w.alloc (.cells #[.string n, .string t, s] 24)).alloc (.cells #[.string ⟨#[]⟩, .string ⟨#[]⟩, .slice none 0 0] 30)).alloc (.cells #[.string n, .string t, .slice none 0 0] 30)) (w.heap.size + 1) (w.heap.size + 1 + 1) n t s (.slice none 0 0) := by
  have e1 : (w.alloc (.cells #[.string n, .string t, s] 24)).heap.size = w.heap.size + 1 := by show (w.heap.push _).size = _; simp
  have e2 : ((w.alloc (.cells #[.string n, .string t, s] 24)).alloc (.cells #[.string ⟨#[]⟩, .string ⟨#[]⟩, .slice none 0 0] 30)).heap.size = w.heap.size + 2 := by show ((w.heap.push _).push _).size = _; simp
  have e3 : (((w.alloc (.cells #[.string n, .string t, s] 24)).alloc (.cells #[.string ⟨#[]⟩, .string ⟨#[]⟩, .slice none 0 0] 30)).alloc (.cells #[.string n, .string t, .slice none 0 0] 30)).heap.size = w.heap.size + 3 := by show (((w.heap.push _).push _).push _).size = _; simp
  have h1 := heap_alloc_new w (.cells #[.string n, .string t, s] 24)
  have h2 := heap_alloc_new (w.alloc (.cells #[.string n, .string t, s] 24)) (.cells #[.string ⟨#[]⟩, .string ⟨#[]⟩, .slice none 0 0] 30)
  have h3 := heap_alloc_new ((w.alloc (.cells #[.string n, .string t, s] 24)).alloc (.cells #[.string ⟨#[]⟩, .string ⟨#[]⟩, .slice none 0 0] 30)) (.cells #[.string n, .string t, .slice none 0 0] 30)
  rw [e1] at h2
  rw [e2] at h3
  refine ⟨?_, ?_, h3, ?_, by omega, rfl, rfl⟩
  · rw [Below.heap_alloc _ _ _ (by omega), Below.heap_alloc _ _ _ (by omega)]
    exact h1
  · exact (Below.heap_alloc _ _ _ (by omega)).trans h2
  · exact (((Below.refl _ _).alloc (Nat.le_refl _) _).alloc (by omega) _).alloc (by omega) _
theorem Bxs.below {w wx wy : World} {q r : Nat} {n t : ByteArray} {s v : Value} (h : Bxs w wx q r n t s v) (hb : Below wx.heap.size wx wy) : Bxs w wy q r n t s v := by
  have hz := h.sz
  have h1 := h.eq
  have h2 := h.er
  exact ⟨(hb.block _ (by omega)).trans h.b0, (hb.block _ (by omega)).trans h.b1, (hb.block _ (by omega)).trans h.b2, h.lo.trans (hb.mono (by omega)), by have := hb.size; omega, h1, h2⟩
theorem Bxs.grown {w wx wy : World} {q r : Nat} {n t : ByteArray} {s v : Value} {row : Option Nat} (h : Bxs w wx q r n t s v) (hg : wx.grownBy wy row) (hr : ∀ j, row = some j → w.heap.size + 3 ≤ j) : Bxs w wy q r n t s v := by
  have hm := Md.ofGrown hg
  have h1 := h.eq
  have h2 := h.er
  exact ⟨keep_blk h.b0 hm (fun e => by have := hr _ e; omega), h.b1.keep hm (fun e => by have := hr _ e; omega), h.b2.keep hm (fun e => by have := hr _ e; omega), h.lo.grown hg (by have := h.sz; omega) (fun k e => by have := hr k e; omega), by have := hm.size; have := h.sz; omega, h1, h2⟩
theorem Bxs.kids {w wx : World} {q r : Nat} {n t : ByteArray} {s v : Value} (h : Bxs w wx q r n t s v) (v' : Value) : Bxs w (wx.setCell ⟨r, 2, none⟩ v') q r n t s v' := by
  have hm : Md (fun b => b = r) wx (wx.setCell ⟨r, 2, none⟩ v') := (Md.refl (fun b => b = r) _).set (.inl rfl) _ _
  have h1 := h.eq
  have h2 := h.er
  exact ⟨keep_blk h.b0 hm (by omega), h.b1.keep hm (by omega), (set_blk h.b2 2 _).trans rfl, h.lo.setCell (by show _ ≤ r; omega) _, by have := hm.size; have := h.sz; omega, h1, h2⟩

theorem Inm.below {h : Nat} {w w' : World} {a : Option Addr} {ks : List Nod} (hi : Inm h w a ks) (hb : Below w.heap.size w w') : Inm h w' a ks :=
  Kd.keep hb.size (fun b _ hlt => hb.block b hlt) hi

set_option maxRecDepth 20000 in
set_option maxHeartbeats 3200000 in
theorem to_step (h : Nat) (t : Nod) (a : Option Addr) (c : Nat) (W : World) (hi : Inm (h + 1) W a t.ks) (hlen : t.ks.length ≤ 65536)
    (HT : ∀ t' ∈ t.ks, ∀ a c W', Inm h W' a t'.ks → Calls Tryz.prog 12 #[ndV t' a c] W' fun e w' => ∃ a' c', e = .returned (ndV t' a' c') ∧ Kd (fun b => W'.heap.size ≤ b) h w' a' t'.ks ∧ Below W'.heap.size W' w') :
    Calls Tryz.prog 12 #[ndV t a c] W fun e w' => ∃ a' c', e = .returned (ndV t a' c') ∧ Kd (fun b => W.heap.size ≤ b) (h + 1) w' a' t.ks ∧ Below W.heap.size W w' := by
  obtain ⟨ks, hks⟩ : ∃ ks, ks = t.ks := ⟨_, rfl⟩
  obtain ⟨n, hn⟩ : ∃ n : ByteArray, n = ⟨t.nm.toArray⟩ := ⟨_, rfl⟩
  obtain ⟨x, hx⟩ : ∃ x : ByteArray, x = ⟨t.tx.toArray⟩ := ⟨_, rfl⟩
  unfold ndV
  rw [← hks] at hi hlen HT ⊢
  rw [← hn, ← hx]
  have HI : Hid (Inm (h + 1) W a ks) := hi
  have HTQ := (show Hid (∀ j (hj : j < ks.length), ∀ a c W', Inm h W' a (ks[j]).ks → Calls Tryz.prog 12 #[ndV (ks[j]) a c] W' fun e w' => ∃ a' c', e = .returned (ndV (ks[j]) a' c') ∧ Kd (fun b => W'.heap.size ≤ b) h w' a' (ks[j]).ks ∧ Below W'.heap.size W' w') from fun j hj => HT _ (List.getElem_mem hj))
  obtain ⟨i0, hii, hz0, hz1, hz2⟩ := info_parts info30
  obtain ⟨w0, hw0⟩ : ∃ w0, w0 = ((W.alloc (.cells #[.string n, .string x, .slice a ks.length c] 24)).alloc (.cells #[.string ⟨#[]⟩, .string ⟨#[]⟩, .slice none 0 0] 30)).alloc (.cells #[.string n, .string x, .slice none 0 0] 30) := ⟨_, rfl⟩
  have H0 : Hid (Bxs W w0 (W.heap.size + 1) (W.heap.size + 1 + 1) n x (.slice a ks.length c) (.slice none 0 0)) := by
    rw [hw0]
    exact Bxs.start W n x _
  clear hi HT hks hn hx
  go_enter Tryz.func12, Tryz.ntmps12
  go_wp2
  rw [← hw0]
  clear hw0
  generalize hr : W.heap.size + 1 + 1 = r at H0 ⊢
  generalize hq : W.heap.size + 1 = q at H0 ⊢
  obtain ⟨p, hp⟩ : ∃ p, p = W.heap.size := ⟨_, rfl⟩
  have HQ : Hid (p = W.heap.size) := hp
  rw [← hp]
  clear hr hq hp
  go_loopw [4] (fun i wx => ∃ (k : Nat) (v : Value), k ≤ ks.length ∧ i = .int .i64 k ∧ Bxs W wx q r n x (.slice a ks.length c) v ∧ KR 30 (fun b => W.heap.size + 3 ≤ b ∧ v.ownBlock ≠ some b) h wx (W.heap.size + 3) v (ks.take k)) (fun i _ => ks.length - (intOf i).toNat)
  case atStart => exact ⟨0, .slice none 0 0, Nat.zero_le _, rfl, H0.out, KR.nil _ _ _ _ _⟩
  case round =>
    obtain ⟨k, v, hkl, rfl, hbx, hkr⟩ := hrel
    have hb0 := hbx.b0
    rw [← HQ.out] at hb0
    have c2 : wr.cell? ⟨p, 2, none⟩ = some (.slice a ks.length c) := cell_blk hb0 2
    obtain ⟨⟨r0, r1, r2⟩, -, -, rf2⟩ := hbx.b2.cells
    have hrz : r < wr.heap.size := blk_lt hbx.b2
    have hpz : p < wr.heap.size := blk_lt hb0
    by_cases hlt : k < ks.length
    · have htl : (ks.take k).length = k := by rw [List.length_take]; omega
      obtain ⟨hsx, hlh, hown, hks⟩ := hkr
      rw [htl] at hown hlh
      obtain ⟨av, cv, hv⟩ := own_slice hown
      subst hv
      rcases HI.out with hnil | ⟨b, off, rfl, -, hbW, hcs⟩
      · rw [hnil] at hlt
        exact absurd hlt (by simp)
      obtain ⟨ak, ck, l0, l1, l2, hkd⟩ := hcs k hlt
      have hbz : b < wr.heap.size := by have := hbx.lo.size; omega
      have e0 := (hbx.lo.cell (p := ⟨b, off + k * 3, none⟩) hbW).trans l0
      have e1 := (hbx.lo.cell (p := ⟨b, off + k * 3 + 1, none⟩) hbW).trans l1
      have e2 := (hbx.lo.cell (p := ⟨b, off + k * 3 + 2, none⟩) hbW).trans l2
      have KEl := HTQ.out k hlt ak ck
      have HKd : Hid (Inm h W ak (ks[k]).ks) := hkd
      have htk : ks.take (k + 1) = ks.take k ++ [ks[k]] := List.take_succ_eq_append_getElem hlt
      have HTK : Hid (ks.take (k + 1) = ks.take k ++ [ks[k]] ∧ (ks.take k).length = k) := ⟨htk, htl⟩
      obtain ⟨t', ht'⟩ : ∃ t', t' = ks[k] := ⟨_, rfl⟩
      rw [← ht'] at e0 e1 e2 KEl HKd HTK
      unfold ndV at KEl
      have HKS := (show Hid (∀ j (hj : j < (ks.take k).length), Kd (fun b => W.heap.size + 3 ≤ b ∧ (Value.slice av k cv).ownBlock ≠ some b) h wr (hsx[j]'(by omega)).1 ((ks.take k)[j]).ks) from hks)
      have HOW : Hid (wr.ownsRow (W.heap.size + 3) 30 3 (.slice av k cv) k (ncs (ks.take k) hsx) ∧ hsx.length = k) := ⟨hown, hlh⟩
      have HB : Hid (Bxs W wr q r n x (.slice (some ⟨b, off, none⟩) ks.length c) (.slice av k cv)) := hbx
      have hrow : ∀ j, (Value.slice av k cv).ownBlock = some j → W.heap.size + 3 ≤ j ∧ j < wr.heap.size := fun j hj => ⟨(hown.lt j hj).1, (hown.lt j hj).2⟩
      have hW3 := hbx.sz
      have hInm : Inm h wr ak t'.ks := HKd.out.below hbx.lo
      have hInmD : Inm h wr.drew ak t'.ks := HKd.out.below (hbx.lo.drew)
      have HC := (show Hid (∀ w', Below wr.heap.size wr w' → w'.cell? ⟨p, 2, none⟩ = some (.slice (some ⟨b, off, none⟩) ks.length c) ∧ w'.cell? ⟨r, 2, none⟩ = some (.slice av k cv) ∧ r < w'.heap.size) from fun w' hh => ⟨(hh.cell (p := ⟨p, 2, none⟩) hpz).trans c2, (hh.cell (p := ⟨r, 2, none⟩) hrz).trans r2, by have := hh.size; omega⟩)
      have HNG := (show Hid (∀ X w5, Below wr.heap.size wr X → X.grownBy w5 (Value.slice av k cv).ownBlock → w5.cell? ⟨r, 2, none⟩ = some (.slice av k cv) ∧ w5.frozen? ⟨r, 2, none⟩ = false) from fun X w5 hm hg => by
        have hb := ((HB.out.below hm).grown hg (fun j hj => (hrow j hj).1)).b2
        exact ⟨hb.cells.1.2.2, hb.cells.2.2.2⟩)
      have hkI : (k : Int) < (ks.length : Int) := by omega
      have hk6 : k < 65536 := by omega
      clear hbx hown hks hkd l0 l1 l2 hb0 htk htl ht' r0 r1
      go_wp2_with fail
      go_region_law
        (first
          | (refine step_append_two rfl (.tmp 18) (.tmp 25) 28 rfl (W.heap.size + 3) 30 i0 (.agg #[.string ⟨#[]⟩, .string ⟨#[]⟩, .slice none 0 0]) 3 56 Tryz.underlying28 hii hz0 hz1 hz2 rfl (by decide) _ _ _ rfl (own_md HOW.out.1 (Md.ofBelow (F := fun _ => False) hmX) (fun j hj e => e)) ⟨w3.heap.size, 0, none⟩ 1 1 [.string ⟨t'.nm.toArray⟩, .string ⟨t'.tx.toArray⟩, .slice a2 t'.ks.length c2] rfl rfl (cell_three_new w3 _ _ _ _) (three_one _ _ _ _ _) (by unfold maxLen; omega) (by omega) hbX ?_; intro v5 w5 hown5 hgrow5 hvb5; have g5 := HNG.out _ w5 hmX hgrow5; have k5 := g5.1; have j5 := g5.2; obtain ⟨a5, c5, rfl⟩ := own_slice hown5)
          | (go_simp; go_at_call 12; (with_reducible refine Calls.mono (KEl _ ?_) ?_); (first | exact hInm | exact hInmD); rintro e w3 ⟨a2, c2, rfl, hkd3, hb3'⟩; have hb3 : Below wr.heap.size wr w3 := (by first | exact hb3' | exact ((Below.refl _ _).drew).trans hb3'); have s3 := HC.out w3 hb3; have r3 := s3.2.1; have z3 := s3.2.2; have hmX : Below wr.heap.size wr (w3.alloc (.cells #[.string ⟨t'.nm.toArray⟩, .string ⟨t'.tx.toArray⟩, .slice a2 t'.ks.length c2] 30)) := hb3.alloc hb3.size _; have hbX : W.heap.size + 3 ≤ (w3.alloc (.cells #[.string ⟨t'.nm.toArray⟩, .string ⟨t'.tx.toArray⟩, .slice a2 t'.ks.length c2] 30)).heap.size := Nat.le_trans hW3 hmX.size))
      all_goals
        have hC5 := ((HB.out.below hmX).grown hgrow5 (fun j hj => (hrow j hj).1)).kids (.slice a5 (k + 1) c5)
        have hK5 : KR 30 (fun b => W.heap.size + 3 ≤ b ∧ (Value.slice a5 (k + 1) c5).ownBlock ≠ some b) h (w5.setCell ⟨r, 2, none⟩ (.slice a5 (k + 1) c5)) (W.heap.size + 3) (.slice a5 (k + 1) c5) (ks.take (k + 1)) := by
          have e := HTK.out.2
          have her := HB.out.er
          rw [HTK.out.1]
          obtain ⟨g, cap, hv, hg1, -⟩ := own_at hown5
          rw [hv] at hown5 hvb5 ⊢
          have hs4 : wr.drew.heap.size = wr.heap.size := rfl
          have h1 : Kd (fun b => W.heap.size + 3 ≤ b ∧ (Value.slice av k cv).ownBlock ≠ some b) h w3 a2 t'.ks := hkd3.mono (fun b hb _ => ⟨by omega, fun e => by have := (hrow b e).2; omega⟩)
          have hX := own_md hown5 ((Md.refl (fun b => b = r) w5).set (.inl rfl) 2 (.slice (some ⟨g, 0, none⟩) (k + 1) cap)) (fun j hj e => by
            simp only [Value.ownBlock, Option.some.injEq] at hj
            omega)
          have hG := kr_grow (ks := ks.take k) (F := fun _ => False) (F2 := fun b => b = r) (L := W.heap.size + 3) (base := W.heap.size + 3) (v := .slice av k cv) (g := g) (cap := cap) (WF := w5.setCell ⟨r, 2, none⟩ (.slice (some ⟨g, 0, none⟩) (k + 1) cap)) (by rw [e]; exact HOW.out.2) HKS.out (h1.md (Md.alloc (Md.refl (fun _ => False) w3) (.cells #[.string ⟨t'.nm.toArray⟩, .string ⟨t'.tx.toArray⟩, .slice a2 t'.ks.length c2] 30)) (fun _ _ _ h => h)) (Md.ofBelow hmX) (fun _ _ _ _ h => h) hgrow5 (by rw [e]; exact hvb5) ((Md.refl _ w5).set (.inl (.inr rfl)) _ _) (fun b h1 e => by omega) (by rw [e]; exact hX)
          rw [e] at hG
          exact hG
        generalize w5.setCell ⟨r, 2, none⟩ (.slice a5 (k + 1) c5) = WF at hC5 hK5 ⊢
        have HZ : Hid (Bxs W WF q r n x (.slice (some ⟨b, off, none⟩) ks.length c) (.slice a5 (k + 1) c5) ∧ KR 30 (fun b => W.heap.size + 3 ≤ b ∧ (Value.slice a5 (k + 1) c5).ownBlock ≠ some b) h WF (W.heap.size + 3) (.slice a5 (k + 1) c5) (ks.take (k + 1))) := ⟨hC5, hK5⟩
        clear hC5 hK5 hown5 hgrow5 hvb5 g5 k5 j5 hmX hbX hb3 hb3' s3 r3 z3 hkd3 e0 e1 e2 r2 rf2
        go_wp2
        exact ⟨⟨k + 1, _, by omega, by go_num, HZ.out.1, HZ.out.2⟩, by simp only [intOf]; omega⟩
    · obtain rfl : k = ks.length := by omega
      rw [List.take_length] at hkr
      obtain ⟨av, cv, hv⟩ := hkr.slice
      subst hv
      obtain ⟨⟨q0, q1, q2⟩, g0, g1, g2⟩ := hbx.b1.cells
      have HZ : Hid (Bxs W wr q r n x (.slice a ks.length c) (.slice av ks.length cv) ∧ Kd (fun b => W.heap.size + 3 ≤ b) (h + 1) wr av ks) := by
        have hk2 : KR 30 (fun b => W.heap.size + 3 ≤ b) h wr (W.heap.size + 3) (.slice av ks.length cv) ks := by
          obtain ⟨hs, hl, ho, hk2⟩ := hkr
          exact ⟨hs, hl, ho, fun j hj => (hk2 j hj).mono (fun b hb _ => hb.1)⟩
        exact ⟨hbx, (hk2.kd (fun b hb _ _ => hb)).2⟩
      have hqr : q ≠ r := by have := hbx.eq; have := hbx.er; omega
      clear hbx hkr hb0
      go_wp2
      have hmq : Md (fun b => b = q) wr (((wr.setCell ⟨q, 0, none⟩ (.string n)).setCell ⟨q, 1, none⟩ (.string x)).setCell ⟨q, 2, none⟩ (.slice av ks.length cv)) := ((((Md.refl (fun b => b = q) _).set (.inl rfl) _ _).set (.inl rfl) _ _).set (.inl rfl) _ _)
      have heq := HZ.out.1.eq
      refine bodyPost_ret (results_cell_row rfl _ _ q 30 #[.string n, .string x, .slice av ks.length cv] (0, 0) _ rfl (HZ.out.1.b1.set _ _ _) Tryz.underlying30 rfl size30) rfl ⟨av, cv, rfl, ?_, ?_⟩
      · exact (HZ.out.2.md hmq (fun b _ hg e => by omega)).mono (fun b hb _ => by omega)
      · exact ((HZ.out.1.lo.setCell (by show _ ≤ q; omega) _).setCell (by show _ ≤ q; omega) _).setCell (by show _ ≤ q; omega) _

theorem toq_all : ∀ h, ToQ h
  | 0 => fun t a c W hk _ => by
    have hks : t.ks = [] := hk
    refine (to_step 0 t a c W (by rw [hks]; exact Kd.nil _ _ _ _) (by rw [hks]; simp) (fun t' ht => by rw [hks] at ht; cases ht)).mono ?_
    rintro e w' ⟨a', c', rfl, -, hb⟩
    exact ⟨a', c', rfl, by rw [hks]; exact Kd.nil _ _ _ _, hb⟩
  | h + 1 => fun t a c W hk hs => to_step h t a c W hk hs.1 (fun t' ht a c W' hi => toq_all h t' a c W' hi (hs.2 t' ht))
end Go.Proofs.YtohkocknpmnakaaGreatDoor
