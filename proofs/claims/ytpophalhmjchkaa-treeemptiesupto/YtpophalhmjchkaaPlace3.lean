/-
  place, size and get of the nodes; the leaf where a key belongs; Get, Len and New.
-/
import Derived.Test.YtpophalhmjchkaaPlace2
import Derived.Deep.LoopGhost
namespace Go.Proofs.Ytpophalhmjchkaa
open Go.RowKit

theorem ta_ll (v : Value) (w : World) : (Instr.typeAssert (.iface 56 v) 61 56 true).run Try.prog w = .ok (.tuple #[v, .bool true]) w := by
  simp [Instr.typeAssert, run_underlying Try.underlying56]
theorem ta_il (v : Value) (w : World) : (Instr.typeAssert (.iface 66 v) 61 56 true).run Try.prog w = .ok (.tuple #[.pointer none, .bool false]) w := by
  simp [Instr.typeAssert, run_underlying Try.underlying56]
theorem ta_ii (v : Value) (w : World) : (Instr.typeAssert (.iface 66 v) 61 66 false).run Try.prog w = .ok v w := by
  simp [Instr.typeAssert, run_underlying Try.underlying66]

theorem lplace_any {AV : Avd} (b : Nat) (ps : List KV) (k : ByteArray) (w : World) (h : Lf w b ps) (hs : Srt ps) (hn : ps.length ≤ 1000) :
    Calls Try.prog 35 #[.pointer (some ⟨b, 0, none⟩), .string k] w fun e w' => e = .returned (.tuple #[.int .i64 (lbS (keysP ps) k : Int), .bool (fdS (keysP ps) k)]) ∧ Below w.heap.size w w' := by
  obtain ⟨a, c, h1, h2⟩ := h
  have c0 : w.cell? ⟨b, 0, none⟩ = some (.slice a ps.length c) := cell_blk h1 0
  have hb := bsf_any a c ps k w h2 hs (by omega)
  obtain ⟨L, hL⟩ : ∃ L, L = lbS (keysP ps) k := ⟨_, rfl⟩
  obtain ⟨F, hF⟩ : ∃ F, F = fdS (keysP ps) k := ⟨_, rfl⟩
  rw [← hL, ← hF] at hb ⊢
  clear h1 h2 hL hF hs
  go_enter Try.func35, Try.ntmps35
  go_wp2_with (go_at_call 45; refine Calls.mono hb ?_; rintro e w2 ⟨rfl, hb2⟩)
  go_ret2
  exact ⟨rfl, hb2⟩
theorem iplace_any {AV : Avd} {R : Value → T → Prop} (b : Nat) (bs : List ByteArray) (cs : List T) (k : ByteArray) (w : World) (h : InB' w R b bs cs) (hs : bs.Pairwise klt) (hn : bs.length ≤ 1000) :
    Calls Try.prog 34 #[.pointer (some ⟨b, 0, none⟩), .string k] w fun e w' => e = .returned (.int .i64 (pl bs k : Int)) ∧ Below w.heap.size w w' := by
  obtain ⟨a1, c1, a2, c2, vs, h1, h2, _⟩ := h
  have c0 : w.cell? ⟨b, 0, none⟩ = some (.slice a1 bs.length c1) := cell_blk h1 0
  have hb := bs_any a1 c1 bs k w h2 hs (by omega)
  have HP : Hid (pl bs k = if fdS bs k then lbS bs k + 1 else lbS bs k) := pl_lb hs k
  have hL4 : lbS bs k ≤ 1000 := Nat.le_trans (lbS_le bs k) hn
  obtain ⟨L, hL⟩ : ∃ L, L = lbS bs k := ⟨_, rfl⟩
  obtain ⟨F, hF⟩ : ∃ F, F = fdS bs k := ⟨_, rfl⟩
  rw [← hL, ← hF] at hb HP
  rw [← hL] at hL4
  clear h1 h2 hL hF hs
  cases F with
  | true =>
    go_enter Try.func34, Try.ntmps34
    go_wp2_with (go_at_call 44; refine Calls.mono hb ?_; rintro e w2 ⟨rfl, hb2⟩)
    go_ret
    exact ⟨ret_int (by rw [HP.out]; simp), hb2⟩
  | false =>
    go_enter Try.func34, Try.ntmps34
    go_wp2_with (go_at_call 44; refine Calls.mono hb ?_; rintro e w2 ⟨rfl, hb2⟩)
    go_ret
    exact ⟨ret_int (by rw [HP.out]; simp), hb2⟩
theorem lsize_any {AV : Avd} (b : Nat) (ps : List KV) (w : World) (h : Lf w b ps) :
    Calls Try.prog 48 #[.pointer (some ⟨b, 0, none⟩)] w fun e w' => e = .returned (.int .i64 (ps.length : Int)) ∧ w = w' := by
  obtain ⟨a, c, h1, h2⟩ := h
  have c0 : w.cell? ⟨b, 0, none⟩ = some (.slice a ps.length c) := cell_blk h1 0
  clear h1 h2
  go_enter Try.func48, Try.ntmps48
  go_wp2
  go_ret
  exact ⟨rfl, rfl⟩
theorem isize_any {AV : Avd} {R : Value → T → Prop} (b : Nat) (bs : List ByteArray) (cs : List T) (w : World) (h : InB' w R b bs cs) :
    Calls Try.prog 41 #[.pointer (some ⟨b, 0, none⟩)] w fun e w' => e = .returned (.int .i64 (cs.length : Int)) ∧ w = w' := by
  obtain ⟨a1, c1, a2, c2, vs, h1, h2, _⟩ := h
  have c0 : w.cell? ⟨b, 1, none⟩ = some (.slice a2 cs.length c2) := cell_blk h1 1
  clear h1 h2
  go_enter Try.func41, Try.ntmps41
  go_wp2
  go_ret
  exact ⟨rfl, rfl⟩

set_option maxHeartbeats 1000000 in
theorem lget_any {AV : Avd} (b : Nat) (ps : List KV) (k : ByteArray) (w : World) (h : Lf w b ps) (hs : Srt ps) (hn : ps.length ≤ 1000) :
    Calls Try.prog 22 #[.pointer (some ⟨b, 0, none⟩), .string k] w fun e w' => e = .returned (.tuple #[.string ((getL k ps).getD ⟨#[]⟩), .bool (getL k ps).isSome]) ∧ Below w.heap.size w w' := by
  have hp := lplace_any b ps k w h hs hn
  have hg := get_code (k := k) ps
  obtain ⟨a, c, h1, h2⟩ := h
  have hkl : (keysP ps).length = ps.length := by simp [keysP]
  obtain ⟨L, hL⟩ : ∃ L, L = lbS (keysP ps) k := ⟨_, rfl⟩
  cases hF : fdS (keysP ps) k with
  | true =>
    have hLl : L < ps.length := by
      rcases Nat.lt_or_ge (lbS (keysP ps) k) (keysP ps).length with h | h
      · omega
      · rw [fdS_no (by omega)] at hF; simp at hF
    rw [hF, if_pos rfl, ← hL, List.getElem?_eq_getElem hLl] at hg
    rw [hF, ← hL] at hp
    have HG : Hid (getL k ps = some (ps[L]).2) := hg
    have HCELL : Hid (∀ wr, Below w.heap.size w wr → ∃ bb off, a = some ⟨bb, off, none⟩ ∧ wr.cell? ⟨b, 0, none⟩ = some (.slice a ps.length c) ∧ wr.cell? ⟨bb, off + L * 2 + 1, none⟩ = some (.string (ps[L]).2)) := (by
      intro wr hb
      have hs' := h2.below hb
      obtain ⟨g1, g2⟩ := pcs_get hLl
      obtain ⟨l2, e2⟩ := List.getElem?_eq_some_iff.1 g2
      obtain ⟨bb, off, e, _, hc⟩ := hs'.at l2
      exact ⟨bb, off, e, cell_blk ((hb.block b (Array.getElem?_eq_some_iff.1 h1).1).trans h1) 0, by rw [Nat.add_assoc]; exact (hc _ l2).trans (by rw [e2])⟩)
    have hLi : (L : Int) < (ps.length : Int) := by omega
    rw [HG.out]
    clear h1 h2 hL hF hs hg hkl
    go_enter Try.func22, Try.ntmps22
    go_wp2_with fail
    refine Calls.mono hp ?_
    rintro e w2 ⟨rfl, hb2⟩
    obtain ⟨bb, off, rfl, c0, c1⟩ := HCELL.out w2 hb2
    clear HCELL hp
    go_wp2
    go_ret2
    exact ⟨rfl, hb2⟩
  | false =>
    rw [hF, if_neg (by simp)] at hg
    rw [hF, ← hL] at hp
    rw [hg]
    clear h1 h2 hL hF hs hg hkl
    go_enter Try.func22, Try.ntmps22
    go_wp2_with (go_at_call 35; refine Calls.mono hp ?_; rintro e w2 ⟨rfl, hb2⟩)
    go_ret2
    exact ⟨rfl, hb2⟩

/-- What a walk down a tree knows. -/
structure Dn [Avd] (w wr : World) (k : ByteArray) (L0 : List KV) (h : Nat) (v : Value) (t : T) : Prop where
  nd : Nd wr h v t
  val : ∃ lo hi, Val h lo hi t ∧ InB lo hi k
  sz : t.sz ≤ 8
  leaf : leafL k h t = L0
  old : Below w.heap.size w wr

set_option maxHeartbeats 2000000 in
set_option maxRecDepth 20000 in
theorem leafOf_any {AV : Avd} (v : Value) (k : ByteArray) (h : Nat) (t : T) (w : World) (hn : Nd w h v t) (hv : ∃ lo hi, Val h lo hi t ∧ InB lo hi k) (hz : t.sz ≤ 8) :
    Calls Try.prog 21 #[v, .string k] w fun e w' => ∃ b, e = .returned (.pointer (some ⟨b, 0, none⟩)) ∧ Lf w' b (leafL k h t) ∧ (leafL k h t).length ≤ 8 ∧ Below w.heap.size w w' := by
  obtain ⟨L0, hL0⟩ : ∃ L0, L0 = leafL k h t := ⟨_, rfl⟩
  rw [← hL0]
  have HD : Hid (Dn w w k L0 h v t) := ⟨hn, hv, hz, hL0.symm, Below.refl _ _⟩
  clear hn hv hz hL0
  go_enter Try.func21, Try.ntmps21
  go_wp2
  go_loopg [0] h (fun gf nv wx => ∃ t, Dn w wx k L0 gf nv t)
  case atStart => exact ⟨t, HD.out⟩
  case round =>
    obtain ⟨t, hd⟩ := hrel
    clear HD
    match gk, t, hd with
    | 0, .leaf ps, hd =>
      obtain ⟨b, rfl, hl⟩ := hd.nd
      have ht := ta_ll (.pointer (some ⟨b, 0, none⟩)) wr
      have hle : ps = L0 := hd.leaf
      have hsz : ps.length ≤ 8 := hd.sz
      have hold := hd.old
      clear hd
      go_wp2
      go_ret
      exact ⟨b, rfl, by rw [← hle]; exact hl, by rw [← hle]; exact hsz, hold⟩
    | g + 1, .inner bs cs, hd =>
      obtain ⟨b, rfl, hi⟩ := hd.nd
      have ht := ta_il (.pointer (some ⟨b, 0, none⟩)) wr
      have ht2 := ta_ii (.pointer (some ⟨b, 0, none⟩))
      obtain ⟨lo, hi', hv, hk⟩ := hd.val
      have hcs : cs.length ≤ 8 := hd.sz
      have hlen := hv.1.len
      have hpl := iplace_any b bs cs k wr.drew (hi.below (Below.refl _ wr).drew (fun _ _ h2 => h2)) (Row.rise (fun _ _ _ h => Val.lt h) hv.1).1 (by omega)
      obtain ⟨c, m1, m2, p1, p2, p3, p4, p5⟩ := hv.1.place k hk
      obtain ⟨i, hie⟩ : ∃ i, i = pl bs k := ⟨_, rfl⟩
      rw [← hie] at hpl p1
      obtain ⟨hil, p1'⟩ := List.getElem?_eq_some_iff.1 p1
      have hii := hi
      obtain ⟨a1, c1, a2, c2, vs, q1, q2, q3, q4⟩ := hii
      have hvl := q4.len
      have hiv : i < vs.length := by omega
      obtain ⟨bb, off, rfl, hbb, hcc⟩ := q3.at hiv
      have hcell := hcc i hiv
      have hnd := q4.get hiv hil
      rw [p1'] at hnd
      obtain ⟨x, hx⟩ : ∃ x, x = vs[i] := ⟨_, rfl⟩
      rw [← hx] at hcell hnd
      have hbl : b < wr.heap.size := (Array.getElem?_eq_some_iff.1 q1).1
      have k1 : wr.cell? ⟨b, 1, none⟩ = some (.slice (some ⟨bb, off, none⟩) cs.length c2) := cell_blk q1 1
      have k2 : wr.drew.cell? ⟨b, 1, none⟩ = some (.slice (some ⟨bb, off, none⟩) cs.length c2) := k1
      have k3 : wr.drew.cell? ⟨bb, off + i, none⟩ = some x := hcell
      have HK : Hid (∀ w5, Below wr.drew.heap.size wr.drew w5 → w5.cell? ⟨b, 1, none⟩ = some (.slice (some ⟨bb, off, none⟩) cs.length c2) ∧ w5.cell? ⟨bb, off + i, none⟩ = some x) := (by
        intro w5 hb5
        exact ⟨(hb5.cell (p := ⟨b, 1, none⟩) hbl).trans k1, (hb5.cell (p := ⟨bb, off + i, none⟩) hbb).trans hcell⟩)
      have hszc := hv.2 c (List.mem_of_getElem? p1)
      have HNX : Hid (∀ w5, Below wr.drew.heap.size wr.drew w5 → Dn w w5 k L0 g x c) := (by
        intro w5 hb5
        have hb : Below wr.heap.size wr w5 := (Below.refl _ wr).drew.trans hb5
        refine ⟨hnd.below hb, ⟨m1, m2, p3, p4⟩, hszc.2, ?_, hd.old.trans (hb.mono hd.old.size)⟩
        rw [← hd.leaf, leafL, ← hie, getD_of hil, p1'])
      have hili : (i : Int) < (cs.length : Int) := by omega
      clear hd hv hi p1 p2 p3 p4 p5 p1' q1 q2 q3 q4 hnd hszc hcc hbb hbl hie hx hvl hiv hlen hk
      go_wp2
      go_region_held3 (fun w' => w'.cell? ⟨b, 1, none⟩ = some (.slice (some ⟨bb, off, none⟩) cs.length c2) ∧ w'.cell? ⟨bb, off + i, none⟩ = some x) (go_keep)
        (first
          | (go_at_call 34; refine Calls.mono hpl ?_; rintro e w5 ⟨rfl, hb5⟩; have s0 := (HK.out w5 hb5).1; have s1 := (HK.out w5 hb5).2))
      have hdn := HNX.out w5 hb5
      clear HK HNX
      go_wp2
      go_roundg g
      case rel => exact ⟨c, hdn⟩
      case measure => omega
    | 0, .inner _ _, hd => exact hd.nd.elim
    | _ + 1, .leaf _, hd => exact hd.nd.elim

/-- A tree by its pointer. -/
def Tr [Avd] (w : World) (b h : Nat) (t : T) : Prop := ∃ v, w.heap[b]? = some (.cells #[v, .int .i64 ((toL h t).length : Int)] 63 (0, 0)) ∧ Nd w h v t ∧ Whole h t
theorem Tr.below {AV : Avd} {w w' : World} {b h : Nat} {t : T} (ht : Tr w b h t) (hb : Below w.heap.size w w') : Tr w' b h t := by
  obtain ⟨v, h1, h2, h3⟩ := ht
  exact ⟨v, (hb.block b (Array.getElem?_eq_some_iff.1 h1).1).trans h1, h2.below hb, h3⟩
theorem len_any {AV : Avd} (b h : Nat) (t : T) (w : World) (ht : Tr w b h t) :
    Calls Try.prog 19 #[.pointer (some ⟨b, 0, none⟩)] w fun e w' => e = .returned (.int .i64 ((toL h t).length : Int)) ∧ w = w' := by
  obtain ⟨v, h1, h2, h3⟩ := ht
  have c1 : w.cell? ⟨b, 1, none⟩ = some (.int .i64 ((toL h t).length : Int)) := cell_blk h1 1
  clear h1 h2 h3
  go_enter Try.func19, Try.ntmps19
  go_wp2
  go_ret
  exact ⟨rfl, rfl⟩
theorem get_any {AV : Avd} (b h : Nat) (t : T) (k : ByteArray) (w : World) (ht : Tr w b h t) :
    Calls Try.prog 10 #[.pointer (some ⟨b, 0, none⟩), .string k] w fun e w' => e = .returned (.tuple #[.string ((getL k (toL h t)).getD ⟨#[]⟩), .bool (getL k (toL h t)).isSome]) ∧ Below w.heap.size w w' := by
  obtain ⟨v, h1, h2, h3⟩ := ht
  have c0 : w.cell? ⟨b, 0, none⟩ = some v := cell_blk h1 0
  have hl := leafOf_any v k h t w h2 ⟨none, none, h3.val, inB_none k⟩ h3.max
  obtain ⟨g1, g2⟩ := leaf_get h3.val (inB_none k)
  rw [g2]
  have HG : Hid (∀ w2 b2, Below w.heap.size w w2 → Lf w2 b2 (leafL k h t) → (leafL k h t).length ≤ 8 → Calls Try.prog 22 #[.pointer (some ⟨b2, 0, none⟩), .string k] w2 fun e w' => e = .returned (.tuple #[.string ((getL k (leafL k h t)).getD ⟨#[]⟩), .bool (getL k (leafL k h t)).isSome]) ∧ Below w.heap.size w w') := (by
    intro w2 b2 hb hlf h8
    refine (lget_any b2 _ k w2 hlf g1 (by omega)).mono ?_
    rintro e w' ⟨rfl, hb2⟩
    exact ⟨rfl, hb.trans (hb2.mono hb.size)⟩)
  obtain ⟨x, hx⟩ : ∃ x, x = (getL k (leafL k h t)).getD ⟨#[]⟩ := ⟨_, rfl⟩
  obtain ⟨y, hy⟩ : ∃ y, y = (getL k (leafL k h t)).isSome := ⟨_, rfl⟩
  rw [← hx, ← hy] at HG ⊢
  clear h1 h2 h3 g1 g2 hx hy
  go_enter Try.func10, Try.ntmps10
  go_wp2_with (first
    | (go_at_call 21; refine Calls.mono hl ?_; rintro e w2 ⟨b2, rfl, hlf, h8, hb2⟩; have hg := HG.out w2 b2 hb2 hlf h8)
    | (go_at_call 22; refine Calls.mono hg ?_; rintro e w3 ⟨rfl, hb3⟩))
  go_ret2
  exact ⟨rfl, hb3⟩
theorem new_anyA {AV : Avd} (w : World) (hav : Av w) : Calls Try.prog 8 #[] w fun e w' => ∃ b, e = .returned (.pointer (some ⟨b, 0, none⟩)) ∧ Tr w' b 0 (.leaf []) ∧ Below w.heap.size w w' := by
  have h1 : (w.alloc (.cells #[.slice none 0 0] 59)).heap[w.heap.size]? = some (.cells #[.slice none 0 0] 59 (0, 0)) := heap_alloc_new w _
  have hB1 : Below w.heap.size w (w.alloc (.cells #[.slice none 0 0] 59)) := (Below.refl _ _).alloc (Nat.le_refl _) _
  have hn : Nd (w.alloc (.cells #[.slice none 0 0] 59)) 0 (.iface 56 (.pointer (some ⟨w.heap.size, 0, none⟩))) (.leaf []) := ⟨_, rfl, none, 0, h1, Sl.none (hav.below ((Below.refl _ w).alloc (Nat.le_refl _) _)) _⟩
  obtain ⟨W, hW⟩ : ∃ W, W = w.alloc (.cells #[.slice none 0 0] 59) := ⟨_, rfl⟩
  rw [← hW] at hn hB1
  have hsz : W.heap.size = w.heap.size + 1 := by rw [hW]; simp
  have hB2 : Below W.heap.size W (W.alloc (.cells #[.iface 56 (.pointer (some ⟨w.heap.size, 0, none⟩)), .int .i64 0] 63)) := (Below.refl _ _).alloc (Nat.le_refl _) _
  have hT : Tr (W.alloc (.cells #[.iface 56 (.pointer (some ⟨w.heap.size, 0, none⟩)), .int .i64 0] 63)) W.heap.size 0 (.leaf []) := ⟨_, heap_alloc_new W _, hn.below hB2, ⟨⟨LT_none, List.Pairwise.nil, by simp⟩, by show ([] : List KV).length ≤ 8; simp, .inl rfl⟩⟩
  have HE : Hid (Tr (W.alloc (.cells #[.iface 56 (.pointer (some ⟨w.heap.size, 0, none⟩)), .int .i64 0] 63)) (w.heap.size + 1) 0 (.leaf []) ∧ Below w.heap.size w (W.alloc (.cells #[.iface 56 (.pointer (some ⟨w.heap.size, 0, none⟩)), .int .i64 0] 63))) := ⟨by rw [← hsz]; exact hT, hB1.trans (hB2.mono hB1.size)⟩
  rw [hW] at HE
  clear hn hB1 hsz hB2 hT h1 hW
  go_enter Try.func8, Try.ntmps8
  go_wp2
  go_ret
  exact ⟨_, rfl, HE.out.1, HE.out.2⟩
theorem new_any (w : World) : Calls Try.prog 8 #[] w fun e w' => ∃ b, e = .returned (.pointer (some ⟨b, 0, none⟩)) ∧ @Tr avdNone w' b 0 (.leaf []) ∧ Below w.heap.size w w' := new_anyA (AV := avdNone) w (Av.none w)
end Go.Proofs.Ytpophalhmjchkaa
