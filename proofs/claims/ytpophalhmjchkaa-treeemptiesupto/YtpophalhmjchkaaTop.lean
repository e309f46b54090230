/-
  The root of what a change leaves: its height, and the walk that finds it.
-/
import Derived.Test.YtpophalhmjchkaaMend
namespace Go.Proofs.Ytpophalhmjchkaa
open Go.RowKit

theorem mend_any {AV : Avd} (b h : Nat) (bs : List ByteArray) (cs : List T) (i : Nat) (lo hi : Option ByteArray) (w : World) (hr : Rw w h b (bs, cs)) (hv : Row (Val h) lo bs cs hi) (hi' : i < cs.length) (h2 : 2 ≤ cs.length) (hn : cs.length ≤ 20) (hs : ∀ c ∈ cs, c.sz ≤ 8) :
    Calls Try.prog 38 #[.pointer (some ⟨b, 0, none⟩), .int .i64 (i : Int)] w fun e w' => ∃ b', e = .returned (.pointer (some ⟨b', 0, none⟩)) ∧ Rw w' h b' (mendR (bs, cs) i) ∧ Below w.heap.size w w' := by
  match h, hr, hv with
  | 0, hr, hv => exact mend_leaf b bs cs i lo hi w hr hv hi' h2 hn hs
  | h + 1, hr, hv => exact mend_inner b h bs cs i lo hi w hr hv hi' h2 hn hs

def topN : Nat → T → Nat
  | h + 1, .inner _ [c] => topN h c
  | h, _ => h
theorem top_at {h : Nat} {c : T} {lo hi : Option ByteArray} (hv : Val h lo hi c) (hs : 4 ≤ c.sz) : topT h c = c ∧ topN h c = h := by
  match h, c, hv, hs with
  | 0, .leaf _, _, _ => exact ⟨rfl, rfl⟩
  | h + 1, .inner _ [c3], _, hs => have : 4 ≤ [c3].length := hs; simp at this
  | h + 1, .inner _ [], _, _ => exact ⟨rfl, rfl⟩
  | h + 1, .inner _ (_ :: _ :: _), _, _ => exact ⟨rfl, rfl⟩
  | 0, .inner _ _, hr, _ => exact hr.elim
  | _ + 1, .leaf _, hr, _ => exact hr.elim
theorem chg_top {k : ByteArray} {E : List KV → List KV} (hE : Edit k E) {h : Nat} {t : T} (hw : Whole h t) :
    Whole (topN (h + 1) (.inner (chgT k E h t).1 (chgT k E h t).2)) (topT (h + 1) (.inner (chgT k E h t).1 (chgT k E h t).2)) ∧ toL (topN (h + 1) (.inner (chgT k E h t).1 (chgT k E h t).2)) (topT (h + 1) (.inner (chgT k E h t).1 (chgT k E h t).2)) = E (toL h t) := by
  have hc := chg_val hE hw.val (inB_none k) hw.max hw.min
  rcases hc.shape with ⟨c, e, h1, h2, h3⟩ | ⟨b, x, y, e, hx, hy⟩
  · rw [e]
    have hv : Val h none none c := by have := hc.row; rw [e] at this; exact this
    have hl : toL h c = E (toL h t) := by have := hc.list; rw [e] at this; simpa using this
    show Whole (topN h c) (topT h c) ∧ toL (topN h c) (topT h c) = _
    match h, c, hv with
    | 0, .leaf ps, hv => exact ⟨⟨hv, h2, .inl rfl⟩, hl⟩
    | h + 1, .inner bs [c2], hv =>
      have hs := hv.2 c2 List.mem_cons_self
      have hr := hv.1
      match bs, hr with
      | [], hr =>
        show Whole (topN h c2) (topT h c2) ∧ toL (topN h c2) (topT h c2) = _
        have ht := top_at hr hs.1
        rw [ht.1, ht.2]
        exact ⟨⟨hr, hs.2, .inr (by omega)⟩, by rw [← hl]; simp [toL]⟩
      | _ :: _, hr => have := Row.len hr; simp at this
    | h + 1, .inner bs [], hv => have := Row.len hv.1; simp at this
    | h + 1, .inner bs (c1 :: c2 :: cs), hv => exact ⟨⟨hv, h2, .inr (by show 2 ≤ (c1 :: c2 :: cs).length; simp)⟩, hl⟩
    | 0, .inner _ _, hv => exact hv.elim
    | _ + 1, .leaf _, hv => exact hv.elim
  · rw [e]
    have hr := hc.row
    have hl := hc.list
    rw [e] at hr hl
    exact ⟨⟨⟨hr, fun c hcm => by
      simp only [List.mem_cons, List.not_mem_nil, or_false] at hcm
      rcases hcm with rfl | rfl
      · exact hx
      · exact hy⟩, by show 2 ≤ 8; omega, .inr (by show 2 ≤ 2; omega)⟩, hl⟩

/-- Of an inner node: its children are valid. -/
def RV : Nat → T → Prop
  | h + 1, .inner bs cs => ∃ lo hi, Row (Val h) lo bs cs hi
  | _, _ => True
theorem Val.rv : ∀ {h : Nat} {lo hi : Option ByteArray} {t : T}, Val h lo hi t → RV h t
  | 0, _, _, .leaf _, _ => trivial
  | _ + 1, _, _, .inner _ _, hv => ⟨_, _, hv.1⟩
  | 0, _, _, .inner _ _, hv => hv.elim
  | _ + 1, _, _, .leaf _, hv => hv.elim
theorem ta_lx (v : Value) (w : World) : (Instr.typeAssert (.iface 56 v) 61 66 true).run Try.prog w = .ok (.tuple #[.pointer none, .bool false]) w := by
  simp [Instr.typeAssert, run_underlying Try.underlying66]
theorem ta_ix (v : Value) (w : World) : (Instr.typeAssert (.iface 66 v) 61 66 true).run Try.prog w = .ok (.tuple #[v, .bool true]) w := by
  simp [Instr.typeAssert, run_underlying Try.underlying66]

structure Tp [Avd] (w wr : World) (N0 : Nat) (T0 : T) (h : Nat) (v : Value) (t : T) : Prop where
  nd : Nd wr h v t
  rv : RV h t
  top : topT h t = T0
  hgt : topN h t = N0
  old : Below w.heap.size w wr

theorem tp_next {AV : Avd} {w wr : World} {N0 g : Nat} {T0 : T} {v x : Value} {bs : List ByteArray} {cs : List T} {lo hi : Option ByteArray} (hd : Tp w wr N0 T0 (g + 1) v (.inner bs cs)) (hv : Row (Val g) lo bs cs hi) (h1 : ¬ 1 < cs.length) (h0 : 0 < cs.length) (hnd : Nd wr g x cs[0]) : ∃ t, Tp w wr N0 T0 g x t := by
  match cs, bs, h1, h0, hv, hd, hnd with
  | [c], [], _, _, hv, hd, hnd => exact ⟨c, hnd, Val.rv (lo := lo) (hi := hi) hv, hd.top, hd.hgt, hd.old⟩
  | [_], _ :: _, _, _, hv, _, _ => have := Row.len hv; simp at this
  | _ :: _ :: _, _, h1, _, _, _, _ => simp at h1
set_option maxHeartbeats 2000000 in
set_option maxRecDepth 20000 in
theorem top_any {AV : Avd} (b h : Nat) (bs : List ByteArray) (cs : List T) (lo hi : Option ByteArray) (w : World) (hr : Rw w h b (bs, cs)) (hv : Row (Val h) lo bs cs hi) :
    Calls Try.prog 26 #[.pointer (some ⟨b, 0, none⟩)] w fun e w' => ∃ v, e = .returned v ∧ Nd w' (topN (h + 1) (.inner bs cs)) v (topT (h + 1) (.inner bs cs)) ∧ Below w.heap.size w w' := by
  obtain ⟨T0, hT0⟩ : ∃ T0, T0 = topT (h + 1) (.inner bs cs) := ⟨_, rfl⟩
  obtain ⟨N0, hN0⟩ : ∃ N0, N0 = topN (h + 1) (.inner bs cs) := ⟨_, rfl⟩
  rw [← hT0, ← hN0]
  have HD : Hid (Tp w w N0 T0 (h + 1) (.iface 66 (.pointer (some ⟨b, 0, none⟩))) (.inner bs cs)) := ⟨⟨b, rfl, hr⟩, ⟨lo, hi, hv⟩, hT0.symm, hN0.symm, Below.refl _ _⟩
  clear hr hv hT0 hN0
  go_enter Try.func26, Try.ntmps26
  go_wp2
  go_loopg [3] (h + 1) (fun gf nv wx => ∃ t, Tp w wx N0 T0 gf nv t)
  case atStart => exact ⟨_, HD.out⟩
  case round =>
    obtain ⟨t, hd⟩ := hrel
    clear HD
    match gk, t, hd with
    | 0, .leaf ps, hd =>
      obtain ⟨b, rfl, hl⟩ := hd.nd
      have ht := fun w => ta_lx (.pointer (some ⟨b, 0, none⟩)) w
      have HE : Hid (Nd wr N0 (.iface 56 (.pointer (some ⟨b, 0, none⟩))) T0 ∧ Below w.heap.size w wr) := ⟨by rw [← hd.top, ← hd.hgt]; exact ⟨b, rfl, hl⟩, hd.old⟩
      clear hd hl
      go_wp2
      go_ret
      exact ⟨_, rfl, HE.out.1, HE.out.2⟩
    | g + 1, .inner bs cs, hd =>
      obtain ⟨b, rfl, hi⟩ := hd.nd
      have ht := fun w => ta_ix (.pointer (some ⟨b, 0, none⟩)) w
      have hsz := isize_any b bs cs wr hi
      obtain ⟨lo, hi', hv⟩ := hd.rv
      have hlen := hv.len
      by_cases h1 : 1 < cs.length
      · have HE : Hid (Nd wr N0 (.iface 66 (.pointer (some ⟨b, 0, none⟩))) T0 ∧ Below w.heap.size w wr) := ⟨by
          rw [← hd.top, ← hd.hgt]
          match cs, h1, hi with
          | [], h1, _ => simp at h1
          | [_], h1, _ => simp at h1
          | _ :: _ :: _, _, hi => exact ⟨b, rfl, hi⟩, hd.old⟩
        obtain ⟨z, hz⟩ : ∃ z, z = cs.length := ⟨_, rfl⟩
        rw [← hz] at hsz h1
        have h1i : (1 : Int) < (z : Int) := by omega
        clear hd hi hv hlen hz h1
        go_wp2_with (go_at_call 41; refine Calls.mono hsz ?_; rintro e w2 ⟨rfl, rfl⟩)
        go_ret
        exact ⟨_, rfl, HE.out.1, HE.out.2⟩
      · have hii := hi
        obtain ⟨a1, c1, a2, c2, vs, q1, q2, q3, q4⟩ := hii
        have q3 : Sl wr 1 a2 cs.length c2 vs := q3
        have q4 : All2 (Nd wr g) vs cs := q4
        have hvl := q4.len
        obtain ⟨bb, off, rfl, hbb, hcc⟩ := q3.at (j := 0) (by omega)
        have hcell := hcc 0 (by omega)
        have hnd := q4.get (j := 0) (by omega) (by omega)
        obtain ⟨x, hx⟩ : ∃ x, x = vs[0]'(by omega) := ⟨_, rfl⟩
        rw [← hx] at hcell hnd
        rw [Nat.add_zero] at hcell
        have k1 : wr.cell? ⟨b, 1, none⟩ = some (.slice (some ⟨bb, off, none⟩) cs.length c2) := cell_blk q1 1
        have HNX : Hid (∃ t, Tp w wr N0 T0 g x t) := tp_next hd hv h1 (by omega) hnd
        obtain ⟨z, hz⟩ : ∃ z, z = cs.length := ⟨_, rfl⟩
        rw [← hz] at hsz k1
        have hz1 : z = 1 := by omega
        have h1i : ¬ ((1 : Int) < (z : Int)) := by omega
        have h0i : (0 : Int) < (z : Int) := by omega
        clear hd hi hv hlen hz h1 q1 q2 q3 q4 hcc hnd hx hbb hvl hz1
        go_wp2_with (go_at_call 41; refine Calls.mono hsz ?_; rintro e w2 ⟨rfl, rfl⟩)
        go_roundg g
        case rel => exact HNX.out
        case measure => omega
    | 0, .inner _ _, hd => exact hd.nd.elim
    | _ + 1, .leaf _, hd => exact hd.nd.elim
end Go.Proofs.Ytpophalhmjchkaa
