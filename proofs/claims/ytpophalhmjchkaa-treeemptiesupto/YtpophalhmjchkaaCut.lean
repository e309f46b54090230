/-
  Pieces of leaves, leaves cut, put and taken from, by their contracts.
-/
import Derived.Test.YtpophalhmjchkaaPlace3
import Derived.Test.YtpophalhmjchkaaCatS
import Derived.Test.YtpophalhmjchkaaCatN
namespace Go.Proofs.Ytpophalhmjchkaa
open Go.RowKit

theorem slice_both {AV : Avd} {t e : TypeId} {i : TypeInfo} (ht : Try.prog.underlying t = some (.slice e)) (hi : Try.prog.info? e = some i) {w : World} {size : Nat} {a : Option Addr} {n c : Nat} {vs : List Value} (hsz : i.size = size) (h : Sl w size a n c vs) {k m : Nat} (hk : k ≤ m) (hm : m ≤ n) :
    ∃ a', (∀ wx, (Instr.slice t (.slice a n c) (some (.int .i64 (k : Int))) (some (.int .i64 (m : Int))) Option.none).run Try.prog wx = .ok (.slice a' (m - k) (c - k)) wx) ∧ Sl w size a' (m - k) (c - k) ((vs.take (m * size)).drop (k * size)) := by
  have hcap := h.cap
  obtain ⟨h1, h2⟩ := slice_hi ht hi h hm
  obtain ⟨a', h3, h4⟩ := slice_lo ht hi hsz h2 hk
  refine ⟨a', fun wx => ?_, h4⟩
  rw [← h3 wx]
  cases a with
  | none =>
    have hc := h.nil rfl
    subst hc
    obtain rfl : m = 0 := by omega
    obtain rfl : k = 0 := by omega
    simp [Instr.slice, run_underlying ht, Instr.sliceBounds, run_sliceBound, sizeOf, typeInfo, hi]
  | some ad =>
    simp [Instr.slice, run_underlying ht, Instr.sliceBounds, run_sliceBound, sizeOf, typeInfo, hi, (by omega : (k : Int) ≤ (m : Int)), (by omega : (m : Int) ≤ (c : Int)), Addr.add]
theorem Lf.make {AV : Avd} {w : World} {a : Option Addr} {c : Nat} {ps : List KV} (h : Sl w 2 a ps.length c (pcs ps)) : Lf (w.alloc (.cells #[.slice a ps.length c] 59)) w.heap.size ps :=
  ⟨a, c, heap_alloc_new w _, h.below ((Below.refl _ _).alloc (Nat.le_refl _) _)⟩
theorem pcs_mid (ps : List KV) (i j : Nat) : ((pcs ps).take (j * 2)).drop (i * 2) = pcs ((ps.take j).drop i) := by rw [pcs_drop, pcs_take]
theorem scs_mid (bs : List ByteArray) (i j : Nat) : ((scs bs).take (j * 1)).drop (i * 1) = scs ((bs.take j).drop i) := by simp [scs]

theorem lpiece_any {AV : Avd} (b : Nat) (ps : List KV) (i j : Nat) (w : World) (h : Lf w b ps) (hij : i ≤ j) (hj : j ≤ ps.length) (hn : ps.length ≤ 1000) :
    Calls Try.prog 49 #[.pointer (some ⟨b, 0, none⟩), .int .i64 (i : Int), .int .i64 (j : Int)] w fun e w' => ∃ b', e = .returned (.pointer (some ⟨b', 0, none⟩)) ∧ Lf w' b' ((ps.take j).drop i) ∧ Below w.heap.size w w' := by
  obtain ⟨i0, hi, hz0, hz1, hz2⟩ := info_parts info79
  obtain ⟨a, c, h1, h2⟩ := h
  have c0 : w.cell? ⟨b, 0, none⟩ = some (.slice a ps.length c) := cell_blk h1 0
  obtain ⟨a', hsl, hS⟩ := slice_both Try.underlying57 hi hz1 h2 hij hj
  rw [pcs_mid] at hS
  have hlen : ((ps.take j).drop i).length = j - i := by rw [List.length_drop, List.length_take]; omega
  have hcl := cloneP a' (j - i) (c - i) _ w hS (by omega)
  have HCL : Hid (Calls Try.prog 59 #[.slice a' (j - i) (c - i)] w fun e w' => ∃ x y, e = .returned (.slice x (j - i) y) ∧ Lf (w'.alloc (.cells #[.slice x (j - i) y] 59)) w'.heap.size ((ps.take j).drop i) ∧ Below w.heap.size w (w'.alloc (.cells #[.slice x (j - i) y] 59))) := (by
    refine Calls.mono hcl ?_
    rintro e w' ⟨v', rfl, ho, hb⟩
    obtain ⟨x, y, rfl, hs'⟩ := Sl.ownA ho (pcs_one _) h2.av (Nat.le_refl _) hb.size
    rw [← hlen] at hs' ⊢
    exact ⟨x, y, rfl, Lf.make hs', hb.alloc hb.size _⟩)
  clear h1 h2 hS hcl hlen
  obtain ⟨n, hn'⟩ : ∃ n, n = j - i := ⟨_, rfl⟩
  obtain ⟨m, hm'⟩ : ∃ m, m = c - i := ⟨_, rfl⟩
  rw [← hn', ← hm'] at hsl HCL
  clear hn' hm' hij hj
  go_enter Try.func49, Try.ntmps49
  go_wp2_with (go_at_call 59; refine Calls.mono HCL.out ?_; rintro e w2 ⟨x, y, rfl, hlf, hb2⟩)
  go_ret
  exact ⟨_, rfl, hlf, hb2⟩

theorem nil_sl {AV : Avd} {w : World} (hav : Av w) : Sl w 1 none ([] : List ByteArray).length 0 (scs []) := Sl.none hav _
/-- A row of one, of two. -/
theorem row_one {AV : Avd} {w : World} {h : Nat} {v : Value} {t : T} (hn : Nd w h v t) : Rw ((w.alloc (.cells #[v] 61)).alloc (.cells #[.slice none 0 0, .slice (some ⟨w.heap.size, 0, none⟩) 1 1] 85)) h (w.heap.size + 1) ([], [t]) ∧ Below w.heap.size w ((w.alloc (.cells #[v] 61)).alloc (.cells #[.slice none 0 0, .slice (some ⟨w.heap.size, 0, none⟩) 1 1] 85)) := by
  obtain ⟨W, hW⟩ : ∃ W, W = w.alloc (.cells #[v] 61) := ⟨_, rfl⟩
  have hsz : W.heap.size = w.heap.size + 1 := by rw [hW]; simp
  have hb1 : Below w.heap.size w W := by rw [hW]; exact (Below.refl _ _).alloc (Nat.le_refl _) _
  have hblk : W.heap[w.heap.size]? = some (.cells #[v] 61 (0, 0)) := by rw [hW]; exact heap_alloc_new w _
  rw [← hW, ← hsz]
  have hb2 : Below W.heap.size W (W.alloc (.cells #[.slice none 0 0, .slice (some ⟨w.heap.size, 0, none⟩) 1 1] 85)) := (Below.refl _ _).alloc (Nat.le_refl _) _
  refine ⟨⟨none, 0, some ⟨w.heap.size, 0, none⟩, 1, [v], heap_alloc_new W _, (nil_sl (hn.av.below hb1)).below hb2, Sl.below ⟨.inr ⟨w.heap.size, 0, rfl, by omega, fun j hj => ?_⟩, rfl, Nat.le_refl _, (by intro e; cases e), (by intro x e; cases e; rfl), (by intro u hu; simp at hu; rw [hu]; exact hn.one), (by intro _ x e; cases e; exact hn.av.ne (Nat.le_refl _)), hn.av.below hb1⟩ hb2, ⟨(hn.below hb1).below hb2, trivial⟩⟩, hb1.trans (hb2.mono hb1.size)⟩
  simp only [List.length_cons, List.length_nil, Nat.zero_add, Nat.lt_one_iff] at hj
  subst hj
  exact cell_blk hblk 0

theorem Rw.make {AV : Avd} {w : World} {h : Nat} {bs : List ByteArray} {cs : List T} {a1 a2 : Option Addr} {c1 c2 : Nat} {vs : List Value} (h1 : Sl w 1 a1 bs.length c1 (scs bs)) (h2 : Sl w 1 a2 cs.length c2 vs) (h3 : All2 (Nd w h) vs cs) : Rw (w.alloc (.cells #[.slice a1 bs.length c1, .slice a2 cs.length c2] 85)) h w.heap.size (bs, cs) := by
  have hb : Below w.heap.size w (w.alloc (.cells #[.slice a1 bs.length c1, .slice a2 cs.length c2] 85)) := (Below.refl _ _).alloc (Nat.le_refl _) _
  exact ⟨a1, c1, a2, c2, vs, heap_alloc_new w _, h1.below hb, h2.below hb, h3.mono (fun _ _ hn => hn.below hb)⟩
theorem Sl.block {AV : Avd} {w : World} {b : Nat} {vs : List Value} {t : TypeId} (h : w.heap[b]? = some (.cells vs.toArray t (0, 0))) (h1 : ∀ u ∈ vs, u.oneCell' = true) (hav : Av w) (hne : some b ≠ Avd.g) : Sl w 1 (some ⟨b, 0, Option.none⟩) vs.length vs.length vs := by
  refine ⟨.inr ⟨b, 0, rfl, (Array.getElem?_eq_some_iff.1 h).1, fun j hj => ?_⟩, by simp, Nat.le_refl _, (by intro e; cases e), (by intro x e; cases e; rfl), h1, (by intro _ x e; cases e; exact hne), hav⟩
  rw [Nat.zero_add, cell_blk h j, List.getElem?_toArray, List.getElem?_eq_getElem hj]
theorem row_two {AV : Avd} {w : World} {h : Nat} {v1 v2 : Value} {t1 t2 : T} (k : ByteArray) (n1 : Nd w h v1 t1) (n2 : Nd w h v2 t2) : Rw (((w.alloc (.cells #[.string k] 9)).alloc (.cells #[v1, v2] 61)).alloc (.cells #[.slice (some ⟨w.heap.size, 0, none⟩) 1 1, .slice (some ⟨w.heap.size + 1, 0, none⟩) 2 2] 85)) h (w.heap.size + 1 + 1) ([k], [t1, t2]) ∧ Below w.heap.size w (((w.alloc (.cells #[.string k] 9)).alloc (.cells #[v1, v2] 61)).alloc (.cells #[.slice (some ⟨w.heap.size, 0, none⟩) 1 1, .slice (some ⟨w.heap.size + 1, 0, none⟩) 2 2] 85)) := by
  obtain ⟨W, hW⟩ : ∃ W, W = w.alloc (.cells #[.string k] 9) := ⟨_, rfl⟩
  have hsz : W.heap.size = w.heap.size + 1 := by rw [hW]; simp
  have hb1 : Below w.heap.size w W := by rw [hW]; exact (Below.refl _ _).alloc (Nat.le_refl _) _
  have hblk : W.heap[w.heap.size]? = some (.cells [Value.string k].toArray 9 (0, 0)) := by rw [hW]; exact heap_alloc_new w _
  rw [← hW, ← hsz]
  obtain ⟨W2, hW2⟩ : ∃ W2, W2 = W.alloc (.cells #[v1, v2] 61) := ⟨_, rfl⟩
  have hsz2 : W2.heap.size = W.heap.size + 1 := by rw [hW2]; simp
  have hb2 : Below W.heap.size W W2 := by rw [hW2]; exact (Below.refl _ _).alloc (Nat.le_refl _) _
  have hblk2 : W2.heap[W.heap.size]? = some (.cells [v1, v2].toArray 61 (0, 0)) := by rw [hW2]; exact heap_alloc_new W _
  rw [← hW2, ← hsz2]
  have hb12 := hb1.trans (hb2.mono hb1.size)
  have s1 : Sl W2 1 (some ⟨w.heap.size, 0, none⟩) 1 1 (scs [k]) := (Sl.block hblk (by intro u hu; simp at hu; rw [hu]; rfl) (n1.av.below hb1) (n1.av.ne (Nat.le_refl _))).below hb2
  have s2 : Sl W2 1 (some ⟨W.heap.size, 0, none⟩) 2 2 [v1, v2] := Sl.block hblk2 (by
    intro u hu
    simp only [List.mem_cons, List.not_mem_nil, or_false] at hu
    rcases hu with rfl | rfl
    · exact n1.one
    · exact n2.one) (n1.av.below hb12) (n1.av.ne hb1.size)
  exact ⟨Rw.make (bs := [k]) (cs := [t1, t2]) s1 s2 ⟨n1.below hb12, n2.below hb12, trivial⟩, hb12.alloc hb12.size _⟩

set_option maxHeartbeats 1000000 in
theorem lcut_any {AV : Avd} (b : Nat) (ps : List KV) (w : World) (h : Lf w b ps) (hn : ps.length ≤ 16) :
    Calls Try.prog 36 #[.pointer (some ⟨b, 0, none⟩)] w fun e w' => ∃ b', e = .returned (.pointer (some ⟨b', 0, none⟩)) ∧ Rw w' 0 b' (cutT (.leaf ps)) ∧ Below w.heap.size w w' := by
  have hsz := lsize_any b ps w h
  by_cases h8 : ps.length ≤ 8
  · have h8i : (ps.length : Int) ≤ 8 := by omega
    have hr := row_one (w := w) (h := 0) (v := .iface 56 (.pointer (some ⟨b, 0, none⟩))) (t := .leaf ps) ⟨b, rfl, h⟩
    have HR : Hid (Rw ((w.alloc (.cells #[.iface 56 (.pointer (some ⟨b, 0, none⟩))] 61)).alloc (.cells #[.slice none 0 0, .slice (some ⟨w.heap.size, 0, none⟩) 1 1] 85)) 0 (w.heap.size + 1) (cutT (.leaf ps)) ∧ Below w.heap.size w ((w.alloc (.cells #[.iface 56 (.pointer (some ⟨b, 0, none⟩))] 61)).alloc (.cells #[.slice none 0 0, .slice (some ⟨w.heap.size, 0, none⟩) 1 1] 85))) := ⟨by rw [cutT, if_pos h8]; exact hr.1, hr.2⟩
    clear h hr h8
    go_enter Try.func36, Try.ntmps36
    go_wp2_with (go_at_call 48; refine Calls.mono hsz ?_; rintro e w2 ⟨rfl, rfl⟩)
    go_ret
    exact ⟨_, rfl, HR.out.1, HR.out.2⟩
  · have h8i : ¬ (ps.length : Int) ≤ 8 := by omega
    obtain ⟨m, hm⟩ : ∃ m, m = ps.length / 2 := ⟨_, rfl⟩
    have hml : m < ps.length := by omega
    have hmi : Int.tdiv (ps.length : Int) 2 = (m : Int) := by rw [Int.tdiv_eq_ediv_of_nonneg (by omega)]; omega
    have hmi2 : (ps.length : Int) / 2 = (m : Int) := by omega
    have hp1 := lpiece_any b ps 0 m w h (by omega) (by omega) (by omega)
    have hcut : cutT (.leaf ps) = ([(ps[m]).1], [.leaf (ps.take m), .leaf (ps.drop m)]) := by rw [cutT, if_neg h8, ← hm, getD_of hml]
    have e1 : (ps.take m).drop 0 = ps.take m := rfl
    have e2 : (ps.take ps.length).drop m = ps.drop m := by rw [List.take_length]
    rw [e1] at hp1
    have HL : Hid (∀ w1, Below w.heap.size w w1 → Calls Try.prog 48 #[.pointer (some ⟨b, 0, none⟩)] w1 fun e w' => e = .returned (.int .i64 (ps.length : Int)) ∧ w1 = w') := fun w1 hb => lsize_any b ps w1 (h.below hb)
    have HP2 : Hid (∀ w1, Below w.heap.size w w1 → Calls Try.prog 49 #[.pointer (some ⟨b, 0, none⟩), .int .i64 (m : Int), .int .i64 (ps.length : Int)] w1 fun e w' => ∃ b', e = .returned (.pointer (some ⟨b', 0, none⟩)) ∧ Lf w' b' (ps.drop m) ∧ Below w1.heap.size w1 w') := fun w1 hb => by
      have := lpiece_any b ps m ps.length w1 (h.below hb) (by omega) (Nat.le_refl _) (by omega)
      rw [e2] at this
      exact this
    have HC : Hid (∀ w2, Below w.heap.size w w2 → ∃ bb off a c, a = some ⟨bb, off, none⟩ ∧ w2.cell? ⟨b, 0, none⟩ = some (.slice a ps.length c) ∧ w2.cell? ⟨bb, off + m * 2, none⟩ = some (.string (ps[m]).1)) := (by
      intro w2 hb
      obtain ⟨a, c, q1, q2⟩ := h.below hb
      obtain ⟨g1, g2⟩ := pcs_get hml
      obtain ⟨l1, e1⟩ := List.getElem?_eq_some_iff.1 g1
      obtain ⟨bb, off, e, _, hc⟩ := q2.at l1
      exact ⟨bb, off, a, c, e, cell_blk q1 0, (hc _ l1).trans (by rw [e1])⟩)
    obtain ⟨x, hx⟩ : ∃ x, x = (ps[m]).1 := ⟨_, rfl⟩
    rw [← hx] at HC hcut
    have HR : Hid (∀ w1 w2 b1 b2, Below w.heap.size w w1 → Below w1.heap.size w1 w2 → Lf w1 b1 (ps.take m) → Lf w2 b2 (ps.drop m) → Rw (((w2.alloc (.cells #[.string x] 9)).alloc (.cells #[.iface 56 (.pointer (some ⟨b1, 0, none⟩)), .iface 56 (.pointer (some ⟨b2, 0, none⟩))] 61)).alloc (.cells #[.slice (some ⟨w2.heap.size, 0, none⟩) 1 1, .slice (some ⟨w2.heap.size + 1, 0, none⟩) 2 2] 85)) 0 (w2.heap.size + 1 + 1) (cutT (.leaf ps)) ∧ Below w.heap.size w (((w2.alloc (.cells #[.string x] 9)).alloc (.cells #[.iface 56 (.pointer (some ⟨b1, 0, none⟩)), .iface 56 (.pointer (some ⟨b2, 0, none⟩))] 61)).alloc (.cells #[.slice (some ⟨w2.heap.size, 0, none⟩) 1 1, .slice (some ⟨w2.heap.size + 1, 0, none⟩) 2 2] 85))) := (by
      intro w1 w2 b1 b2 hb1 hb2 l1 l2
      have := row_two (w := w2) (h := 0) (v1 := .iface 56 (.pointer (some ⟨b1, 0, none⟩))) (v2 := .iface 56 (.pointer (some ⟨b2, 0, none⟩))) (t1 := .leaf (ps.take m)) (t2 := .leaf (ps.drop m)) x ⟨b1, rfl, l1.below hb2⟩ ⟨b2, rfl, l2⟩
      rw [hcut]
      have hb12 := hb1.trans (hb2.mono hb1.size)
      exact ⟨this.1, hb12.trans (this.2.mono hb12.size)⟩)
    have hmli : (m : Int) < (ps.length : Int) := by omega
    clear h h8 hm hcut e1 e2 hx
    go_enter Try.func36, Try.ntmps36
    go_wp2_with (first
      | (go_at_call 48; (with_reducible refine Calls.mono hsz ?_); rintro e w0 ⟨rfl, rfl⟩)
      | (go_at_call 49; (with_reducible refine Calls.mono hp1 ?_); rintro e w1 ⟨b1, rfl, l1, hb1⟩; have hsz1 := HL.out w1 hb1; have hp2 := HP2.out w1 hb1)
      | (go_at_call 48; (with_reducible refine Calls.mono hsz1 ?_); rintro e w1' ⟨rfl, rfl⟩)
      | (go_at_call 49; (with_reducible refine Calls.mono hp2 ?_); rintro e w2 ⟨b2, rfl, l2, hb2⟩; obtain ⟨bb, off, a, c, rfl, c0, c1⟩ := HC.out w2 (hb1.trans (hb2.mono hb1.size))))
    go_ret
    obtain ⟨r1, r2⟩ := HR.out w1 w2 b1 b2 hb1 hb2 l1 l2
    exact ⟨_, rfl, r1, r2⟩
end Go.Proofs.Ytpophalhmjchkaa
