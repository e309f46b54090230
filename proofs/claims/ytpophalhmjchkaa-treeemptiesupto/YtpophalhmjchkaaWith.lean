/-
  A row put in the place of some children, by its contract.
-/
import Derived.Test.YtpophalhmjchkaaInner
namespace Go.Proofs.Ytpophalhmjchkaa
open Go.RowKit

/-- A row of slices in a block. -/
theorem Rxs.block {AV : Avd} {w : World} {size s : Nat} {xs : List Sx} {t : TypeId} (hb : w.heap[s]? = some (.cells (xs.map Sx.v).toArray t (0, 0))) (h : ∀ x ∈ xs, Sl w size x.a x.n x.c x.l) : Rxs w size s xs := by
  refine ⟨(Array.getElem?_eq_some_iff.1 hb).1, fun j hj => ⟨?_, h _ (List.getElem_mem hj)⟩⟩
  rw [cell_blk hb j, List.getElem?_toArray, List.getElem?_map, List.getElem?_eq_getElem hj]
  rfl
/-- Rows of texts, of nodes, made one. -/
theorem catS_at {AV : Avd} {w : World} {s n N : Nat} {X : List Sx} {b : List ByteArray} (hb : w.heap[s]? = some (.cells (X.map Sx.v).toArray 23 (0, 0))) (h : ∀ x ∈ X, Sl w 1 x.a x.n x.c x.l) (hl : X.length = n) (hc : catX X = scs b) (ht : totN X = N) (hN : N ≤ 1000) (hn : n ≤ 3) (hne : 0 < n := by omega) :
    Calls Try.prog 50 #[.slice (some ⟨s, 0, none⟩) n n] w fun e w' => ∃ x y, e = .returned (.slice x N y) ∧ Sl w' 1 x N y (scs b) ∧ Below w.heap.size w w' := by
  have hA := concatS s X n w (Rxs.block hb h) (by omega) (by omega)
  rw [hl] at hA
  refine Calls.mono hA ?_
  rintro e w' ⟨v', rfl, ho, hb2⟩
  rw [hc, ht] at ho
  obtain ⟨x, y, rfl, hs'⟩ := Sl.ownA ho (scs_one _) ((h _ (List.getElem_mem (hl ▸ hne))).av) (Nat.le_refl _) hb2.size
  exact ⟨x, y, rfl, hs', hb2⟩
theorem catN_at {AV : Avd} {w : World} {s n N : Nat} {X : List Sx} {vs : List Value} (hb : w.heap[s]? = some (.cells (X.map Sx.v).toArray 80 (0, 0))) (h : ∀ x ∈ X, Sl w 1 x.a x.n x.c x.l) (hl : X.length = n) (hc : catX X = vs) (ht : totN X = N) (hN : N ≤ 1000) (hn : n ≤ 3) (hne : 0 < n := by omega) :
    Calls Try.prog 51 #[.slice (some ⟨s, 0, none⟩) n n] w fun e w' => ∃ x y, e = .returned (.slice x N y) ∧ Sl w' 1 x N y vs ∧ Below w.heap.size w w' := by
  have hA := concatN s X n w (Rxs.block hb h) (by omega) (by omega)
  rw [hl] at hA
  refine Calls.mono hA ?_
  rintro e w' ⟨v', rfl, ho, hb2⟩
  rw [hc, ht] at ho
  obtain ⟨x, y, rfl, hs'⟩ := Sl.ownA ho (by
    intro u hu
    rw [← hc, catX, List.mem_flatMap] at hu
    obtain ⟨q, hq, hu⟩ := hu
    exact (h q hq).one u hu) ((h _ (List.getElem_mem (hl ▸ hne))).av) (Nat.le_refl _) hb2.size
  exact ⟨x, y, rfl, hs', hb2⟩
/-- The two calls that make a node of its rows: what the first, and then the second, leaves. -/
def Cat2 [Avd] (w : World) (h z1 z2 : Nat) (R : List ByteArray × List T) (x1 : Option Addr) (y1 : Nat) (e : Ending) (w2 : World) : Prop :=
  ∃ x2 y2, e = .returned (.slice x2 z2 y2) ∧ Below w.heap.size w w2 ∧ Rw (w2.alloc (.cells #[.slice x1 z1 y1, .slice x2 z2 y2] 85)) h w2.heap.size R ∧ Below w.heap.size w (w2.alloc (.cells #[.slice x1 z1 y1, .slice x2 z2 y2] 85))

/-- Two rows are laid, two calls made: in each order that may be drawn. -/
theorem two_allocs {AV : Avd} {w : World} {A B : Obj} {n1 n2 z1 : Nat} {L : List Value} {C2 : Option Addr → Nat → Ending → World → Prop}
    (G1 : ∀ q s, Below w.heap.size w q → q.heap[s]? = some A → Calls Try.prog 50 #[.slice (some ⟨s, 0, none⟩) n1 n1] q fun e w1 => ∃ x1 y1, e = .returned (.slice x1 z1 y1) ∧ Sl w1 1 x1 z1 y1 L ∧ Below q.heap.size q w1)
    (G2 : ∀ q s x1 y1, Below w.heap.size w q → q.heap[s]? = some B → Sl q 1 x1 z1 y1 L → Calls Try.prog 51 #[.slice (some ⟨s, 0, none⟩) n2 n2] q (C2 x1 y1)) :
    (Calls Try.prog 50 #[.slice (some ⟨w.heap.size, 0, none⟩) n1 n1] (w.alloc A).drew fun e w1 => ∃ x1 y1, e = .returned (.slice x1 z1 y1) ∧ Below w.heap.size w w1 ∧ Calls Try.prog 51 #[.slice (some ⟨w1.heap.size, 0, none⟩) n2 n2] (w1.alloc B) (C2 x1 y1)) ∧
    (Calls Try.prog 50 #[.slice (some ⟨w.heap.size, 0, none⟩) n1 n1] ((w.alloc A).alloc B).drew fun e w1 => ∃ x1 y1, e = .returned (.slice x1 z1 y1) ∧ Below w.heap.size w w1 ∧ Calls Try.prog 51 #[.slice (some ⟨w.heap.size + 1, 0, none⟩) n2 n2] w1 (C2 x1 y1)) ∧
    (Calls Try.prog 50 #[.slice (some ⟨w.heap.size + 1, 0, none⟩) n1 n1] ((w.alloc B).alloc A).drew fun e w1 => ∃ x1 y1, e = .returned (.slice x1 z1 y1) ∧ Below w.heap.size w w1 ∧ Calls Try.prog 51 #[.slice (some ⟨w.heap.size, 0, none⟩) n2 n2] w1 (C2 x1 y1)) := by
  have ba : ∀ o, Below w.heap.size w (w.alloc o) := fun o => (Below.refl _ _).alloc (Nat.le_refl _) _
  have bb : ∀ o o', Below w.heap.size w ((w.alloc o).alloc o') := fun o o' => (ba o).alloc (ba o).size _
  have na : ∀ o, (w.alloc o).heap[w.heap.size]? = some o := fun o => heap_alloc_new w o
  have nb : ∀ o o', ((w.alloc o).alloc o').heap[w.heap.size + 1]? = some o' := fun o o' => by
    have := heap_alloc_new (w.alloc o) o'
    rwa [show (w.alloc o).heap.size = w.heap.size + 1 from by simp] at this
  have nc : ∀ o o', ((w.alloc o).alloc o').heap[w.heap.size]? = some o := fun o o' => by
    have hb : Below (w.alloc o).heap.size (w.alloc o) ((w.alloc o).alloc o') := (Below.refl _ _).alloc (Nat.le_refl _) _
    rw [hb.block w.heap.size (by simp)]
    exact na o
  have sz : ∀ o o', ((w.alloc o).alloc o').heap.size = w.heap.size + 2 := fun o o' => by simp
  refine ⟨?_, ?_, ?_⟩
  · refine Calls.mono (G1 _ _ (ba A).drew (na A)) ?_
    rintro e w1 ⟨x1, y1, rfl, l1, b1⟩
    have b01 := (ba A).drew.trans (b1.mono (ba A).drew.size)
    have bB : Below w1.heap.size w1 (w1.alloc B) := (Below.refl _ _).alloc (Nat.le_refl _) _
    exact ⟨x1, y1, rfl, b01, G2 _ _ x1 y1 (b01.alloc b01.size _) (heap_alloc_new w1 B) (l1.below bB)⟩
  · refine Calls.mono (G1 _ _ (bb A B).drew (nc A B)) ?_
    rintro e w1 ⟨x1, y1, rfl, l1, b1⟩
    have b01 := (bb A B).drew.trans (b1.mono (bb A B).drew.size)
    exact ⟨x1, y1, rfl, b01, G2 _ _ x1 y1 b01 ((b1.block (w.heap.size + 1) (by show w.heap.size + 1 < ((w.alloc A).alloc B).heap.size; rw [sz]; omega)).trans (nb A B)) l1⟩
  · refine Calls.mono (G1 _ _ (bb B A).drew (nb B A)) ?_
    rintro e w1 ⟨x1, y1, rfl, l1, b1⟩
    have b01 := (bb B A).drew.trans (b1.mono (bb B A).drew.size)
    exact ⟨x1, y1, rfl, b01, G2 _ _ x1 y1 b01 ((b1.block w.heap.size (by show w.heap.size < ((w.alloc B).alloc A).heap.size; rw [sz]; omega)).trans (nc B A)) l1⟩

set_option maxHeartbeats 4000000 in
set_option maxRecDepth 20000 in
theorem with_any {AV : Avd} (b h : Nat) (bs : List ByteArray) (cs : List T) (i j : Nat) (rb : Nat) (r : List ByteArray × List T) (w : World) (hr : Rw w h b (bs, cs)) (hl : cs.length = bs.length + 1) (hij : i < j) (hj : j ≤ cs.length) (hn : cs.length ≤ 100) (hr2 : Rw w h rb r) (hl2 : r.2.length = r.1.length + 1) (hn2 : r.2.length ≤ 100) :
    Calls Try.prog 37 #[.pointer (some ⟨b, 0, none⟩), .int .i64 (i : Int), .int .i64 (j : Int), .pointer (some ⟨rb, 0, none⟩)] w fun e w' => ∃ b', e = .returned (.pointer (some ⟨b', 0, none⟩)) ∧ Rw w' h b' (withR (bs, cs) i j r) ∧ Below w.heap.size w w' := by
  obtain ⟨i1, hi1, hz10, hz11, hz12⟩ := info_parts info9
  obtain ⟨i2, hi2, hz20, hz21, hz22⟩ := info_parts info61
  obtain ⟨a1, c1, a2, c2, vs, q1, q2, q3, q4⟩ := hr
  have q2 : Sl w 1 a1 bs.length c1 (scs bs) := q2
  have q3 : Sl w 1 a2 cs.length c2 vs := q3
  have q4 : All2 (Nd w h) vs cs := q4
  obtain ⟨d1, f1, d2, f2, us, p1, p2, p3, p4⟩ := hr2
  have k0 : w.cell? ⟨b, 0, none⟩ = some (.slice a1 bs.length c1) := cell_blk q1 0
  have k1 : w.cell? ⟨b, 1, none⟩ = some (.slice a2 cs.length c2) := cell_blk q1 1
  have k2 : w.cell? ⟨rb, 0, none⟩ = some (.slice d1 r.1.length f1) := cell_blk p1 0
  have k3 : w.cell? ⟨rb, 1, none⟩ = some (.slice d2 r.2.length f2) := cell_blk p1 1
  have g0 : w.drew.cell? ⟨b, 0, none⟩ = some (.slice a1 bs.length c1) := k0
  have g1 : w.drew.cell? ⟨b, 1, none⟩ = some (.slice a2 cs.length c2) := k1
  have g2 : w.drew.cell? ⟨rb, 0, none⟩ = some (.slice d1 r.1.length f1) := k2
  have g3 : w.drew.cell? ⟨rb, 1, none⟩ = some (.slice d2 r.2.length f2) := k3
  obtain ⟨s1, t1⟩ := slice_hi Try.underlying23 hi1 q2 (k := i) (by omega)
  obtain ⟨a3, s3, t3⟩ := slice_lo Try.underlying23 hi1 hz11 q2 (k := j - 1) (by omega)
  obtain ⟨s4, t4⟩ := slice_hi Try.underlying80 hi2 q3 (k := i) (by omega)
  obtain ⟨a6, s6, t6⟩ := slice_lo Try.underlying80 hi2 hz21 q3 (k := j) (by omega)
  have t1 : Sl w 1 a1 i c1 (scs (bs.take i)) := by simpa [scs] using t1
  have t3 : Sl w 1 a3 (bs.length - (j - 1)) (c1 - (j - 1)) (scs (bs.drop (j - 1))) := by simpa [scs] using t3
  have s3' : ∀ wx, (Instr.slice 23 (.slice a1 bs.length c1) (some (.int .i64 ((j : Int) - 1))) none none).run Try.prog wx = .ok (.slice a3 (bs.length - (j - 1)) (c1 - (j - 1))) wx := fun wx => by
    have := s3 wx
    rwa [show ((j - 1 : Nat) : Int) = (j : Int) - 1 from by omega] at this
  have hvl := q4.len
  have hbl : b < w.heap.size := (Array.getElem?_eq_some_iff.1 q1).1
  have hrl : rb < w.heap.size := (Array.getElem?_eq_some_iff.1 p1).1
  have hbd : Below w.heap.size w w.drew := (Below.refl _ _).drew
  have HK : Hid (∀ w5, Below w.heap.size w w5 → w5.cell? ⟨b, 0, none⟩ = some (.slice a1 bs.length c1) ∧ w5.cell? ⟨b, 1, none⟩ = some (.slice a2 cs.length c2) ∧ w5.cell? ⟨rb, 0, none⟩ = some (.slice d1 r.1.length f1) ∧ w5.cell? ⟨rb, 1, none⟩ = some (.slice d2 r.2.length f2)) := fun w5 hb => ⟨(hb.cell (p := ⟨b, 0, none⟩) hbl).trans k0, (hb.cell (p := ⟨b, 1, none⟩) hbl).trans k1, (hb.cell (p := ⟨rb, 0, none⟩) hrl).trans k2, (hb.cell (p := ⟨rb, 1, none⟩) hrl).trans k3⟩
  have hw1 : (withR (bs, cs) i j r).1.length = i + r.1.length + (bs.length - (j - 1)) := by simp [withR]; omega
  have hw2 : (withR (bs, cs) i j r).2.length = i + r.2.length + (cs.length - j) := by simp [withR]; omega
  have hA : All2 (Nd w h) (vs.take (i * 1) ++ us ++ vs.drop (j * 1)) (withR (bs, cs) i j r).2 := by
    rw [Nat.mul_one, Nat.mul_one]
    exact ((q4.take i).app p4).app (q4.drop j)
  obtain ⟨A, hA0⟩ : ∃ A : Obj, A = .cells #[.slice a1 i c1, .slice d1 r.1.length f1, .slice a3 (bs.length - (j - 1)) (c1 - (j - 1))] 23 := ⟨_, rfl⟩
  obtain ⟨B, hB0⟩ : ∃ B : Obj, B = .cells #[.slice a2 i c2, .slice d2 r.2.length f2, .slice a6 (cs.length - j) (c2 - j)] 80 := ⟨_, rfl⟩
  obtain ⟨z1, hz1⟩ : ∃ z1, z1 = i + r.1.length + (bs.length - (j - 1)) := ⟨_, rfl⟩
  obtain ⟨z2, hz2⟩ : ∃ z2, z2 = i + r.2.length + (cs.length - j) := ⟨_, rfl⟩
  rw [← hz1] at hw1
  rw [← hz2] at hw2
  have G1 : ∀ q s, Below w.heap.size w q → q.heap[s]? = some A → Calls Try.prog 50 #[.slice (some ⟨s, 0, none⟩) 3 3] q fun e w1 => ∃ x1 y1, e = .returned (.slice x1 z1 y1) ∧ Sl w1 1 x1 z1 y1 (scs (withR (bs, cs) i j r).1) ∧ Below q.heap.size q w1 := fun q s hq hs =>
    catS_at (X := [⟨a1, i, scs (bs.take i), c1⟩, ⟨d1, r.1.length, scs r.1, f1⟩, ⟨a3, bs.length - (j - 1), scs (bs.drop (j - 1)), c1 - (j - 1)⟩]) (by rw [hs, hA0]; rfl) (by
      intro x hx
      simp only [List.mem_cons, List.not_mem_nil, or_false] at hx
      rcases hx with rfl | rfl | rfl
      · exact t1.below hq
      · exact Sl.below p2 hq
      · exact t3.below hq) rfl (by simp [catX, withR, scs]) (by simp [totN]; omega) (by omega) (by omega)
  have G2 : ∀ q s x1 y1, Below w.heap.size w q → q.heap[s]? = some B → Sl q 1 x1 z1 y1 (scs (withR (bs, cs) i j r).1) → Calls Try.prog 51 #[.slice (some ⟨s, 0, none⟩) 3 3] q (Cat2 w h z1 z2 (withR (bs, cs) i j r) x1 y1) := fun q s x1 y1 hq hs hx1 => by
    refine Calls.mono (catN_at (X := [⟨a2, i, vs.take (i * 1), c2⟩, ⟨d2, r.2.length, us, f2⟩, ⟨a6, cs.length - j, vs.drop (j * 1), c2 - j⟩]) (vs := vs.take (i * 1) ++ us ++ vs.drop (j * 1)) (N := z2) (by rw [hs, hB0]; rfl) (by
      intro x hx
      simp only [List.mem_cons, List.not_mem_nil, or_false] at hx
      rcases hx with rfl | rfl | rfl
      · exact t4.below hq
      · exact Sl.below p3 hq
      · exact t6.below hq) rfl (by simp [catX]) (by simp [totN]; omega) (by omega) (by omega)) ?_
    rintro e w2 ⟨x2, y2, rfl, l2, b2⟩
    have b02 := hq.trans (b2.mono hq.size)
    refine ⟨x2, y2, rfl, b02, ?_, b02.alloc b02.size _⟩
    have := Rw.make (h := h) (bs := (withR (bs, cs) i j r).1) (cs := (withR (bs, cs) i j r).2) (w := w2) (by rw [hw1]; exact hx1.below b2) (by rw [hw2]; exact l2) (hA.mono (fun _ _ hn => hn.below b02))
    rw [hw1, hw2] at this
    exact this
  obtain ⟨o1, o2, o3⟩ := two_allocs G1 G2
  rw [hA0, hB0] at o1 o2 o3
  have hwj : IntKind.i64.wrap ((j : Int) - 1) = (j : Int) - 1 := by rw [IntKind.wrap_i64]; omega
  obtain ⟨rn1, hrn1⟩ : ∃ rn1, rn1 = r.1.length := ⟨_, rfl⟩
  obtain ⟨rn2, hrn2⟩ : ∃ rn2, rn2 = r.2.length := ⟨_, rfl⟩
  obtain ⟨n1, hn1⟩ : ∃ n1, n1 = bs.length - (j - 1) := ⟨_, rfl⟩
  obtain ⟨n2, hn2⟩ : ∃ n2, n2 = cs.length - j := ⟨_, rfl⟩
  obtain ⟨m1, hm1⟩ : ∃ m1, m1 = c1 - (j - 1) := ⟨_, rfl⟩
  obtain ⟨m2, hm2⟩ : ∃ m2, m2 = c2 - j := ⟨_, rfl⟩
  rw [← hn1, ← hn2, ← hm1, ← hm2, ← hrn1, ← hrn2] at o1 o2 o3
  rw [← hn1, ← hm1] at s3'
  rw [← hn2, ← hm2] at s6
  rw [← hrn1, ← hrn2] at HK
  rw [← hrn1] at k2 g2
  rw [← hrn2] at k3 g3
  clear q1 q2 q3 q4 p1 p2 p3 p4 s3 t1 t3 t4 t6 hA hw1 hw2 hvl hbl hrl hbd hn1 hm1 hm2 hrn1 hrn2 hz1 hz2 hij hj hl hl2 hn2 G1 G2 hA0 hB0
  go_enter Try.func37, Try.ntmps37
  go_wp2
  go_region_held3 (fun w' => w'.cell? ⟨b, 0, none⟩ = some (.slice a1 bs.length c1) ∧ w'.cell? ⟨b, 1, none⟩ = some (.slice a2 cs.length c2) ∧ w'.cell? ⟨rb, 0, none⟩ = some (.slice d1 rn1 f1) ∧ w'.cell? ⟨rb, 1, none⟩ = some (.slice d2 rn2 f2)) (go_keep)
    (first
      | (go_at_call 50; (with_reducible refine Calls.mono o1 ?_); rintro e w1 ⟨x1, y1, rfl, hb1, hc2⟩; have u0 := (HK.out w1 hb1).1; have u1 := (HK.out w1 hb1).2.1; have u2 := (HK.out w1 hb1).2.2.1; have u3 := (HK.out w1 hb1).2.2.2)
      | (go_at_call 50; (with_reducible refine Calls.mono o2 ?_); rintro e w1 ⟨x1, y1, rfl, hb1, hc2⟩; have u0 := (HK.out w1 hb1).1; have u1 := (HK.out w1 hb1).2.1; have u2 := (HK.out w1 hb1).2.2.1; have u3 := (HK.out w1 hb1).2.2.2)
      | (go_at_call 50; (with_reducible refine Calls.mono o3 ?_); rintro e w1 ⟨x1, y1, rfl, hb1, hc2⟩; have u0 := (HK.out w1 hb1).1; have u1 := (HK.out w1 hb1).2.1; have u2 := (HK.out w1 hb1).2.2.1; have u3 := (HK.out w1 hb1).2.2.2)
      | (go_at_call 51; (with_reducible refine Calls.mono hc2 ?_); rintro e w2 ⟨x2, y2, rfl, hb2, hrw, hb3⟩; have v0 := (HK.out w2 hb2).1; have v1 := (HK.out w2 hb2).2.1; have v2 := (HK.out w2 hb2).2.2.1; have v3 := (HK.out w2 hb2).2.2.2))
  all_goals
    (go_wp2
     go_ret
     exact ⟨_, rfl, hrw, hb3⟩)
end Go.Proofs.Ytpophalhmjchkaa
