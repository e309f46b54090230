/-
  To: the law's own copy of an element.
-/
import Derived.Test.YtlaahendcdifgaaDoorNod
import Derived.Laws.AppendOwnNone
import Derived.Deep.RegionHeld3
import Derived.Deep.RegionWith
import Derived.Deep.RegionLaw
namespace Go.Proofs.YtlaahendcdifgaaDoor
open Go.RowKit

theorem info_parts' {P : Program} {e : TypeId} {z : Value} {a b : Nat} (h : (P.info? e).map (fun i => (i.zero, i.size, i.bytes)) = some (some z, a, b)) : ∃ i, P.info? e = some i ∧ i.zero = some z ∧ i.size = a ∧ i.bytes = b := by
  obtain ⟨i, h1, h2⟩ := Option.map_eq_some_iff.1 h
  injection h2 with h2 h3
  injection h3 with h3 h4
  exact ⟨i, h1, h2, h3, h4⟩
theorem info35 : (Tryd.prog.info? 35).map (fun i => (i.zero, i.size, i.bytes)) = some (some (.agg #[.string ⟨#[]⟩, .string ⟨#[]⟩, .slice none 0 0]), 3, 56) := by kernel_rfl
theorem step_append_own {P : Program} {w : World} {ops : Array Oper} {o : Oper} {a : Act} {K : Act → World → Prop} {Q : Exit → Act → World → Prop} {E : Prop} (hgd : o.guard = none) (s x : Operand) (t : TypeId)
    (ho : o.op = .call { callee := .builtin .append, args := #[s, x], argTypes := #[t, t] })
    (base : Nat) (e : TypeId) (i : TypeInfo) (z : Value) (size bytes : Nat) (ht : P.underlying t = some (.slice e)) (hi : P.info? e = some i) (hz : i.zero = some z)
    (hsize : i.size = size) (hby : i.bytes = bytes) (hzs : z.cells.size = size) (hsz : 0 < size)
    (v : Value) (n : Nat) (xs : List Value) (hs : a.eval s = v) (hown : w.ownsRow base e size v n xs)
    (ad : Addr) (m c : Nat) (news : List Value) (hx : a.eval x = .slice (some ad) m c) (hl : news.length = m * size) (hnews : ∀ j u, news[j]? = some u → w.cell? (ad.add j) = some u) (h1 : ∀ u ∈ news, u.oneCell' = true)
    (h63 : n + m ≤ maxLen) (hbytes : (n + m) * bytes ≤ 140737488355328) (hbase : base ≤ w.heap.size)
    (h : ∀ v' w', w'.ownsRow base e size v' (n + m) (xs ++ news) → w.grownBy w' v.ownBlock → K (a.put o.dst v') w') :
    if Region.wanted o (yielded ops a.tmps) = true then Oper.wp P o a w K Q else E := by
  have hw : Region.wanted o (yielded ops a.tmps) = true := by simp [Region.wanted, hgd]
  rw [if_pos hw]
  exact wp_append_own w s x t ho base e i z size bytes ht hi hz hsize hby hzs hsz v n xs hs hown ad m c news hx hl hnews h1 h63 hbytes hbase fun v' w' h2 h3 _ => h v' w' h2 h3
theorem cell_three_new (w : World) (a b c : Value) (t : TypeId) : ∀ j u, [a, b, c][j]? = some u → (w.alloc (.cells #[a, b, c] t)).cell? ((⟨w.heap.size, 0, none⟩ : Addr).add j) = some u := by
  intro j u hj
  rw [Addr.add_lit, World.cell?_alloc_mark]
  simpa using hj
theorem three_one (x y : ByteArray) (a : Option Addr) (n c : Nat) : ∀ u ∈ [Value.string x, .string y, .slice a n c], u.oneCell' = true := by
  intro u hu
  simp at hu
  rcases hu with rfl | rfl | rfl <;> rfl
theorem own_below {w w' : World} {B base : Nat} {e : TypeId} {size : Nat} {v : Value} {n : Nat} {xs : List Value} (h : w.ownsRow base e size v n xs) (hm : Below B w w') (hB : w.heap.size ≤ B) : w'.ownsRow base e size v n xs := by
  obtain ⟨h0, ⟨rfl, rfl⟩ | ⟨b, cap, cur, rfl, h1, hh, h2⟩⟩ := h
  · exact ⟨h0, .inl ⟨rfl, rfl⟩⟩
  · have hlt : b < w.heap.size := by
      rcases Nat.lt_or_ge b w.heap.size with h | h
      · exact h
      · simp [Array.getElem?_eq_none h] at hh
    exact ⟨h0, .inr ⟨b, cap, cur, rfl, h1, (hm.block b (Nat.lt_of_lt_of_le hlt hB)).trans hh, h2⟩⟩
/-- The cells of elements without kids. -/
def lcs : List (ByteArray × ByteArray) → List Value
  | [] => []
  | x :: l => .string x.1 :: .string x.2 :: .slice none 0 0 :: lcs l
theorem lcs_app : ∀ (l : List (ByteArray × ByteArray)) (x : ByteArray × ByteArray), lcs (l ++ [x]) = lcs l ++ [.string x.1, .string x.2, .slice none 0 0]
  | [], _ => rfl
  | y :: l, x => by simp [lcs, lcs_app l x]
theorem lcs_len : ∀ (l : List (ByteArray × ByteArray)), (lcs l).length = l.length * 3
  | [] => rfl
  | y :: l => by simp [lcs, lcs_len l]; omega
/-- Elements without kids, from a block's begin on. -/
def Lvs (w : World) (b : Nat) (l : List (ByteArray × ByteArray)) : Prop := ∀ j (h : j < l.length), w.cell? ⟨b, j * 3, none⟩ = some (.string (l[j]).1) ∧ w.cell? ⟨b, j * 3 + 1, none⟩ = some (.string (l[j]).2) ∧ w.cell? ⟨b, j * 3 + 2, none⟩ = some (.slice none 0 0)

set_option maxRecDepth 20000 in
theorem to_leaf (n t : ByteArray) (w : World) :
    Calls Tryd.prog 14 #[.agg #[.string n, .string t, .slice none 0 0]] w fun o w' => o = .returned (.agg #[.string n, .string t, .slice none 0 0]) ∧ Below w.heap.size w w' := by
  go_enter Tryd.func14, Tryd.ntmps14
  go_wp2
  refine wp_loop_rounds 1 ?_
  rw [rounds_succ]
  go_wp2
  refine bodyPost_ret (results_cell_row rfl _ _ (w.heap.size + 1) 35 #[.string n, .string t, .slice none 0 0] (0, 0) _ rfl ((Below.heap_alloc _ _ _ (by simp)).trans (heap_alloc_at (by simp))) Tryd.underlying35 rfl size35) rfl ⟨rfl, ?_⟩
  exact (((Below.refl _ _).alloc (Nat.le_refl _) _).alloc (by simp) _).alloc (by simp; omega) _

theorem heap_lt {w : World} {b : Nat} {o : Obj} (h : w.heap[b]? = some o) : b < w.heap.size := by
  rcases Nat.lt_or_ge b w.heap.size with h' | h'
  · exact h'
  · simp [Array.getElem?_eq_none h'] at h
theorem grown_blk {W w5 : World} {row : Option Nat} (h : W.grownBy w5 row) {k : Nat} {o : Obj} (hk : W.heap[k]? = some o) (hn : ¬ row = some k) : w5.heap[k]? = some o :=
  (h.block k (heap_lt hk) (fun e => hn e.symm)).trans hk
theorem heap_setT {w : World} {b : Nat} {t : TypeId} {v0 v1 v2 z : Value} (h : w.heap[b]? = some (.cells #[v0, v1, v2] t)) : (w.setCell ⟨b, 2, none⟩ z).heap[b]? = some (.cells #[v0, v1, z] t) := by
  simp [World.setCell, Array.getElem?_modify, h]
theorem own_setT {w : World} {base : Nat} {e : TypeId} {size : Nat} {v : Value} {n : Nat} {xs : List Value} (h : w.ownsRow base e size v n xs) {b : Nat} (hb : b < base) (o : Nat) (u : Value) : (w.setCell ⟨b, o, none⟩ u).ownsRow base e size v n xs := by
  obtain ⟨h0, ⟨rfl, rfl⟩ | ⟨g, cap, cur, rfl, h1, hh, h2⟩⟩ := h
  · exact ⟨h0, .inl ⟨rfl, rfl⟩⟩
  · exact ⟨h0, .inr ⟨g, cap, cur, rfl, h1, (Below.heap_setCell _ _ _ _ (by show g ≠ b; omega)).trans hh, h2⟩⟩
theorem own_slice {w : World} {base : Nat} {e : TypeId} {size : Nat} {v : Value} {n : Nat} {xs : List Value} (h : w.ownsRow base e size v n xs) : ∃ a c, v = .slice a n c := by
  obtain ⟨_, ⟨rfl, rfl⟩ | ⟨g, cap, cur, rfl, _⟩⟩ := h
  · exact ⟨_, _, rfl⟩
  · exact ⟨_, _, rfl⟩
/-- The three boxes of To: what came in, the answer, the copy. -/
def Bxs (w wx : World) (q r : Nat) (n t : ByteArray) (s v : Value) : Prop :=
  wx.heap[w.heap.size]? = some (.cells #[.string n, .string t, s] 39) ∧ wx.heap[q]? = some (.cells #[.string ⟨#[]⟩, .string ⟨#[]⟩, .slice none 0 0] 35) ∧ wx.heap[r]? = some (.cells #[.string n, .string t, v] 35) ∧ Below w.heap.size w wx ∧ w.heap.size + 3 ≤ wx.heap.size
/-- A kid's copy was appended and the row laid into the copy. -/
theorem Bxs.grow {w wr W w5 : World} {q r : Nat} {n t : ByteArray} {s v v5 : Value} {k : Nat} {xs news : List Value} (h : Bxs w wr q r n t s v) (hq : q = w.heap.size + 1) (hr : r = w.heap.size + 2) (hown : wr.ownsRow (w.heap.size + 3) 35 3 v k xs) (hW : Below wr.heap.size wr W) (hg : W.grownBy w5 v.ownBlock) (h5 : w5.ownsRow (w.heap.size + 3) 35 3 v5 (k + 1) (xs ++ news)) :
    Bxs w (w5.setCell ⟨r, 2, none⟩ v5) q r n t s v5 ∧ (w5.setCell ⟨r, 2, none⟩ v5).ownsRow (w.heap.size + 3) 35 3 v5 (k + 1) (xs ++ news) := by
  have hn : ∀ j, j < w.heap.size + 3 → ¬ v.ownBlock = some j := fun j hj e => by
    have := (hown.lt j e).1
    omega
  obtain ⟨h1, h2, h3, h4, hz⟩ := h
  have g1 := grown_blk hg ((hW.block _ (heap_lt h1)).trans h1) (hn _ (by omega))
  have g2 := grown_blk hg ((hW.block _ (heap_lt h2)).trans h2) (hn _ (by omega))
  have g3 := grown_blk hg ((hW.block _ (heap_lt h3)).trans h3) (hn _ (by omega))
  have hs := hW.size
  have hs5 := hg.size
  refine ⟨⟨?_, ?_, heap_setT g3, ?_, ?_⟩, own_setT h5 (by omega) _ _⟩
  · rw [Below.heap_setCell _ _ _ _ (by show w.heap.size ≠ r; omega)]
    exact g1
  · rw [Below.heap_setCell _ _ _ _ (by show q ≠ r; omega)]
    exact g2
  · refine Below.setCell ?_ (by show w.heap.size ≤ r; omega) _
    exact (h4.trans (hW.mono (by omega))).grown hg (by omega) (fun j hj => by have := (hown.lt j hj).1; omega)
  · have : (w5.setCell ⟨r, 2, none⟩ v5).heap.size = w5.heap.size := by simp [World.setCell]
    omega
theorem bxs_new (w : World) (n t : ByteArray) (s : Value) : Bxs w (((w.alloc (.cells #[.string n, .string t, s] 39)).alloc (.cells #[.string ⟨#[]⟩, .string ⟨#[]⟩, .slice none 0 0] 35)).alloc (.cells #[.string n, .string t, .slice none 0 0] 35)) (w.heap.size + 1) (w.heap.size + 1 + 1) n t s (.slice none 0 0) := by
  refine ⟨?_, ?_, heap_alloc_at (by simp), ?_, by simp⟩
  · rw [Below.heap_alloc _ _ _ (by simp; omega), Below.heap_alloc _ _ _ (by simp)]
    exact heap_alloc_new _ _
  · rw [Below.heap_alloc _ _ _ (by simp)]
    exact heap_alloc_at (by simp)
  · exact (((Below.refl _ _).alloc (Nat.le_refl _) _).alloc (by simp) _).alloc (by simp; omega) _

set_option maxRecDepth 20000 in
set_option maxHeartbeats 3200000 in
theorem to_list (n t : ByteArray) (ks : List (ByteArray × ByteArray)) (b c : Nat) (w : World) (hb : b < w.heap.size) (hk : ks.length ≤ 65536) (hl : Lvs w b ks) :
    Calls Tryd.prog 14 #[.agg #[.string n, .string t, .slice (some ⟨b, 0, none⟩) ks.length c]] w fun o w' => ∃ v, o = .returned (.agg #[.string n, .string t, v]) ∧ w'.ownsRow (w.heap.size + 3) 35 3 v ks.length (lcs ks) ∧ Below w.heap.size w w' := by
  have K := (show Hid (∀ n t W, Calls Tryd.prog 14 #[.agg #[.string n, .string t, .slice none 0 0]] W fun o w' => o = .returned (.agg #[.string n, .string t, .slice none 0 0]) ∧ Below W.heap.size W w') from to_leaf)
  obtain ⟨i0, hi, hz0, hz1, hz2⟩ := info_parts' info35
  obtain ⟨w0, hw0⟩ : ∃ w0, w0 = ((w.alloc (.cells #[.string n, .string t, .slice (some ⟨b, 0, none⟩) ks.length c] 39)).alloc (.cells #[.string ⟨#[]⟩, .string ⟨#[]⟩, .slice none 0 0] 35)).alloc (.cells #[.string n, .string t, .slice none 0 0] 35) := ⟨_, rfl⟩
  have H0 : Hid (Bxs w w0 (w.heap.size + 1) (w.heap.size + 1 + 1) n t (.slice (some ⟨b, 0, none⟩) ks.length c) (.slice none 0 0)) := by
    rw [hw0]
    exact bxs_new w n t _
  have HL : Hid (Lvs w b ks) := hl
  clear hl
  go_enter Tryd.func14, Tryd.ntmps14
  go_wp2
  rw [← hw0]
  clear hw0
  generalize hr : w.heap.size + 1 + 1 = r at H0 ⊢
  generalize hq : w.heap.size + 1 = q at H0 ⊢
  obtain ⟨p, hp⟩ : ∃ p, p = w.heap.size := ⟨_, rfl⟩
  have HQ : Hid (q = w.heap.size + 1 ∧ r = w.heap.size + 2 ∧ p = w.heap.size) := ⟨hq.symm, hr.symm, hp⟩
  rw [← hp]
  clear hr hq hp
  go_loopw [4] (fun i wx => ∃ (k : Nat) (v : Value), k ≤ ks.length ∧ i = .int .i64 k ∧ Bxs w wx q r n t (.slice (some ⟨b, 0, none⟩) ks.length c) v ∧ wx.ownsRow (w.heap.size + 3) 35 3 v k (lcs (ks.take k))) (fun i _ => ks.length - (intOf i).toNat)
  case atStart => exact ⟨0, .slice none 0 0, Nat.zero_le _, rfl, H0.out, by rw [List.take_zero]; exact World.ownsRow_nil _ _ _ _⟩
  case round =>
    obtain ⟨k, v, hkl, rfl, hbx, hown⟩ := hrel
    have hbp := hbx.1
    rw [← HQ.out.2.2] at hbp
    obtain ⟨⟨c0, c1, c2⟩, -⟩ := box_there hbp
    obtain ⟨⟨r0, r1, r2⟩, -, -, f2⟩ := box_there hbx.2.2.1
    have hrz : r < wr.heap.size := by have := HQ.out.2.1; have := hbx.2.2.2.2; omega
    have hpz : p < wr.heap.size := by have := HQ.out.2.2; have := hbx.2.2.2.2; omega
    have hbz : b < wr.heap.size := by have := hbx.2.2.2.2; omega
    by_cases hlt : k < ks.length
    · obtain ⟨l0, l1, l2⟩ := HL.out k hlt
      have e0 := (hbx.2.2.2.1.cell (p := ⟨b, k * 3, none⟩) hb).trans l0
      have e1 := (hbx.2.2.2.1.cell (p := ⟨b, k * 3 + 1, none⟩) hb).trans l1
      have e2 := (hbx.2.2.2.1.cell (p := ⟨b, k * 3 + 2, none⟩) hb).trans l2
      have HX : Hid (Bxs w wr q r n t (.slice (some ⟨b, 0, none⟩) ks.length c) v ∧ wr.ownsRow (w.heap.size + 3) 35 3 v k (lcs (ks.take k))) := ⟨hbx, hown⟩
      have HS : Hid (lcs (ks.take (k + 1)) = lcs (ks.take k) ++ [.string (ks[k]).1, .string (ks[k]).2, .slice none 0 0]) := by
        show _ = _
        rw [← lcs_app, List.take_succ_eq_append_getElem hlt]
      have hkI : (k : Int) < (ks.length : Int) := by omega
      have hk6 : k < 65536 := by omega
      generalize (ks[k]).1 = x at *
      generalize (ks[k]).2 = y at *
      have HC := (show Hid (∀ w', Below wr.heap.size wr w' → w'.cell? ⟨p, 2, none⟩ = some (.slice (some ⟨b, 0, none⟩) ks.length c) ∧ w'.cell? ⟨r, 2, none⟩ = some v ∧ w'.cell? ⟨b, k * 3, none⟩ = some (.string x) ∧ w'.cell? ⟨b, k * 3 + 1, none⟩ = some (.string y) ∧ w'.cell? ⟨b, k * 3 + 2, none⟩ = some (.slice none 0 0)) from fun w' h =>
        ⟨(h.cell (p := ⟨p, 2, none⟩) hpz).trans c2, (h.cell (p := ⟨r, 2, none⟩) hrz).trans r2, (h.cell (p := ⟨b, k * 3, none⟩) hbz).trans e0, (h.cell (p := ⟨b, k * 3 + 1, none⟩) hbz).trans e1, (h.cell (p := ⟨b, k * 3 + 2, none⟩) hbz).trans e2⟩)
      have HGR := (show Hid (∀ W w5, Below wr.heap.size wr W → W.grownBy w5 v.ownBlock → (w5.cell? ⟨p, 2, none⟩ = some (.slice (some ⟨b, 0, none⟩) ks.length c) ∧ w5.cell? ⟨r, 2, none⟩ = some v ∧ w5.cell? ⟨b, k * 3, none⟩ = some (.string x) ∧ w5.cell? ⟨b, k * 3 + 1, none⟩ = some (.string y) ∧ w5.cell? ⟨b, k * 3 + 2, none⟩ = some (.slice none 0 0)) ∧ w5.frozen? ⟨r, 2, none⟩ = false) from by
        intro W w5 hW hg
        have hn : ∀ j, j < w.heap.size + 3 → ¬ v.ownBlock = some j := fun j hj e => by
          have := (hown.lt j e).1
          omega
        have hW' := HC.out W hW
        have hpn := hn p (by have := HQ.out.2.2; omega)
        have hrn := hn r (by have := HQ.out.2.1; omega)
        have hbn := hn b (by omega)
        refine ⟨⟨hg.cell hW'.1 (fun e => hpn e.symm), hg.cell hW'.2.1 (fun e => hrn e.symm), hg.cell hW'.2.2.1 (fun e => hbn e.symm), hg.cell hW'.2.2.2.1 (fun e => hbn e.symm), hg.cell hW'.2.2.2.2 (fun e => hbn e.symm)⟩, ?_⟩
        have g3 := grown_blk hg ((hW.block _ (heap_lt hbx.2.2.1)).trans hbx.2.2.1) hrn
        exact (box_there g3).2.2.2)
      have HST := (show Hid (∀ (w5 : World) (a5 : Option Addr) (c5 : Nat), (w5.cell? ⟨p, 2, none⟩ = some (.slice (some ⟨b, 0, none⟩) ks.length c) ∧ w5.cell? ⟨b, k * 3, none⟩ = some (.string x) ∧ w5.cell? ⟨b, k * 3 + 1, none⟩ = some (.string y) ∧ w5.cell? ⟨b, k * 3 + 2, none⟩ = some (.slice none 0 0)) → ((w5.setCell ⟨r, 2, none⟩ (.slice a5 (k + 1) c5)).cell? ⟨p, 2, none⟩ = some (.slice (some ⟨b, 0, none⟩) ks.length c) ∧ (w5.setCell ⟨r, 2, none⟩ (.slice a5 (k + 1) c5)).cell? ⟨b, k * 3, none⟩ = some (.string x) ∧ (w5.setCell ⟨r, 2, none⟩ (.slice a5 (k + 1) c5)).cell? ⟨b, k * 3 + 1, none⟩ = some (.string y) ∧ (w5.setCell ⟨r, 2, none⟩ (.slice a5 (k + 1) c5)).cell? ⟨b, k * 3 + 2, none⟩ = some (.slice none 0 0))) from by
        intro w5 a5 c5 h
        have hc : ∀ (g o : Nat), g ≠ r → (w5.setCell ⟨r, 2, none⟩ (.slice a5 (k + 1) c5)).cell? ⟨g, o, none⟩ = w5.cell? ⟨g, o, none⟩ := fun g o hg => World.cell?_of_block (w := w5) (a := ⟨g, o, none⟩) (Below.heap_setCell _ _ _ _ hg)
        have e1 := HQ.out.2.1
        have e2 := HQ.out.2.2
        rw [hc p _ (by omega), hc b _ (by omega), hc b _ (by omega), hc b _ (by omega)]
        exact h)
      have hbase : w.heap.size + 3 ≤ wr.heap.size := hbx.2.2.2.2
      clear hbx hown l0 l1 l2 c0 c1 r0 r1
      go_wp2_with fail
      go_region_law
        (first
          | (refine step_append_own rfl (.tmp 18) (.tmp 25) 33 rfl (w.heap.size + 3) 35 i0 (.agg #[.string ⟨#[]⟩, .string ⟨#[]⟩, .slice none 0 0]) 3 56 Tryd.underlying33 hi hz0 hz1 hz2 rfl (by decide) _ _ _ rfl (own_below HX.out.2 (by first | exact hs1.alloc hs1.size _ | exact (hs1.alloc hs1.size _).drew) (Nat.le_refl _)) ⟨w1.heap.size, 0, none⟩ 1 1 [.string x, .string y, .slice none 0 0] rfl rfl (cell_three_new w1 _ _ _ _) (three_one _ _ _ _ _) (by unfold maxLen; omega) (by omega) (by simp; have := hs1.size; omega) ?_; intro v5 w5 hown5 hgrow5; obtain ⟨a5, c5, rfl⟩ := own_slice hown5; have s5 := (HGR.out _ w5 (by first | exact hs1.alloc hs1.size _ | exact (hs1.alloc hs1.size _).drew) hgrow5).1; have f5 := (HGR.out _ w5 (by first | exact hs1.alloc hs1.size _ | exact (hs1.alloc hs1.size _).drew) hgrow5).2; have r5 := s5.2.1; have HS5 := And.intro s5.1 s5.2.2; have HS6 := HST.out w5 a5 c5 HS5)
          | (go_simp; go_at_call 14; (with_reducible refine Calls.mono (K.out _ _ _) ?_); rintro e w1 ⟨rfl, hb1⟩; have hs1 : Below wr.heap.size wr w1 := (by first | exact hb1 | exact ((Below.refl _ _).drew).trans hb1); have s1 := HC.out _ hs1; have r1 := s1.2.1; have HS1 := And.intro s1.1 s1.2.2; have hrz1 : r < w1.heap.size := Nat.lt_of_lt_of_le hrz hs1.size))
      all_goals
        have HF : Hid (Bxs w (w5.setCell ⟨r, 2, none⟩ (.slice a5 (k + 1) c5)) q r n t (.slice (some ⟨b, 0, none⟩) ks.length c) (.slice a5 (k + 1) c5) ∧ (w5.setCell ⟨r, 2, none⟩ (.slice a5 (k + 1) c5)).ownsRow (w.heap.size + 3) 35 3 (.slice a5 (k + 1) c5) (k + 1) (lcs (ks.take (k + 1)))) := by
          rw [HS.out]
          exact Bxs.grow HX.out.1 HQ.out.1 HQ.out.2.1 HX.out.2 (by first | exact hs1.alloc hs1.size _ | exact (hs1.alloc hs1.size _).drew) hgrow5 hown5
        generalize w5.setCell ⟨r, 2, none⟩ (.slice a5 (k + 1) c5) = WF at HF ⊢
        clear hgrow5 hown5 s5 r5 f5 hs1 s1 r1 HS1 hrz1 HS5 HS6 HST HGR HC HX e0 e1 e2 c2 r2 f2
        go_wp2
        exact ⟨⟨k + 1, _, by omega, int_eq (by omega), HF.out.1, HF.out.2⟩, by simp only [intOf]; omega⟩
    · obtain rfl : k = ks.length := by omega
      rw [List.take_length] at hown
      obtain ⟨⟨q0, q1, q2⟩, g0, g1, g2⟩ := box_there hbx.2.1
      have hqz : q < wr.heap.size := heap_lt hbx.2.1
      obtain ⟨a, c', rfl⟩ := own_slice hown
      have HZ : Hid (Bxs w wr q r n t (.slice (some ⟨b, 0, none⟩) ks.length c) (.slice a ks.length c') ∧ wr.ownsRow (w.heap.size + 3) 35 3 (.slice a ks.length c') ks.length (lcs ks)) := ⟨hbx, hown⟩
      clear hbx hown
      go_wp2
      refine bodyPost_ret (results_cell_row rfl _ _ q 35 #[.string n, .string t, .slice a ks.length c'] (0, 0) _ rfl (heap_set3 HZ.out.1.2.1) Tryd.underlying35 rfl size35) rfl ⟨_, rfl, ?_, ?_⟩
      · have hq := HQ.out.1
        exact own_setT (own_setT (own_setT HZ.out.2 (by omega) _ _) (by omega) _ _) (by omega) _ _
      · have hq := HQ.out.1
        have hB := HZ.out.1.2.2.2.1
        exact ((hB.setCell (by show _ ≤ q; omega) _).setCell (by show _ ≤ q; omega) _).setCell (by show _ ≤ q; omega) _
end Go.Proofs.YtlaahendcdifgaaDoor
