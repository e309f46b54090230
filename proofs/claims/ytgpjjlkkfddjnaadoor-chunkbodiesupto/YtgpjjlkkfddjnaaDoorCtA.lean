/-
  cut: the pieces of data that make a chunk each.
-/
import Derived.Test.YtgpjjlkkfddjnaaDoorDcA
import Derived.Lib.AppendStr
import Derived.Deep.Cut
namespace Go.Proofs.YtgpjjlkkfddjnaaDoor
open Go.RowKit

/-- The data cut by sizes, and the empty piece that ends it. -/
def cutL : List UInt8 → List Int → List (List UInt8)
  | d, [] => if d = [] then [[]] else [d, []]
  | d, z :: zs => if 0 < z ∧ d ≠ [] then d.take z.toNat :: cutL (d.drop z.toNat) zs else cutL d zs
/-- Ints in memory. -/
def Ints (w : World) (a : Option Addr) (l : List Int) : Prop :=
  l = [] ∨ ∃ b off, a = some ⟨b, off, none⟩ ∧ b < w.heap.size ∧ ∀ j (h : j < l.length), w.cell? ⟨b, off + j, none⟩ = some (.int .i64 l[j])
/-- A piece: bytes that lie below B. -/
def PcAt (w : World) (B : Nat) (v : Value) (y : List UInt8) : Prop :=
  ∃ a c, v = .slice a y.length c ∧ y.length ≤ c ∧ Bytes w a y ∧ (∀ x, a = some x → x.spot = none ∧ x.block < B) ∧ (a = none → c = 0)
/-- Pieces. -/
structure Pcs (w : World) (B : Nat) (ps : List Value) (ys : List (List UInt8)) : Prop where
  len : ps.length = ys.length
  at_ : ∀ j (h : j < ys.length), PcAt w B (ps[j]'(by rw [len]; exact h)) ys[j]
theorem Pcs.snoc {w : World} {B : Nat} {ps : List Value} {ys : List (List UInt8)} (h : Pcs w B ps ys) {v : Value} {y : List UInt8} (hv : PcAt w B v y) : Pcs w B (ps ++ [v]) (ys ++ [y]) := by
  refine ⟨by simp [h.len], fun j hj => ?_⟩
  by_cases hlt : j < ys.length
  · have := h.at_ j hlt
    rw [List.getElem_append_left (by rw [h.len]; exact hlt), List.getElem_append_left hlt]
    exact this
  · have hj2 : j = ys.length := by
      have : j < ys.length + 1 := by simpa using hj
      omega
    subst hj2
    rw [List.getElem_append_right (by rw [h.len]; exact Nat.le_refl _), List.getElem_append_right (Nat.le_refl _)]
    simpa using hv
theorem from_lo {a : Option Addr} {cap k N : Nat} (h : ∀ x, a = some x → x.spot = none ∧ x.block < N) : ∀ x, fromA a cap k = some x → x.spot = none ∧ x.block < N := by
  intro x e
  unfold fromA at e
  split at e
  · exact h x e
  · cases a with
    | none => simp at e
    | some y =>
      obtain ⟨yb, yo, ys⟩ := y
      have := h _ rfl
      simp only at this
      obtain ⟨rfl, h2⟩ := this
      simp only [Option.map_some, Addr.add_lit, Option.some.injEq] at e
      subst e
      exact ⟨rfl, h2⟩
theorem from_nil {a : Option Addr} {cap k : Nat} (h : a = none → cap = 0) : fromA a cap k = none → cap - k = 0 := by
  intro e
  unfold fromA at e
  split at e
  · omega
  · have : a = none := by cases a with
      | none => rfl
      | some x => simp at e
    have := h this
    omega
theorem info22 : (Tryd.prog.info? 22).map (fun i => (i.zero, i.size, i.bytes)) = some (some (.slice none 0 0), 1, 24) := by kernel_rfl
/-- What cut's loop keeps. -/
structure CtI (w wr : World) (dv pv : Value) (D : List UInt8) (ps : List Value) (ys : List (List UInt8)) : Prop where
  d : PcAt w w.heap.size dv D
  own : wr.ownsRow w.heap.size 22 1 pv ps.length ps
  pc : Pcs w w.heap.size ps ys
  bl : Below w.heap.size w wr
theorem one_new (w : World) (a : Value) (t : TypeId) : ∀ j u, [a][j]? = some u → (w.alloc (.cells #[a] t)).cell? ((⟨w.heap.size, 0, none⟩ : Addr).add j) = some u := by
  intro j u hj
  rw [Addr.add_lit, World.cell?_alloc_mark]
  simpa using hj
theorem cut_go {d : List UInt8} {z : Int} {zs : List Int} (hz : 0 < z) (hd : d ≠ []) : cutL d (z :: zs) = d.take z.toNat :: cutL (d.drop z.toNat) zs := by rw [cutL, if_pos ⟨hz, hd⟩]
theorem cut_skip {d : List UInt8} {z : Int} {zs : List Int} (h : ¬ (0 < z ∧ d ≠ [])) : cutL d (z :: zs) = cutL d zs := by rw [cutL, if_neg h]
set_option maxRecDepth 20000 in
set_option maxHeartbeats 4000000 in
theorem cut_any (da : Option Addr) (data : List UInt8) (dc : Nat) (sa : Option Addr) (zs : List Int) (sc : Nat) (w : World) (hd : data.length ≤ dc) (hdl : data.length ≤ 1000000000) (hdB : Bytes w da data) (hdo : ∀ y, da = some y → y.spot = none ∧ y.block < w.heap.size) (hdn : da = none → dc = 0) (hS : Ints w sa zs) (hzl : zs.length ≤ 1000000000) :
    Calls Tryd.prog 30 #[.slice da data.length dc, .slice sa zs.length sc] w fun e w' => ∃ pv ps, e = .returned pv ∧ w'.ownsRow w.heap.size 22 1 pv ps.length ps ∧ Pcs w w.heap.size ps (cutL data zs) ∧ ps.length ≤ zs.length + 2 ∧ Below w.heap.size w w' := by
  have HZ := (show Hid (Ints w sa zs ∧ zs.length ≤ 1000000000) from ⟨hS, hzl⟩)
  have H0 := (show Hid (CtI w w (.slice da data.length dc) (.slice none 0 0) data [] []) from ⟨⟨da, dc, rfl, hd, hdB, hdo, hdn⟩, World.ownsRow_nil _ _ _ _, ⟨rfl, fun j h => by simp at h⟩, Below.refl _ _⟩)
  obtain ⟨i0, hi0, hz0, hz1, hz2⟩ := info_parts info22
  have HI0 := (show Hid (Tryd.prog.info? 22 = some i0 ∧ _ ∧ _ ∧ _) from ⟨hi0, hz0, hz1, hz2⟩)
  clear hS hzl hi0 hz0 hz1 hz2 hd hdB hdo hdn
  go_enter Tryd.func30, Tryd.ntmps30
  go_wp2_with fail
  go_loopw [0, 5, 11] (fun dv pv i wr => ∃ (k : Nat) (D : List UInt8) (ps : List Value) (ys : List (List UInt8)), k ≤ zs.length ∧ i = .int .i64 (k : Int) ∧ Hid (CtI w wr dv pv D ps ys ∧ ps.length ≤ k ∧ cutL data zs = ys ++ cutL D (zs.drop k) ∧ D.length ≤ 1000000000)) (fun _ _ i _ => zs.length - (intOf i).toNat)
  case atStart => exact ⟨0, data, [], [], Nat.zero_le _, rfl, ⟨H0.out, Nat.zero_le _, rfl, hdl⟩⟩
  case round =>
    obtain ⟨k, D, ps, ys, hk, rfl, hi⟩ := hrel
    obtain ⟨a1, c1, rfl, hc1, hB1, hl1, hn1⟩ := hi.out.1.d
    obtain ⟨pa, pc, rfl⟩ := own_slice hi.out.1.own
    have HD := (show Hid (D.length ≤ c1 ∧ Bytes w a1 D ∧ (∀ y, a1 = some y → y.spot = none ∧ y.block < w.heap.size) ∧ (a1 = none → c1 = 0)) from ⟨hc1, hB1, hl1, hn1⟩)
    clear hB1 hl1 hn1
    by_cases hlt : k < zs.length
    · have hki : (k : Int) < (zs.length : Int) := by omega
      have hk0 : (0 : Int) ≤ (k : Int) := by omega
      have hk9 : (k : Int) < 10000000000 := by have := HZ.out.2; omega
      rcases HZ.out.1 with hnil | ⟨b, off, rfl, hbs, hcs⟩
      · rw [hnil] at hlt; simp at hlt
      have hcell : wr.cell? ⟨b, off + k, none⟩ = some (.int .i64 zs[k]) := (hi.out.1.bl.cell (p := ⟨b, off + k, none⟩) hbs).trans (hcs k hlt)
      have hstep := hi.out.2.2.1
      rw [List.drop_eq_getElem_cons hlt] at hstep
      obtain ⟨z, hz⟩ : ∃ z, z = zs[k] := ⟨_, rfl⟩
      rw [← hz] at hcell hstep
      clear hz hcs
      by_cases hzp : 0 < z ∧ D ≠ []
      · rw [cut_go hzp.1 hzp.2] at hstep
        have hDl : 0 < D.length := List.length_pos_iff.2 hzp.2
        obtain ⟨n, hn1, hn2, hn3, hn4, hn5⟩ : ∃ n : Nat, 0 < n ∧ n ≤ D.length ∧ min z (D.length : Int) = (n : Int) ∧ D.take z.toNat = D.take n ∧ D.drop z.toNat = D.drop n := by
          by_cases hzl : z ≤ (D.length : Int)
          · exact ⟨z.toNat, by omega, by omega, by omega, rfl, rfl⟩
          · exact ⟨D.length, hDl, Nat.le_refl _, by omega, by rw [List.take_of_length_le (by omega), List.take_length], by rw [List.drop_eq_nil_of_le (by omega), List.drop_length]⟩
        rw [hn4, hn5] at hstep
        have HST := (show Hid _ from hstep)
        have hnp : (0 : Int) < (n : Int) := by omega
        have hnd : (n : Int) ≤ (D.length : Int) := by omega
        have hnc : (n : Int) ≤ (c1 : Int) := by omega
        have HPT := (show Hid (PcAt w w.heap.size (.slice a1 n c1) (D.take n)) from ⟨a1, c1, by rw [List.length_take]; congr 1; omega, by rw [List.length_take]; omega, bytes_take n HD.out.2.1, HD.out.2.2.1, HD.out.2.2.2⟩)
        have HPF := (show Hid (PcAt w w.heap.size (.slice (fromA a1 c1 n) (D.length - n) (c1 - n)) (D.drop n)) from ⟨_, _, by rw [List.length_drop], by rw [List.length_drop]; omega, bytes_from HD.out.2.1 HD.out.1, from_lo HD.out.2.2.1, from_nil HD.out.2.2.2⟩)
        have HN := (show Hid (n ≤ D.length) from hn2)
        have HOA := (show Hid ((wr.alloc (.cells #[Value.slice a1 n c1] 22)).ownsRow w.heap.size 22 1 (.slice pa ps.length pc) ps.length ps) from World.ownsRow.alloc hi.out.1.own _)
        have HBA := (show Hid (Below w.heap.size w (wr.alloc (.cells #[Value.slice a1 n c1] 22))) from hi.out.1.bl.alloc hi.out.1.bl.size _)
        clear hn4 hn5 hstep hzp hn2 hDl hnp
        go_wp2_with (at_builtin; (refine wpList_append_own _ rfl (.tmp 21) (.tmp 25) 66 rfl w.heap.size 22 i0 _ 1 24 Tryd.underlying66 HI0.out.1 HI0.out.2.1 HI0.out.2.2.1 HI0.out.2.2.2 rfl (by omega) (.slice pa ps.length pc) ps.length ps rfl HOA.out ⟨wr.heap.size, 0, none⟩ 1 1 [Value.slice a1 n c1] rfl rfl (one_new _ _ _) (fun u hu => by simp only [List.mem_singleton] at hu; subst hu; rfl) (by have := hi.out.2.1; have := HZ.out.2; unfold maxLen; omega) (by have := hi.out.2.1; have := HZ.out.2; omega) HBA.out.size ?_); intro v3 w3 hown3 hg3 _; have HO3 := (show Hid (w3.ownsRow w.heap.size 22 1 v3 (ps ++ [Value.slice a1 n c1]).length (ps ++ [Value.slice a1 n c1]) ∧ Below w.heap.size w w3) from ⟨by rw [List.length_append]; exact hown3, HBA.out.grown hg3 HBA.out.size (fun j hj => (World.ownsRow.lt HOA.out j hj).1)⟩); clear hown3 hg3)
        all_goals
          go_roundw
          case rel => exact ⟨k + 1, D.drop n, ps ++ [Value.slice a1 n c1], ys ++ [D.take n], by omega, by go_num, ⟨⟨by simpa [fromA, *] using HPF.out, HO3.out.1, hi.out.1.pc.snoc HPT.out, HO3.out.2⟩, by rw [List.length_append]; have := hi.out.2.1; simp only [List.length_cons, List.length_nil]; omega, by rw [HST.out]; simp, by rw [List.length_drop]; have := hi.out.2.2.2; omega⟩⟩
          case measure => simp [intOf]; omega
      · rw [cut_skip hzp] at hstep
        have HST := (show Hid _ from hstep)
        have hmin : ¬ 0 < min z (D.length : Int) := by
          intro h
          apply hzp
          refine ⟨by omega, fun e => ?_⟩
          rw [e] at h
          simp only [List.length_nil] at h
          omega
        clear hzp hstep
        go_wp2_with fail
        all_goals
          go_roundw
          case rel => exact ⟨k + 1, D, ps, ys, by omega, by go_num, ⟨hi.out.1, by have := hi.out.2.1; omega, HST.out, hi.out.2.2.2⟩⟩
          case measure => simp [intOf]; omega
    · obtain rfl : k = zs.length := by omega
      have hstep := hi.out.2.2.1
      rw [List.drop_length, cutL] at hstep
      have HPN := (show Hid (PcAt w w.heap.size (.slice none 0 0) []) from ⟨none, 0, rfl, Nat.le_refl _, .inl rfl, (fun x hx => by cases hx), fun _ => rfl⟩)
      by_cases h0 : D = []
      · rw [if_pos h0] at hstep
        have HST := (show Hid _ from hstep)
        have hD0 : ¬ 0 < D.length := by rw [h0]; simp
        have HOA := (show Hid ((wr.alloc (.cells #[.slice none 0 0] 22)).ownsRow w.heap.size 22 1 (.slice pa ps.length pc) ps.length ps) from World.ownsRow.alloc hi.out.1.own _)
        have HBA := (show Hid (Below w.heap.size w (wr.alloc (.cells #[.slice none 0 0] 22))) from hi.out.1.bl.alloc hi.out.1.bl.size _)
        clear hstep h0
        go_wp2_with (at_builtin; refine wpList_append_own _ rfl (.tmp 38) (.tmp 39) 66 rfl w.heap.size 22 i0 _ 1 24 Tryd.underlying66 HI0.out.1 HI0.out.2.1 HI0.out.2.2.1 HI0.out.2.2.2 rfl (by omega) (.slice pa ps.length pc) ps.length ps rfl HOA.out ⟨wr.heap.size, 0, none⟩ 1 1 [Value.slice none 0 0] rfl rfl (one_new _ _ _) (fun u hu => by simp only [List.mem_singleton] at hu; subst hu; rfl) (by have := hi.out.2.1; have := HZ.out.2; unfold maxLen; omega) (by have := hi.out.2.1; have := HZ.out.2; omega) HBA.out.size ?_; intro v3 w3 hown3 hg3 _; have HO3 := (show Hid (w3.ownsRow w.heap.size 22 1 v3 (ps ++ [Value.slice none 0 0]).length (ps ++ [Value.slice none 0 0]) ∧ Below w.heap.size w w3) from ⟨by rw [List.length_append]; exact hown3, HBA.out.grown hg3 HBA.out.size (fun j hj => (World.ownsRow.lt HOA.out j hj).1)⟩); clear hown3 hg3)
        go_ret
        exact ⟨_, _, rfl, HO3.out.1, by rw [HST.out]; exact hi.out.1.pc.snoc HPN.out, by rw [List.length_append]; have := hi.out.2.1; simp only [List.length_cons, List.length_nil]; omega, HO3.out.2⟩
      · rw [if_neg h0] at hstep
        have HST := (show Hid _ from hstep)
        have hD0 : 0 < D.length := List.length_pos_iff.2 h0
        have HOA := (show Hid ((wr.alloc (.cells #[.slice a1 D.length c1] 22)).ownsRow w.heap.size 22 1 (.slice pa ps.length pc) ps.length ps) from World.ownsRow.alloc hi.out.1.own _)
        have HBA := (show Hid (Below w.heap.size w (wr.alloc (.cells #[.slice a1 D.length c1] 22))) from hi.out.1.bl.alloc hi.out.1.bl.size _)
        clear hstep h0
        go_upto_region 12 with (at_builtin; refine wpList_append_own _ rfl (.tmp 34) (.tmp 36) 66 rfl w.heap.size 22 i0 _ 1 24 Tryd.underlying66 HI0.out.1 HI0.out.2.1 HI0.out.2.2.1 HI0.out.2.2.2 rfl (by omega) (.slice pa ps.length pc) ps.length ps rfl HOA.out ⟨wr.heap.size, 0, none⟩ 1 1 [Value.slice a1 D.length c1] rfl rfl (one_new _ _ _) (fun u hu => by simp only [List.mem_singleton] at hu; subst hu; rfl) (by have := hi.out.2.1; have := HZ.out.2; unfold maxLen; omega) (by have := hi.out.2.1; have := HZ.out.2; omega) HBA.out.size ?_; intro v3 w3 hown3 hg3 _; have HO3 := (show Hid (w3.ownsRow w.heap.size 22 1 v3 (ps.length + 1) (ps ++ [Value.slice a1 D.length c1]) ∧ Below w.heap.size w w3) from ⟨hown3, HBA.out.grown hg3 HBA.out.size (fun j hj => (World.ownsRow.lt HOA.out j hj).1)⟩); clear hown3 hg3)
        have HOB := (show Hid ((w3.alloc (.cells #[.slice none 0 0] 22)).ownsRow w.heap.size 22 1 v3 (ps.length + 1) (ps ++ [Value.slice a1 D.length c1])) from World.ownsRow.alloc HO3.out.1 _)
        have HBB := (show Hid (Below w.heap.size w (w3.alloc (.cells #[.slice none 0 0] 22))) from HO3.out.2.alloc HO3.out.2.size _)
        go_wp2_with (at_builtin; refine wpList_append_own _ rfl (.tmp 38) (.tmp 39) 66 rfl w.heap.size 22 i0 _ 1 24 Tryd.underlying66 HI0.out.1 HI0.out.2.1 HI0.out.2.2.1 HI0.out.2.2.2 rfl (by omega) v3 (ps.length + 1) (ps ++ [Value.slice a1 D.length c1]) rfl HOB.out ⟨w3.heap.size, 0, none⟩ 1 1 [Value.slice none 0 0] rfl rfl (one_new _ _ _) (fun u hu => by simp only [List.mem_singleton] at hu; subst hu; rfl) (by have := hi.out.2.1; have := HZ.out.2; unfold maxLen; omega) (by have := hi.out.2.1; have := HZ.out.2; omega) HBB.out.size ?_; intro v4 w4 hown4 hg4 _; have HO4 := (show Hid (w4.ownsRow w.heap.size 22 1 v4 (ps ++ [Value.slice a1 D.length c1] ++ [Value.slice none 0 0]).length (ps ++ [Value.slice a1 D.length c1] ++ [Value.slice none 0 0]) ∧ Below w.heap.size w w4) from ⟨by rw [List.length_append, List.length_append]; exact hown4, HBB.out.grown hg4 HBB.out.size (fun j hj => (World.ownsRow.lt HOB.out j hj).1)⟩); clear hown4 hg4)
        go_ret
        exact ⟨_, _, rfl, HO4.out.1, by rw [HST.out, show ys ++ [D, []] = ys ++ [D] ++ [[]] from by simp]; exact (hi.out.1.pc.snoc ⟨a1, c1, rfl, HD.out⟩).snoc HPN.out, by rw [List.length_append, List.length_append]; have := hi.out.2.1; simp only [List.length_cons, List.length_nil]; omega, HO4.out.2⟩
end Go.Proofs.YtgpjjlkkfddjnaaDoor
