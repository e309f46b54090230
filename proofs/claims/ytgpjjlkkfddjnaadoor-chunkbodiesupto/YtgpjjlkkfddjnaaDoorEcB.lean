/-
  chunk.Encode: the walk.
-/
import Derived.Test.YtgpjjlkkfddjnaaDoorEcA
import Derived.Deep.CutRange
namespace Go.Proofs.YtgpjjlkkfddjnaaDoor
open Go.RowKit

theorem own_base {w : World} {base base' : Nat} {v : Value} {l : List UInt8} (h : Own w base v l) (hb : base' ≤ base) : Own w base' v l := by
  obtain ⟨h0, h1 | ⟨g, cap, cur, e, hg, rest⟩⟩ := h
  · exact ⟨h0, .inl h1⟩
  · exact ⟨h0, .inr ⟨g, cap, cur, e, Nat.le_trans hb hg, rest⟩⟩
theorem cut_flat : ∀ (zs : List Int) (d : List UInt8), (cutL d zs).flatten = d
  | [], d => by
    rw [cutL]
    split
    · next h => rw [h]; rfl
    · simp
  | z :: zs, d => by
    rw [cutL]
    split
    · rw [List.flatten_cons, cut_flat zs, List.take_append_drop]
    · exact cut_flat zs d
theorem cut_len : ∀ (zs : List Int) (d : List UInt8), (cutL d zs).length ≤ zs.length + 2
  | [], d => by
    rw [cutL]
    split <;> simp
  | z :: zs, d => by
    rw [cutL]
    split
    · have := cut_len zs (d.drop z.toNat)
      simp only [List.length_cons]
      omega
    · have := cut_len zs d
      simp only [List.length_cons]
      omega
theorem encF_len {key date scope : List UInt8} : ∀ (ps : List (List UInt8)) (last : List UInt8), (encF key date scope last ps).length ≤ 164 * ps.length + ps.flatten.length
  | [], last => by simp [encF]
  | p :: ps, last => by
    have h1 := encF_len (key := key) (date := date) (scope := scope) ps (sgL key date scope last p)
    have h2 := chkT_len (sgL key date scope last p) p
    rw [sgL_len] at h2
    simp only [encF, List.length_append, List.length_cons, List.flatten_cons]
    omega
theorem flat_take (ys : List (List UInt8)) (k : Nat) : (ys.take k).flatten.length ≤ ys.flatten.length := by
  have h : ys.flatten = (ys.take k).flatten ++ (ys.drop k).flatten := by rw [← List.flatten_append, List.take_append_drop]
  rw [h, List.length_append]
  omega
theorem piece_le {ys : List (List UInt8)} {k : Nat} (h : k < ys.length) : ys[k].length ≤ ys.flatten.length := by
  have h1 := flat_take ys (k + 1)
  rw [List.take_succ_eq_append_getElem h, List.flatten_append, List.length_append] at h1
  simp only [List.flatten_cons, List.flatten_nil, List.append_nil] at h1
  omega
set_option maxRecDepth 20000 in
set_option maxHeartbeats 4000000 in
theorem encode_any (x : Wh) (ka : Option Addr) (kc : Nat) (da : Option Addr) (data : List UInt8) (dc : Nat) (sa : Option Addr) (zs : List Int) (sc : Nat) (w : World) (hk : x.key.length ≤ kc) (hkl : x.key.length ≤ 1000000000) (hkB : Bytes w ka x.key)
    (h1 : x.date.length ≤ 1000000000) (h2 : x.scope.length ≤ 1000000000) (h3 : x.sig.length ≤ 1000000000)
    (hd : data.length ≤ dc) (hdl : data.length ≤ 1000000000) (hdB : Bytes w da data) (hdo : ∀ y, da = some y → y.spot = none ∧ y.block < w.heap.size) (hdn : da = none → dc = 0) (hS : Ints w sa zs) (hzl : zs.length ≤ 100000000) (ht : Tz w) :
    Calls Tryd.prog 15 #[x.v ka kc, .slice da data.length dc, .slice sa zs.length sc] w fun e w' => ∃ v, e = .returned v ∧ Own w' w.heap.size v (encL x data zs) ∧ Below w.heap.size w w' := by
  obtain ⟨W0, hW0⟩ : ∃ W0, W0 = w.alloc (.cells #[.string ⟨x.id.toArray⟩, .string ⟨x.date.toArray⟩, .string ⟨x.scope.toArray⟩, .string ⟨x.sig.toArray⟩, .slice ka x.key.length kc, .string ⟨x.pay.toArray⟩] 24) := ⟨_, rfl⟩
  obtain ⟨N, hN⟩ : ∃ N, N = w.heap.size := ⟨_, rfl⟩
  have n0 : W0.heap[N]? = some (.cells #[.string ⟨x.id.toArray⟩, .string ⟨x.date.toArray⟩, .string ⟨x.scope.toArray⟩, .string ⟨x.sig.toArray⟩, .slice ka x.key.length kc, .string ⟨x.pay.toArray⟩] 24 (0, 0)) := by rw [hW0, hN]; exact heap_alloc_new w _
  have hb0 : Below w.heap.size w W0 := by rw [hW0]; exact (Below.refl _ _).alloc (Nat.le_refl _) _
  have HS0 : Ints W0 sa zs := by
    rcases hS with h | ⟨b, off, e1, e2, e3⟩
    · exact .inl h
    · exact .inr ⟨b, off, e1, Nat.lt_of_lt_of_le e2 hb0.size, fun j hj => (hb0.cell (p := ⟨b, off + j, none⟩) e2).trans (e3 j hj)⟩
  have K1 := (show Hid _ from cut_any da data dc sa zs sc W0 hd hdl (hdB.below hb0 (Nat.le_refl _)) (fun y hy => ⟨(hdo y hy).1, Nat.lt_of_lt_of_le (hdo y hy).2 hb0.size⟩) hdn HS0 (by omega))
  have HW := (show Hid (x.key.length ≤ kc ∧ x.key.length ≤ 1000000000 ∧ Bytes W0 ka x.key ∧ x.date.length ≤ 1000000000 ∧ x.scope.length ≤ 1000000000 ∧ x.sig.length ≤ 1000000000 ∧ data.length ≤ 1000000000 ∧ zs.length ≤ 100000000 ∧ Tz W0) from ⟨hk, hkl, hkB.below hb0 (Nat.le_refl _), h1, h2, h3, hdl, hzl, ht.below hb0 (Nat.le_refl _)⟩)
  obtain ⟨ys, hys⟩ : ∃ ys, ys = cutL data zs := ⟨_, rfl⟩
  have HY := (show Hid (ys.flatten = data ∧ ys.length ≤ zs.length + 2) from by rw [hys]; exact ⟨cut_flat zs data, cut_len zs data⟩)
  obtain ⟨E, hE⟩ : ∃ E, E = encL x data zs := ⟨_, rfl⟩
  have HE := (show Hid (E = encF x.key x.date x.scope x.sig ys) from by show _ = _; rw [hE, encL, hys])
  rw [← hys] at K1
  rw [← hE]
  have HB0 := (show Hid (Below w.heap.size w W0) from hb0)
  have HN0 := (show Hid _ from n0)
  obtain ⟨x0, x1, x2, x3, x4, x5⟩ := six_of n0
  clear hk hkl hkB h1 h2 h3 hd hdl hdB hdo hdn hS hzl ht n0 hb0 HS0 hys hE
  unfold Wh.v
  go_enter Tryd.func15, Tryd.ntmps15
  go_upto_region 1 with fail
  rw [← hN, ← hW0]
  clear hN hW0
  go_wp2_with fail
  refine Calls.mono K1.out ?_
  rintro e W1 ⟨pv, ps, rfl, hpo, hpp, hpl, hb1⟩
  obtain ⟨pa, pc, rfl⟩ := own_slice hpo
  have H1 := (show Hid (W1.ownsRow W0.heap.size 22 1 (.slice pa ps.length pc) ps.length ps ∧ Pcs W0 W0.heap.size ps ys ∧ Below W0.heap.size W0 W1) from ⟨hpo, hpp, hb1⟩)
  have HPY : Hid (ps.length = ys.length) := hpp.len
  have n1 := (hb1.block N (blk_lt HN0.out)).trans HN0.out
  have HI := (show Hid (EcI W1 W1 N x ka kc [] (.slice none 0 0)) from ⟨n1, World.ownsRow_nil _ _ _ _, Below.refl _ _⟩)
  clear hpo hpp hb1 K1 n1 x0 x1 x2 x3 x4 x5
  go_wp2_with fail
  go_loopw [7, 8, 17] (fun lv bv i wr => ∃ k : Nat, k ≤ ps.length ∧ i = .int .i64 (k : Int) ∧ lv = .string ⟨(lastF x.key x.date x.scope x.sig (ys.take k)).toArray⟩ ∧ Hid (EcI W1 wr N x ka kc (encF x.key x.date x.scope x.sig (ys.take k)) bv)) (fun _ _ i _ => ps.length - (intOf i).toNat)
  case atStart => exact ⟨0, Nat.zero_le _, rfl, rfl, HI.out⟩
  case round =>
    obtain ⟨k, hk, rfl, rfl, hi⟩ := hrel
    by_cases hlt : k < ps.length
    · have hki : (k : Int) < (ps.length : Int) := by omega
      have hk0 : (0 : Int) ≤ (k : Int) := by omega
      have hky : k < ys.length := by have := HPY.out; omega
      have hk9 : (k : Int) < 1000000000 := by have := HPY.out; have := HY.out.2; have := HW.out.2.2.2.2.2.2.2.1; omega
      have hkN : k < 1000000000 := by omega
      obtain ⟨g, rfl, hg⟩ : ∃ g, pa = some ⟨g, 0, none⟩ ∧ g < W1.heap.size := by
        have ho := H1.out.1
        rcases ho.2 with ⟨e, h0⟩ | ⟨g, c2, cur, e, _, hgg, _⟩
        · omega
        · simp only [Value.slice.injEq] at e
          exact ⟨g, e.1, blk_lt hgg⟩
      have hcell : W1.cell? ⟨g, k, none⟩ = ps[k]? := World.ownsRow.cellAt H1.out.1 k (by omega)
      obtain ⟨qa, qc, hv, hqc, hqB, hqo, hqn⟩ := H1.out.2.1.at_ k hky
      rw [List.getElem?_eq_getElem hlt, hv] at hcell
      have hpl2 : ys[k].length ≤ data.length := by
        have := piece_le hky
        rw [HY.out.1] at this
        exact this
      have htk : ys.take (k + 1) = ys.take k ++ [ys[k]] := by rw [List.take_succ_eq_append_getElem hky]
      obtain ⟨p, hp⟩ : ∃ p, p = ys[k] := ⟨_, rfl⟩
      rw [← hp] at hcell hqc hqB hpl2 htk
      have hLl := lastF_len (key := x.key) (date := x.date) (scope := x.scope) (ys.take k) x.sig HW.out.2.2.2.2.2.1
      have hBl := encF_len (key := x.key) (date := x.date) (scope := x.scope) (ys.take k) x.sig
      have hfl := flat_take ys k
      rw [HY.out.1] at hfl
      have HTL := (show Hid (lastF x.key x.date x.scope x.sig (ys.take (k + 1)) = sgL x.key x.date x.scope (lastF x.key x.date x.scope x.sig (ys.take k)) p ∧ encF x.key x.date x.scope x.sig (ys.take (k + 1)) = encF x.key x.date x.scope x.sig (ys.take k) ++ chkT (sgL x.key x.date x.scope (lastF x.key x.date x.scope x.sig (ys.take k)) p) p) from by rw [htk]; exact ⟨lastF_snoc _ _, encF_snoc _ _⟩)
      obtain ⟨LS, hLS⟩ : ∃ LS, LS = lastF x.key x.date x.scope x.sig (ys.take k) := ⟨_, rfl⟩
      obtain ⟨BD, hBD⟩ : ∃ BD, BD = encF x.key x.date x.scope x.sig (ys.take k) := ⟨_, rfl⟩
      rw [← hBD, ← hLS] at HTL
      rw [← hLS] at hLl ⊢
      rw [← hBD] at hi hBl
      have hbW : Below W0.heap.size W0 wr := H1.out.2.2.trans (hi.out.bl.mono H1.out.2.2.size)
      have K2 := (show Hid _ from sign_any x ka kc LS p qa qc wr HW.out.1 HW.out.2.1 (HW.out.2.2.1.below hbW (Nat.le_refl _)) hqc (by have := HW.out.2.2.2.2.2.2.1; omega) (hqB.below hbW (Nat.le_refl _)) HW.out.2.2.2.1 HW.out.2.2.2.2.1 hLl)
      obtain ⟨SG, hSG⟩ : ∃ SG, SG = sgL x.key x.date x.scope LS p := ⟨_, rfl⟩
      have hSGl : SG.length = 64 := by rw [hSG]; exact sgL_len _ _ _ _ _
      rw [← hSG] at K2 HTL
      unfold Wh.v at K2
      have HQ := (show Hid (p.length ≤ qc ∧ Bytes W0 qa p ∧ (qa = none → qc = 0) ∧ SG.length = 64 ∧ BD.length ≤ 30000000000 ∧ p.length ≤ 1000000000 ∧ k < ps.length) from ⟨hqc, hqB, hqn, hSGl, by
        have h1 := HW.out.2.2.2.2.2.2.1
        have h2 := HW.out.2.2.2.2.2.2.2.1
        have h3 := HY.out.2
        have h9 := HPY.out
        have h4 : (ys.take k).length ≤ k := by rw [List.length_take]; omega
        have h5 : 164 * (ys.take k).length ≤ 164 * k := Nat.mul_le_mul_left _ h4
        omega, by have := HW.out.2.2.2.2.2.2.1; omega, hlt⟩)
      have c0 : wr.cell? ⟨g, k, none⟩ = some (.slice qa p.length qc) := (hi.out.bl.cell (p := ⟨g, k, none⟩) hg).trans hcell
      obtain ⟨x0, x1, x2, x3, x4, x5⟩ := six_of hi.out.who
      have HBW := (show Hid (Below W0.heap.size W0 wr) from hbW)
      clear hqc hqB hqn hqo hSGl hSG hBD hLS hp hv hcell hLl hBl hfl htk hbW hky hpl2 hkN
      go_wp2_with fail
      refine Calls.mono K2.out ?_
      rintro e w2 ⟨rfl, hb2⟩
      have HB2 := (show Hid (Below wr.heap.size wr w2) from hb2)
      have K3 := (show Hid _ from format_any p.length w2 (by have := HQ.out.2.2.2.2.2.1; omega) (HW.out.2.2.2.2.2.2.2.2.below (HBW.out.trans (hb2.mono HBW.out.size)) (Nat.le_refl _)))
      clear hb2 K2 c0 x0 x1 x2 x3 x4 x5
      go_wp2_with fail
      refine Calls.mono K3.out ?_
      rintro e w3 ⟨rfl, hb3⟩
      have HI3 := (show Hid (EcI W1 w3 N x ka kc BD _) from hi.out.keep (HB2.out.trans (hb3.mono HB2.out.size)))
      have hxl := hxF_len 64 p.length
      rw [show hxF 64 p.length = hxN p.length from rfl] at hxl
      have HX := (show Hid ((hxN p.length).length ≤ 64) from hxl)
      obtain ⟨HS, hHS⟩ : ∃ HS : ByteArray, HS = ⟨(hxN p.length).toArray⟩ := ⟨_, rfl⟩
      have hHz : HS.size ≤ 64 := by rw [hHS]; simpa [ByteArray.size] using hxl
      obtain ⟨GS, hGS⟩ : ∃ GS : ByteArray, GS = ⟨SG.toArray⟩ := ⟨_, rfl⟩
      have hGz : GS.size ≤ 64 := by rw [hGS]; have := HQ.out.2.2.2.1; simp [ByteArray.size]; omega
      rw [← hHS, ← hGS]
      have HSE := (show Hid (HS.data.toList = hxN p.length ∧ GS.data.toList = SG) from by rw [hHS, hGS]; exact ⟨by simp, by simp⟩)
      have HGS := (show Hid (GS = ⟨SG.toArray⟩) from hGS)
      clear hHS hGS
      clear hb3 K3
      have hq9 : ¬ (HS.size + 17 > 9223372036854775807) := by omega
      have hq8 : ¬ (HS.size + 17 + GS.size > 9223372036854775807) := by omega
      have hq7 : ¬ (HS.size + 17 + GS.size + 2 > 9223372036854775807) := by omega
      clear hHz hGz hxl
      go_upto_region 8 with (at_builtin; refine wpList_body_str HI3.out rfl (.tmp 25) (.tmp 32) rfl rfl _ (hxN p.length ++ sigT ++ SG ++ crT) rfl (by have := HSE.out; simp [sigT, crT, this.1, this.2]) (by have := HQ.out; have := HX.out; simp only [List.length_append, sigT, crT, List.length_cons, List.length_nil]; omega) ?_; intro v4 w4 h4 _; have HI4 := (show Hid (EcI W1 w4 N x ka kc (BD ++ (hxN p.length ++ sigT ++ SG ++ crT)) v4) from h4); clear h4)
      have HB4 := (show Hid (Bytes w4 qa p) from HQ.out.2.1.below (H1.out.2.2.trans (HI4.out.bl.mono H1.out.2.2.size)) (Nat.le_refl _))
      go_upto_region 9 with (at_builtin; refine wpList_body_sl HI4.out rfl (.tmp 34) (.tmp 35) rfl rfl qa p qc rfl HB4.out HQ.out.1 HQ.out.2.2.1 (by have := HQ.out; have := HX.out; simp only [List.length_append, sigT, crT, List.length_cons, List.length_nil]; omega) ?_; intro v5 w5 h5 _; have HI5 := (show Hid (EcI W1 w5 N x ka kc (BD ++ (hxN p.length ++ sigT ++ SG ++ crT) ++ p) v5) from h5); clear h5)
      go_wp2_with (at_builtin; refine wpList_body_str HI5.out rfl (.tmp 37) _ rfl rfl ⟨#[13, 10]⟩ crT rfl rfl (by have := HQ.out; have := HX.out; simp only [List.length_append, sigT, crT, List.length_cons, List.length_nil]; omega) ?_; intro v6 w6 h6 _; have HI6 := (show Hid (EcI W1 w6 N x ka kc (BD ++ (hxN p.length ++ sigT ++ SG ++ crT) ++ p ++ crT) v6) from h6); clear h6)
      go_roundw
      case rel => exact ⟨k + 1, by have := HQ.out; omega, by go_num, by rw [HTL.out.1, HGS.out], by rw [HTL.out.2, show BD ++ chkT SG p = BD ++ (hxN p.length ++ sigT ++ SG ++ crT) ++ p ++ crT from by simp [chkT, List.append_assoc]]; exact HI6.out⟩
      case measure => simp [intOf]; have := HQ.out; omega
    · obtain rfl : k = ps.length := by omega
      have HR := (show Hid (E = encF x.key x.date x.scope x.sig (ys.take ps.length)) from by show _ = _; rw [HE.out, HPY.out, List.take_length])
      go_wp2_with fail
      go_ret
      rw [HR.out]
      exact ⟨_, rfl, own_base hi.out.own (Nat.le_trans HB0.out.size H1.out.2.2.size), HB0.out.trans ((H1.out.2.2.trans (hi.out.bl.mono H1.out.2.2.size)).mono HB0.out.size)⟩
end Go.Proofs.YtgpjjlkkfddjnaaDoor
