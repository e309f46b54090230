/-
  The document's Encode.
-/
import Derived.Test.YtgpjjlkkfddjnaaDoorReB
import Derived.Test.YtgpjjlkkfddjnaaDoorRrF
namespace Go.Proofs.YtgpjjlkkfddjnaaDoor
open Go.RowKit

def lenV (v : Value) : Nat := match v with
  | .slice _ n _ => n
  | _ => 0
theorem cut_nil : ∀ zs : List Int, cutL [] zs = [[]]
  | [] => by simp [cutL]
  | z :: zs => by rw [cut_skip (by simp), cut_nil zs]
theorem cr_bytes (w : World) : Bytes (w.alloc (.cells #[.int .u8 13, .int .u8 10] 5)) (some ⟨w.heap.size, 0, none⟩) crT := by
  refine .inr ⟨w.heap.size, 0, rfl, by show _ < (w.heap.push _).size; simp, fun j hj => ?_⟩
  rw [cell_blk (heap_alloc_new w _)]
  have h2 : j < 2 := hj
  match j, h2 with
  | 0, _ => rfl
  | 1, _ => rfl
set_option maxRecDepth 20000 in
set_option maxHeartbeats 4000000 in
theorem rencode_any (x : Wh) (ka : Option Addr) (kc : Nat) (da : Option Addr) (data : List UInt8) (dc : Nat) (sa : Option Addr) (zs : List Int) (sc : Nat) (w : World) (hx : WhOk w x ka kc) (hkn : ka = none → kc = 0) (hd : Sl w da dc data) (hdl : data.length ≤ 1000000000) (hS : Ints w sa zs) (hzl : zs.length ≤ 100000000) :
    Calls Tryd.prog 16 #[x.v ka kc, .slice da data.length dc, .slice sa zs.length sc] w fun e w' => ∃ v, e = .returned v ∧ Own w' w.heap.size v (encL x data zs) ∧ Below w.heap.size w w' := by
  have HX := (show Hid (WhOk w x ka kc ∧ (ka = none → kc = 0)) from ⟨hx, hkn⟩)
  have HZ := (show Hid (Ints w sa zs ∧ zs.length ≤ 100000000) from ⟨hS, hzl⟩)
  obtain ⟨W, hW⟩ : ∃ W, W = w.alloc (.cells #[.string ⟨x.id.toArray⟩, .string ⟨x.date.toArray⟩, .string ⟨x.scope.toArray⟩, .string ⟨x.sig.toArray⟩, .slice ka x.key.length kc, .string ⟨x.pay.toArray⟩] 30) := ⟨_, rfl⟩
  obtain ⟨N, hN⟩ : ∃ N, N = w.heap.size := ⟨_, rfl⟩
  have nN : W.heap[N]? = some (.cells #[.string ⟨x.id.toArray⟩, .string ⟨x.date.toArray⟩, .string ⟨x.scope.toArray⟩, .string ⟨x.sig.toArray⟩, .slice ka x.key.length kc, .string ⟨x.pay.toArray⟩] 30 (0, 0)) := by rw [hW, hN]; exact heap_alloc_new w _
  have hbW : Below w.heap.size w W := by rw [hW]; exact (Below.refl _ _).alloc (Nat.le_refl _) _
  obtain ⟨E, hE⟩ : ∃ E, E = encL x data zs := ⟨_, rfl⟩
  have HE := (show Hid (E = encF x.key x.date x.scope x.sig (cutL data zs) ∧ E.length ≤ 20000000000) from ⟨hE, by have := encL_len x data zs; rw [hE]; omega⟩)
  have HI := (show Hid (ErI w W N x ka kc [] (.slice none 0 0) ∧ Sl w da dc data ∧ data.length ≤ 1000000000) from ⟨⟨nN, World.ownsRow_nil _ _ _ _, hbW⟩, hd, hdl⟩)
  obtain ⟨x0, x1, x2, x3, x4, x5⟩ := six_of nN
  rw [← hE]
  clear hx hkn hd hS hzl nN hbW hE
  unfold Wh.v
  go_enter Tryd.func16, Tryd.ntmps16
  go_wp2_with fail
  rw [← hW, ← hN]
  clear hW hN x0 x1 x2 x3 x4 x5
  go_loopw [1, 7, 8, 9] (fun dv bv lv i wr => ∃ (k : Nat) (D body last : List UInt8) (da : Option Addr) (dc : Nat), dv = .slice da D.length dc ∧ lv = .string ⟨last.toArray⟩ ∧ i = .int .i64 (k : Int) ∧ k ≤ zs.length + 1 ∧ Hid (ErI w wr N x ka kc body bv ∧ last.length ≤ 1000000000 ∧ Sl w da dc D ∧ D.length ≤ 1000000000 ∧ E = body ++ encF x.key x.date x.scope last (cutL D (zs.drop k)) ∧ (k = zs.length + 1 → D = []))) (fun dv _ _ i _ => 2 * (zs.length - (intOf i).toNat) + min 1 (lenV dv))
  case atStart => exact ⟨0, data, [], x.sig, da, dc, rfl, rfl, rfl, by omega, ⟨HI.out.1, HX.out.1.sig, HI.out.2.1, HI.out.2.2, by rw [HE.out.1]; rfl, by omega⟩⟩
  case round =>
    clear HI
    obtain ⟨k, D, body, last, da, dc, rfl, rfl, rfl, hk, hi⟩ := hrel
    obtain ⟨va, vc, rfl⟩ := own_slice hi.out.1.own
    obtain ⟨bv, hbv⟩ : ∃ bv, bv = Value.slice va body.length vc := ⟨_, rfl⟩
    rw [← hbv] at hi ⊢
    clear hbv
    have HD := (show Hid (Sl w da dc D) from hi.out.2.2.1)
    have HDL := (show Hid (D.length ≤ 1000000000) from hi.out.2.2.2.1)
    have hk0 : (0 : Int) ≤ (k : Int) := by omega
    have hk9 : (k : Int) < 1000000000 := by have := HZ.out.2; omega
    by_cases hgo : k < zs.length ∧ D ≠ []
    · obtain ⟨hlt, hDn⟩ := hgo
      have hki : (k : Int) < (zs.length : Int) := by omega
      rcases HZ.out.1 with hnil | ⟨b, off, rfl, hbs, hcs⟩
      · rw [hnil] at hlt; simp at hlt
      have hcell : wr.cell? ⟨b, off + k, none⟩ = some (.int .i64 zs[k]) := (hi.out.1.bl.cell (p := ⟨b, off + k, none⟩) hbs).trans (hcs k hlt)
      have hDl : 0 < D.length := List.length_pos_iff.2 hDn
      have hstep : cutL D (zs.drop k) = cutL D (zs[k] :: zs.drop (k + 1)) := by rw [List.drop_eq_getElem_cons hlt]
      obtain ⟨z, hz⟩ : ∃ z, z = zs[k] := ⟨_, rfl⟩
      rw [← hz] at hcell hstep
      clear hz hcs
      by_cases hz1 : z < 1
      · rw [cut_skip (by omega)] at hstep
        have HST := (show Hid (E = body ++ encF x.key x.date x.scope last (cutL D (zs.drop (k + 1)))) from by
          show _ = _
          rw [← hstep]
          exact hi.out.2.2.2.2.1)
        clear hstep hDn
        go_wp2_with fail
        go_roundw
        case rel => exact ⟨k + 1, D, body, last, da, dc, by first | rfl | trivial, by first | rfl | trivial, by go_num, by omega, ⟨hi.out.1, hi.out.2.1, HD.out, HDL.out, HST.out, by omega⟩⟩
        case measure => simp [intOf, lenV]; omega
      · rw [cut_go (by omega) hDn] at hstep
        obtain ⟨n, hn1, hn2, hn3, hn4, hn5⟩ : ∃ n : Nat, 0 < n ∧ n ≤ D.length ∧ min z (D.length : Int) = (n : Int) ∧ D.take z.toNat = D.take n ∧ D.drop z.toNat = D.drop n := by
          by_cases hzl : z ≤ (D.length : Int)
          · exact ⟨z.toNat, by omega, by omega, by omega, rfl, rfl⟩
          · exact ⟨D.length, hDl, Nat.le_refl _, by omega, by rw [List.take_of_length_le (by omega), List.take_length], by rw [List.drop_eq_nil_of_le (by omega), List.drop_length]⟩
        rw [hn4, hn5] at hstep
        obtain ⟨p, hp⟩ : ∃ p, p = D.take n := ⟨_, rfl⟩
        have hpl : n = p.length := by rw [hp, List.length_take]; omega
        rw [← hp] at hstep
        subst hpl
        have hn6 : min (D.length : Int) z = (p.length : Int) := by rw [Int.min_comm]; exact hn3
        have HP := (show Hid (p = D.take p.length ∧ p.length ≤ D.length ∧ (p.length ≠ 0 → cutL D (zs.drop k) = p :: cutL (D.drop p.length) (zs.drop (k + 1))) ∧ (p.length = 0 → cutL D (zs.drop k) = [p])) from ⟨hp, hn2, fun _ => hstep, fun h => by omega⟩)
        clear hstep hDn hn4 hn5 hp hn2 hn1
        have hpd : p.length ≤ D.length := HP.out.2.1
        have hpc : p.length ≤ dc := Nat.le_trans hpd HD.out.cap
        have hpci : (p.length : Int) ≤ (dc : Int) := by omega
        have hp0 : (0 : Int) ≤ (p.length : Int) := by omega
        obtain ⟨SG, hSG⟩ : ∃ SG, SG = sgL x.key x.date x.scope last p := ⟨_, rfl⟩
        have HSG := (show Hid (SG = sgL x.key x.date x.scope last p ∧ SG.length = 64) from ⟨hSG, by rw [hSG]; exact sgL_len _ _ _ _ _⟩)
        have K13 := (show Hid (∀ W', Below wr.heap.size wr W' → Calls Tryd.prog 13 #[x.v ka kc, .string ⟨last.toArray⟩, .slice da p.length dc] W' fun e w' => e = .returned (.string ⟨SG.toArray⟩) ∧ Below wr.heap.size wr w') from fun W' hb => by
          rw [hSG]
          have hbw := hi.out.1.bl.trans (hb.mono hi.out.1.bl.size)
          exact (rsign_any x ka kc last p da dc W' (HX.out.1.below hbw) HX.out.2 (by have := HDL.out; omega) (by have := bytes_take p.length (HD.out.below hbw).by_; rw [← HP.out.1] at this; exact this) hi.out.2.1).mono fun e w' ⟨h1, h2⟩ => ⟨h1, hb.trans (h2.mono hb.size)⟩)
        unfold Wh.v at K13
        clear hSG hpd
        go_upto_region 9 with fail
        obtain ⟨x0, x1, x2, x3, x4, x5⟩ := six_of hi.out.1.who
        go_region_held3 (fun w' => w'.cell? ⟨N, 0, none⟩ = some (.string ⟨x.id.toArray⟩) ∧ w'.cell? ⟨N, 1, none⟩ = some (.string ⟨x.date.toArray⟩) ∧ w'.cell? ⟨N, 2, none⟩ = some (.string ⟨x.scope.toArray⟩) ∧ w'.cell? ⟨N, 3, none⟩ = some (.string ⟨x.sig.toArray⟩) ∧ w'.cell? ⟨N, 4, none⟩ = some (.slice ka x.key.length kc) ∧ w'.cell? ⟨N, 5, none⟩ = some (.string ⟨x.pay.toArray⟩)) (first | go_keep | (exact z2)) (first
          | (go_at_call 13; (with_reducible refine Calls.mono (K13.out _ ((Below.refl _ wr).drew)) ?_); rintro e w2 ⟨rfl, hb2⟩; have z2 := six_of ((hb2.block N (blk_lt hi.out.1.who)).trans hi.out.1.who)))
        have HI2 := (show Hid (ErI w w2 N x ka kc body bv) from hi.out.1.keep hb2)
        have K32 := (show Hid _ from rhexn_any p.length (by have := HP.out.2.1; have := HDL.out; omega) w2)
        clear hb2 K13 z2 x0 x1 x2 x3 x4 x5
        go_wp2_with fail
        refine Calls.mono K32.out ?_
        rintro e w3 ⟨rfl, rfl⟩
        have HBL := (show Hid (body.length ≤ 20000000000) from by have h := congrArg List.length hi.out.2.2.2.2.1; rw [List.length_append] at h; have := HE.out.2; show _ ≤ _; omega)
        have HPL := (show Hid (p.length ≤ 1000000000) from by have := HP.out.2.1; have := HDL.out; show _ ≤ _; omega)
        have hxl := hxF_len 64 p.length
        rw [show hxF 64 p.length = hxN p.length from rfl] at hxl
        have HX9 := (show Hid ((hxN p.length).length ≤ 64) from hxl)
        obtain ⟨HS, hHS⟩ : ∃ HS : ByteArray, HS = ⟨(hxN p.length).toArray⟩ := ⟨_, rfl⟩
        have hHz : HS.size ≤ 64 := by rw [hHS]; simpa [ByteArray.size] using hxl
        obtain ⟨GS, hGS⟩ : ∃ GS : ByteArray, GS = ⟨SG.toArray⟩ := ⟨_, rfl⟩
        have hGz : GS.size ≤ 64 := by rw [hGS]; have := HSG.out.2; simp [ByteArray.size]; omega
        rw [← hHS, ← hGS]
        have HSE := (show Hid (HS.data.toList = hxN p.length ∧ GS.data.toList = SG) from by rw [hHS, hGS]; exact ⟨by simp, by simp⟩)
        have HGS := (show Hid (GS = ⟨SG.toArray⟩) from hGS)
        clear hHS hGS K32
        have hq9 : ¬ (HS.size + 17 > 9223372036854775807) := by omega
        have hq8 : ¬ (HS.size + 17 + GS.size > 9223372036854775807) := by omega
        have hq7 : ¬ (HS.size + 17 + GS.size + 2 > 9223372036854775807) := by omega
        clear hHz hGz hxl
        go_upto_region 11 with (at_builtin; refine wpList_rbody_str HI2.out rfl (.tmp 42) (.tmp 48) rfl rfl _ (hxN p.length ++ sigT ++ SG ++ crT) rfl (by have := HSE.out; simp [sigT, crT, this.1, this.2]) (by have := HBL.out; have := HSG.out.2; have := HX9.out; simp only [List.length_append, sigT, crT, List.length_cons, List.length_nil]; omega) ?_; intro v4 w4 h4 hg4; have HI4 := (show Hid (ErI w w4 N x ka kc (body ++ (hxN p.length ++ sigT ++ SG ++ crT)) v4) from h4); clear h4 hg4)
        have HB4 := (show Hid (Bytes w4 da p) from by have := bytes_take p.length (HD.out.below HI4.out.bl).by_; rw [← HP.out.1] at this; exact this)
        go_upto_region 12 with (at_builtin; refine wpList_rbody_sl HI4.out rfl (.tmp 50) (.tmp 53) rfl rfl da p dc rfl HB4.out (Nat.le_trans HP.out.2.1 HD.out.cap) HD.out.nil (by have := HBL.out; have := HPL.out; have := HSG.out.2; have := HX9.out; simp only [List.length_append, sigT, crT, List.length_cons, List.length_nil]; omega) ?_; intro v5 w5 h5 hg5; have HI5 := (show Hid (ErI w w5 N x ka kc (body ++ (hxN p.length ++ sigT ++ SG ++ crT) ++ p) v5) from h5); clear h5 hg5)
        have HI5a := (show Hid (ErI w (w5.alloc (.cells #[.int .u8 13, .int .u8 10] 5)) N x ka kc (body ++ (hxN p.length ++ sigT ++ SG ++ crT) ++ p) v5) from HI5.out.keep ((Below.refl _ _).alloc (Nat.le_refl _) _))
        go_upto_region 13 with (at_builtin; refine wpList_rbody_sl HI5a.out rfl (.tmp 55) (.tmp 56) rfl rfl (some ⟨w5.heap.size, 0, none⟩) crT 2 rfl (cr_bytes w5) (by decide) (fun h => by cases h) (by have := HBL.out; have := HPL.out; have := HSG.out.2; have := HX9.out; simp only [List.length_append, sigT, crT, List.length_cons, List.length_nil]; omega) ?_; intro v6 w6 h6 hg6; have HI6 := (show Hid (ErI w w6 N x ka kc (body ++ chkT SG p) v6) from by rw [show body ++ chkT SG p = body ++ (hxN p.length ++ sigT ++ SG ++ crT) ++ p ++ crT from by simp [chkT, List.append_assoc]]; exact h6); clear h6 hg6)
        by_cases hz : (p.length : Int) = 0
        · have hpn : p = [] := List.eq_nil_of_length_eq_zero (by omega)
          have HR := (show Hid (E = body ++ chkT SG p) from by
            show _ = _
            have h := hi.out.2.2.2.2.1
            rw [HP.out.2.2.2 (by omega)] at h
            rw [h, encF, encF, List.append_nil, HSG.out.1])
          clear hpn
          go_wp2_with fail
          go_ret
          rw [HR.out]
          exact ⟨_, rfl, HI6.out.own, HI6.out.bl⟩
        · have HST := (show Hid (E = body ++ chkT SG p ++ encF x.key x.date x.scope SG (cutL (D.drop p.length) (zs.drop (k + 1)))) from by
            show _ = _
            have h := hi.out.2.2.2.2.1
            rw [HP.out.2.2.1 (by omega)] at h
            rw [h, encF, HSG.out.1, List.append_assoc])
          have HPF := (show Hid (Sl w (fromA da dc p.length) (dc - p.length) (D.drop p.length)) from ⟨by rw [List.length_drop]; have := HD.out.cap; omega, by have := HD.out.max; omega, bytes_from HD.out.by_ HD.out.cap, from_lo HD.out.lo, from_nil HD.out.nil⟩)
          have HNZ := (show Hid (0 < p.length) from by show 0 < _; omega)
          obtain ⟨n, hn⟩ : ∃ n, n = p.length := ⟨_, rfl⟩
          have HNN := (show Hid (n = p.length) from hn)
          rw [← hn] at hz hpci hp0 hpc ⊢
          clear hn
          have hz2 : ((n : Int) == 0) = false := by simpa using hz
          have hnd : (n : Int) ≤ (D.length : Int) := by have := HP.out.2.1; have := HNN.out; omega
          have hdd : (D.length : Int) ≤ (dc : Int) := by have := HD.out.cap; omega
          have HKL := (show Hid (k < zs.length) from hlt)
          clear hz
          go_wp2_with fail
          go_roundw
          case rel => exact ⟨k + 1, D.drop p.length, body ++ chkT SG p, SG, fromA da dc p.length, dc - p.length, by rw [← HNN.out, List.length_drop]; rfl, by rw [HGS.out], by go_num, by have := HKL.out; omega, ⟨HI6.out, by have := HSG.out.2; omega, HPF.out, by rw [List.length_drop]; have := HDL.out; omega, HST.out, fun h => by have := HKL.out; omega⟩⟩
          case measure =>
            have h1 := HKL.out
            simp [intOf, lenV]
            omega
    · have HP0 : ∃ p, p = D := ⟨_, rfl⟩
      obtain ⟨p, hpD⟩ := HP0
      have HP := (show Hid (p = D.take p.length ∧ p.length ≤ D.length ∧ (p.length ≠ 0 → cutL D (zs.drop k) = p :: cutL (D.drop p.length) (zs.drop (k + 1))) ∧ (p.length = 0 → cutL D (zs.drop k) = [p])) from by
        subst hpD
        refine ⟨by rw [List.take_length], Nat.le_refl _, fun h => ?_, fun h => ?_⟩
        · have hDn : p ≠ [] := by intro e; rw [e] at h; exact h rfl
          have hkz : zs.length ≤ k := by
            by_cases h3 : k < zs.length
            · exact absurd ⟨h3, hDn⟩ hgo
            · omega
          have e1 : zs.drop k = [] := List.drop_eq_nil_of_le hkz
          have e2 : zs.drop (k + 1) = [] := List.drop_eq_nil_of_le (by omega)
          have e3 : p.drop p.length = [] := List.drop_length
          rw [e1, e2, e3, cutL, if_neg hDn, cut_nil]
        · have e := List.eq_nil_of_length_eq_zero h
          rw [e, cut_nil])
      have hlen : D.length = p.length := by rw [hpD]
      have hcond : (k : Int) < (zs.length : Int) → ¬ (0 : Int) < (p.length : Int) := by
        intro h1 h2
        exact hgo ⟨by omega, by intro e; rw [hpD, e] at h2; simp at h2⟩
      rw [hlen]
      have HLEN := (show Hid (D.length = p.length) from hlen)
      clear hpD hgo hlen
      by_cases hki : (k : Int) < (zs.length : Int)
      · have hnp : ¬ 0 < p.length := by have := hcond hki; omega
        have HNP := (show Hid (¬ 0 < p.length) from hnp)
        clear hcond
        have hpd : p.length ≤ D.length := HP.out.2.1
        have hpc : p.length ≤ dc := Nat.le_trans hpd HD.out.cap
        have hpci : (p.length : Int) ≤ (dc : Int) := by omega
        have hp0 : (0 : Int) ≤ (p.length : Int) := by omega
        obtain ⟨SG, hSG⟩ : ∃ SG, SG = sgL x.key x.date x.scope last p := ⟨_, rfl⟩
        have HSG := (show Hid (SG = sgL x.key x.date x.scope last p ∧ SG.length = 64) from ⟨hSG, by rw [hSG]; exact sgL_len _ _ _ _ _⟩)
        have K13 := (show Hid (∀ W', Below wr.heap.size wr W' → Calls Tryd.prog 13 #[x.v ka kc, .string ⟨last.toArray⟩, .slice da p.length dc] W' fun e w' => e = .returned (.string ⟨SG.toArray⟩) ∧ Below wr.heap.size wr w') from fun W' hb => by
          rw [hSG]
          have hbw := hi.out.1.bl.trans (hb.mono hi.out.1.bl.size)
          exact (rsign_any x ka kc last p da dc W' (HX.out.1.below hbw) HX.out.2 (by have := HDL.out; omega) (by have := bytes_take p.length (HD.out.below hbw).by_; rw [← HP.out.1] at this; exact this) hi.out.2.1).mono fun e w' ⟨h1, h2⟩ => ⟨h1, hb.trans (h2.mono hb.size)⟩)
        unfold Wh.v at K13
        clear hSG hpd
        go_upto_region 9 with fail
        obtain ⟨x0, x1, x2, x3, x4, x5⟩ := six_of hi.out.1.who
        go_region_held3 (fun w' => w'.cell? ⟨N, 0, none⟩ = some (.string ⟨x.id.toArray⟩) ∧ w'.cell? ⟨N, 1, none⟩ = some (.string ⟨x.date.toArray⟩) ∧ w'.cell? ⟨N, 2, none⟩ = some (.string ⟨x.scope.toArray⟩) ∧ w'.cell? ⟨N, 3, none⟩ = some (.string ⟨x.sig.toArray⟩) ∧ w'.cell? ⟨N, 4, none⟩ = some (.slice ka x.key.length kc) ∧ w'.cell? ⟨N, 5, none⟩ = some (.string ⟨x.pay.toArray⟩)) (first | go_keep | (exact z2)) (first
          | (go_at_call 13; (with_reducible refine Calls.mono (K13.out _ ((Below.refl _ wr).drew)) ?_); rintro e w2 ⟨rfl, hb2⟩; have z2 := six_of ((hb2.block N (blk_lt hi.out.1.who)).trans hi.out.1.who)))
        have HI2 := (show Hid (ErI w w2 N x ka kc body bv) from hi.out.1.keep hb2)
        have K32 := (show Hid _ from rhexn_any p.length (by have := HP.out.2.1; have := HDL.out; omega) w2)
        clear hb2 K13 z2 x0 x1 x2 x3 x4 x5
        go_wp2_with fail
        refine Calls.mono K32.out ?_
        rintro e w3 ⟨rfl, rfl⟩
        have HBL := (show Hid (body.length ≤ 20000000000) from by have h := congrArg List.length hi.out.2.2.2.2.1; rw [List.length_append] at h; have := HE.out.2; show _ ≤ _; omega)
        have HPL := (show Hid (p.length ≤ 1000000000) from by have := HP.out.2.1; have := HDL.out; show _ ≤ _; omega)
        have hxl := hxF_len 64 p.length
        rw [show hxF 64 p.length = hxN p.length from rfl] at hxl
        have HX9 := (show Hid ((hxN p.length).length ≤ 64) from hxl)
        obtain ⟨HS, hHS⟩ : ∃ HS : ByteArray, HS = ⟨(hxN p.length).toArray⟩ := ⟨_, rfl⟩
        have hHz : HS.size ≤ 64 := by rw [hHS]; simpa [ByteArray.size] using hxl
        obtain ⟨GS, hGS⟩ : ∃ GS : ByteArray, GS = ⟨SG.toArray⟩ := ⟨_, rfl⟩
        have hGz : GS.size ≤ 64 := by rw [hGS]; have := HSG.out.2; simp [ByteArray.size]; omega
        rw [← hHS, ← hGS]
        have HSE := (show Hid (HS.data.toList = hxN p.length ∧ GS.data.toList = SG) from by rw [hHS, hGS]; exact ⟨by simp, by simp⟩)
        have HGS := (show Hid (GS = ⟨SG.toArray⟩) from hGS)
        clear hHS hGS K32
        have hq9 : ¬ (HS.size + 17 > 9223372036854775807) := by omega
        have hq8 : ¬ (HS.size + 17 + GS.size > 9223372036854775807) := by omega
        have hq7 : ¬ (HS.size + 17 + GS.size + 2 > 9223372036854775807) := by omega
        clear hHz hGz hxl
        go_upto_region 11 with (at_builtin; refine wpList_rbody_str HI2.out rfl (.tmp 42) (.tmp 48) rfl rfl _ (hxN p.length ++ sigT ++ SG ++ crT) rfl (by have := HSE.out; simp [sigT, crT, this.1, this.2]) (by have := HBL.out; have := HSG.out.2; have := HX9.out; simp only [List.length_append, sigT, crT, List.length_cons, List.length_nil]; omega) ?_; intro v4 w4 h4 hg4; have HI4 := (show Hid (ErI w w4 N x ka kc (body ++ (hxN p.length ++ sigT ++ SG ++ crT)) v4) from h4); clear h4 hg4)
        have HB4 := (show Hid (Bytes w4 da p) from by have := bytes_take p.length (HD.out.below HI4.out.bl).by_; rw [← HP.out.1] at this; exact this)
        go_upto_region 12 with (at_builtin; refine wpList_rbody_sl HI4.out rfl (.tmp 50) (.tmp 53) rfl rfl da p dc rfl HB4.out (Nat.le_trans HP.out.2.1 HD.out.cap) HD.out.nil (by have := HBL.out; have := HPL.out; have := HSG.out.2; have := HX9.out; simp only [List.length_append, sigT, crT, List.length_cons, List.length_nil]; omega) ?_; intro v5 w5 h5 hg5; have HI5 := (show Hid (ErI w w5 N x ka kc (body ++ (hxN p.length ++ sigT ++ SG ++ crT) ++ p) v5) from h5); clear h5 hg5)
        have HI5a := (show Hid (ErI w (w5.alloc (.cells #[.int .u8 13, .int .u8 10] 5)) N x ka kc (body ++ (hxN p.length ++ sigT ++ SG ++ crT) ++ p) v5) from HI5.out.keep ((Below.refl _ _).alloc (Nat.le_refl _) _))
        go_upto_region 13 with (at_builtin; refine wpList_rbody_sl HI5a.out rfl (.tmp 55) (.tmp 56) rfl rfl (some ⟨w5.heap.size, 0, none⟩) crT 2 rfl (cr_bytes w5) (by decide) (fun h => by cases h) (by have := HBL.out; have := HPL.out; have := HSG.out.2; have := HX9.out; simp only [List.length_append, sigT, crT, List.length_cons, List.length_nil]; omega) ?_; intro v6 w6 h6 hg6; have HI6 := (show Hid (ErI w w6 N x ka kc (body ++ chkT SG p) v6) from by rw [show body ++ chkT SG p = body ++ (hxN p.length ++ sigT ++ SG ++ crT) ++ p ++ crT from by simp [chkT, List.append_assoc]]; exact h6); clear h6 hg6)
        by_cases hz : (p.length : Int) = 0
        · have hpn : p = [] := List.eq_nil_of_length_eq_zero (by omega)
          have HR := (show Hid (E = body ++ chkT SG p) from by
            show _ = _
            have h := hi.out.2.2.2.2.1
            rw [HP.out.2.2.2 (by omega)] at h
            rw [h, encF, encF, List.append_nil, HSG.out.1])
          clear hpn
          go_wp2_with fail
          go_ret
          rw [HR.out]
          exact ⟨_, rfl, HI6.out.own, HI6.out.bl⟩
        · exact absurd (by omega) HNP.out
      · clear hcond
        have hpd : p.length ≤ D.length := HP.out.2.1
        have hpc : p.length ≤ dc := Nat.le_trans hpd HD.out.cap
        have hpci : (p.length : Int) ≤ (dc : Int) := by omega
        have hp0 : (0 : Int) ≤ (p.length : Int) := by omega
        obtain ⟨SG, hSG⟩ : ∃ SG, SG = sgL x.key x.date x.scope last p := ⟨_, rfl⟩
        have HSG := (show Hid (SG = sgL x.key x.date x.scope last p ∧ SG.length = 64) from ⟨hSG, by rw [hSG]; exact sgL_len _ _ _ _ _⟩)
        have K13 := (show Hid (∀ W', Below wr.heap.size wr W' → Calls Tryd.prog 13 #[x.v ka kc, .string ⟨last.toArray⟩, .slice da p.length dc] W' fun e w' => e = .returned (.string ⟨SG.toArray⟩) ∧ Below wr.heap.size wr w') from fun W' hb => by
          rw [hSG]
          have hbw := hi.out.1.bl.trans (hb.mono hi.out.1.bl.size)
          exact (rsign_any x ka kc last p da dc W' (HX.out.1.below hbw) HX.out.2 (by have := HDL.out; omega) (by have := bytes_take p.length (HD.out.below hbw).by_; rw [← HP.out.1] at this; exact this) hi.out.2.1).mono fun e w' ⟨h1, h2⟩ => ⟨h1, hb.trans (h2.mono hb.size)⟩)
        unfold Wh.v at K13
        clear hSG hpd
        go_upto_region 9 with fail
        obtain ⟨x0, x1, x2, x3, x4, x5⟩ := six_of hi.out.1.who
        go_region_held3 (fun w' => w'.cell? ⟨N, 0, none⟩ = some (.string ⟨x.id.toArray⟩) ∧ w'.cell? ⟨N, 1, none⟩ = some (.string ⟨x.date.toArray⟩) ∧ w'.cell? ⟨N, 2, none⟩ = some (.string ⟨x.scope.toArray⟩) ∧ w'.cell? ⟨N, 3, none⟩ = some (.string ⟨x.sig.toArray⟩) ∧ w'.cell? ⟨N, 4, none⟩ = some (.slice ka x.key.length kc) ∧ w'.cell? ⟨N, 5, none⟩ = some (.string ⟨x.pay.toArray⟩)) (first | go_keep | (exact z2)) (first
          | (go_at_call 13; (with_reducible refine Calls.mono (K13.out _ ((Below.refl _ wr).drew)) ?_); rintro e w2 ⟨rfl, hb2⟩; have z2 := six_of ((hb2.block N (blk_lt hi.out.1.who)).trans hi.out.1.who)))
        have HI2 := (show Hid (ErI w w2 N x ka kc body bv) from hi.out.1.keep hb2)
        have K32 := (show Hid _ from rhexn_any p.length (by have := HP.out.2.1; have := HDL.out; omega) w2)
        clear hb2 K13 z2 x0 x1 x2 x3 x4 x5
        go_wp2_with fail
        refine Calls.mono K32.out ?_
        rintro e w3 ⟨rfl, rfl⟩
        have HBL := (show Hid (body.length ≤ 20000000000) from by have h := congrArg List.length hi.out.2.2.2.2.1; rw [List.length_append] at h; have := HE.out.2; show _ ≤ _; omega)
        have HPL := (show Hid (p.length ≤ 1000000000) from by have := HP.out.2.1; have := HDL.out; show _ ≤ _; omega)
        have hxl := hxF_len 64 p.length
        rw [show hxF 64 p.length = hxN p.length from rfl] at hxl
        have HX9 := (show Hid ((hxN p.length).length ≤ 64) from hxl)
        obtain ⟨HS, hHS⟩ : ∃ HS : ByteArray, HS = ⟨(hxN p.length).toArray⟩ := ⟨_, rfl⟩
        have hHz : HS.size ≤ 64 := by rw [hHS]; simpa [ByteArray.size] using hxl
        obtain ⟨GS, hGS⟩ : ∃ GS : ByteArray, GS = ⟨SG.toArray⟩ := ⟨_, rfl⟩
        have hGz : GS.size ≤ 64 := by rw [hGS]; have := HSG.out.2; simp [ByteArray.size]; omega
        rw [← hHS, ← hGS]
        have HSE := (show Hid (HS.data.toList = hxN p.length ∧ GS.data.toList = SG) from by rw [hHS, hGS]; exact ⟨by simp, by simp⟩)
        have HGS := (show Hid (GS = ⟨SG.toArray⟩) from hGS)
        clear hHS hGS K32
        have hq9 : ¬ (HS.size + 17 > 9223372036854775807) := by omega
        have hq8 : ¬ (HS.size + 17 + GS.size > 9223372036854775807) := by omega
        have hq7 : ¬ (HS.size + 17 + GS.size + 2 > 9223372036854775807) := by omega
        clear hHz hGz hxl
        go_upto_region 11 with (at_builtin; refine wpList_rbody_str HI2.out rfl (.tmp 42) (.tmp 48) rfl rfl _ (hxN p.length ++ sigT ++ SG ++ crT) rfl (by have := HSE.out; simp [sigT, crT, this.1, this.2]) (by have := HBL.out; have := HSG.out.2; have := HX9.out; simp only [List.length_append, sigT, crT, List.length_cons, List.length_nil]; omega) ?_; intro v4 w4 h4 hg4; have HI4 := (show Hid (ErI w w4 N x ka kc (body ++ (hxN p.length ++ sigT ++ SG ++ crT)) v4) from h4); clear h4 hg4)
        have HB4 := (show Hid (Bytes w4 da p) from by have := bytes_take p.length (HD.out.below HI4.out.bl).by_; rw [← HP.out.1] at this; exact this)
        go_upto_region 12 with (at_builtin; refine wpList_rbody_sl HI4.out rfl (.tmp 50) (.tmp 53) rfl rfl da p dc rfl HB4.out (Nat.le_trans HP.out.2.1 HD.out.cap) HD.out.nil (by have := HBL.out; have := HPL.out; have := HSG.out.2; have := HX9.out; simp only [List.length_append, sigT, crT, List.length_cons, List.length_nil]; omega) ?_; intro v5 w5 h5 hg5; have HI5 := (show Hid (ErI w w5 N x ka kc (body ++ (hxN p.length ++ sigT ++ SG ++ crT) ++ p) v5) from h5); clear h5 hg5)
        have HI5a := (show Hid (ErI w (w5.alloc (.cells #[.int .u8 13, .int .u8 10] 5)) N x ka kc (body ++ (hxN p.length ++ sigT ++ SG ++ crT) ++ p) v5) from HI5.out.keep ((Below.refl _ _).alloc (Nat.le_refl _) _))
        go_upto_region 13 with (at_builtin; refine wpList_rbody_sl HI5a.out rfl (.tmp 55) (.tmp 56) rfl rfl (some ⟨w5.heap.size, 0, none⟩) crT 2 rfl (cr_bytes w5) (by decide) (fun h => by cases h) (by have := HBL.out; have := HPL.out; have := HSG.out.2; have := HX9.out; simp only [List.length_append, sigT, crT, List.length_cons, List.length_nil]; omega) ?_; intro v6 w6 h6 hg6; have HI6 := (show Hid (ErI w w6 N x ka kc (body ++ chkT SG p) v6) from by rw [show body ++ chkT SG p = body ++ (hxN p.length ++ sigT ++ SG ++ crT) ++ p ++ crT from by simp [chkT, List.append_assoc]]; exact h6); clear h6 hg6)
        by_cases hz : (p.length : Int) = 0
        · have hpn : p = [] := List.eq_nil_of_length_eq_zero (by omega)
          have HR := (show Hid (E = body ++ chkT SG p) from by
            show _ = _
            have h := hi.out.2.2.2.2.1
            rw [HP.out.2.2.2 (by omega)] at h
            rw [h, encF, encF, List.append_nil, HSG.out.1])
          clear hpn
          go_wp2_with fail
          go_ret
          rw [HR.out]
          exact ⟨_, rfl, HI6.out.own, HI6.out.bl⟩
        · have HST := (show Hid (E = body ++ chkT SG p ++ encF x.key x.date x.scope SG (cutL (D.drop p.length) (zs.drop (k + 1)))) from by
            show _ = _
            have h := hi.out.2.2.2.2.1
            rw [HP.out.2.2.1 (by omega)] at h
            rw [h, encF, HSG.out.1, List.append_assoc])
          have HPF := (show Hid (Sl w (fromA da dc p.length) (dc - p.length) (D.drop p.length)) from ⟨by rw [List.length_drop]; have := HD.out.cap; omega, by have := HD.out.max; omega, bytes_from HD.out.by_ HD.out.cap, from_lo HD.out.lo, from_nil HD.out.nil⟩)
          have HNZ := (show Hid (0 < p.length) from by show 0 < _; omega)
          obtain ⟨n, hn⟩ : ∃ n, n = p.length := ⟨_, rfl⟩
          have HNN := (show Hid (n = p.length) from hn)
          rw [← hn] at hz hpci hp0 hpc ⊢
          clear hn
          have hz2 : ((n : Int) == 0) = false := by simpa using hz
          have HNZ2 := (show Hid (0 < n ∧ k = zs.length) from by
            have h1 := HNZ.out
            have h2 := HNN.out
            have h3 : k ≤ zs.length := by
              by_cases h4 : k = zs.length + 1
              · have := hi.out.2.2.2.2.2 h4
                have h5 := HLEN.out
                rw [this] at h5
                simp only [List.length_nil] at h5
                omega
              · omega
            exact ⟨by omega, by omega⟩)
          have HD0 := (show Hid ((D.drop n).length = 0) from by have h1 := HNN.out; have h2 := HLEN.out; show _ = _; rw [List.length_drop]; omega)
          clear hz
          go_wp2_with fail
          go_roundw
          case rel => exact ⟨k + 1, D.drop p.length, body ++ chkT SG p, SG, fromA da dc p.length, dc - p.length, by rw [← HNN.out, HD0.out]; rfl, by rw [HGS.out], by go_num, by have := HNZ2.out; omega, ⟨HI6.out, by have := HSG.out.2; omega, HPF.out, by rw [List.length_drop]; have := HDL.out; omega, HST.out, fun _ => List.eq_nil_of_length_eq_zero (by rw [← HNN.out]; exact HD0.out)⟩⟩
          case measure =>
            obtain ⟨h1, h2⟩ := HNZ2.out
            have h3 := HNN.out
            subst h2
            simp [intOf, lenV]
            omega
end Go.Proofs.YtgpjjlkkfddjnaaDoor
