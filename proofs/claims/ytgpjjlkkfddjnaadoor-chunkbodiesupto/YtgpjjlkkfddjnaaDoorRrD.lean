/-
  The document's reader of chunks: name.
-/
import Derived.Test.YtgpjjlkkfddjnaaDoorRrC
namespace Go.Proofs.YtgpjjlkkfddjnaaDoor
open Go.RowKit

set_option maxRecDepth 20000 in
set_option maxHeartbeats 4000000 in
theorem name_any (p B : Nat) (a : Option Addr) (cap : Nat) (l : List UInt8) (s : RS) (w : World) (h : Rep w p B a cap l s) (hl : l.length ≤ 1000000000) (hcap : l.length ≤ cap) :
    Calls Tryd.prog 22 #[.pointer (some ⟨p, 0, none⟩)] w fun e w' => (∃ S : List UInt8, e = .returned (.string ⟨S.toArray⟩) ∧ S.length ≤ 1000000000 ∧ ((dgS 64 64 s).2.2 = 0 → S = (dgS 64 64 s).1)) ∧ Rep w' p B a cap l (dgS 64 64 s).2 ∧ Md (· = p) w w' := by
  obtain ⟨k0, hr, hd⟩ := h
  obtain ⟨r, f⟩ := s
  simp only at hr hd
  have HL := (show Hid (l.length ≤ 1000000000 ∧ l.length ≤ cap) from ⟨hl, hcap⟩)
  have HR := (show Hid (Rr w p B a cap l k0 f) from hr)
  obtain ⟨c0, c1, c2, f1, f2⟩ := hr.cells
  -- the end: the text of what was read
  have FIN := (show Hid (∀ (W : World) (k : Nat) (f9 : Int), Rr W p B a cap l k f9 → Md (· = p) w W → k0 ≤ k → (dgS 64 64 (r, f)).2.2 = f9 → (f9 = 0 → dgS 64 64 (r, f) = ((l.drop k0).take (k - k0), (l.drop k, 0))) → (∃ S : List UInt8, (Ending.returned (.string ⟨((l.drop k0).take (k - k0)).toArray⟩)) = .returned (.string ⟨S.toArray⟩) ∧ S.length ≤ 1000000000 ∧ ((dgS 64 64 (r, f)).2.2 = 0 → S = (dgS 64 64 (r, f)).1)) ∧ Rep W p B a cap l (dgS 64 64 (r, f)).2 ∧ Md (· = p) w W) from fun W k f9 hrr hmd hk hf hf0 => by
    refine ⟨⟨_, rfl, ?_, ?_⟩, ⟨k, by rw [hf]; exact hrr, ?_⟩, hmd⟩
    · rw [List.length_take, List.length_drop]
      omega
    · intro h0
      rw [hf0 (hf.symm.trans h0)]
    · intro h0
      rw [hf0 (hf.symm.trans h0)])
  have CV := (show Hid (∀ (W : World) (k : Nat), Rr W p B a cap l k 0 ∨ (∃ f9, Rr W p B a cap l k f9) → k0 ≤ k → (convert 22 9 (.slice (fromA a cap k0) (k - k0) (cap - k0))).run Tryd.prog W = .ok (.string ⟨((l.drop k0).take (k - k0)).toArray⟩) W) from fun W k hk hk0 => by
    have hB : Bytes W a l := by rcases hk with hk | ⟨_, hk⟩ <;> exact hk.by_
    have hkl : k ≤ l.length := by rcases hk with hk | ⟨_, hk⟩ <;> exact hk.kl
    have := convert_bytes W (fromA a cap k0) (cap - k0) ((l.drop k0).take (k - k0)) (bytes_take _ (bytes_from hB hcap))
    rw [show ((l.drop k0).take (k - k0)).length = k - k0 from by rw [List.length_take, List.length_drop]; omega] at this
    exact this)
  by_cases hf : f = 0
  · subst hf
    have hdr := hd rfl
    subst hdr
    obtain ⟨m, hm⟩ : ∃ m, m = l.drop k0 := ⟨_, rfl⟩
    have HM := (show Hid (m = l.drop k0 ∧ k0 ≤ l.length ∧ m.length = l.length - k0) from ⟨hm, hr.kl, by rw [hm, List.length_drop]⟩)
    rw [← hm] at FIN CV ⊢
    clear hm hr hd
    go_enter Tryd.func22, Tryd.ntmps22
    go_wp2_with fail
    go_loopw [4] (fun i wr => ∃ (j k : Nat) (f9 : Int), j ≤ 65 ∧ i = .int .i64 (j : Int) ∧ Hid (Rr wr p B a cap l k f9 ∧ Md (· = p) w wr ∧ k0 ≤ k ∧ ((f9 = 0 ∧ j ≤ dnL 64 m ∧ k = k0 + j) ∨ (f9 ≠ 0 ∧ f9 = (dgS 64 64 (m, 0)).2.2))) ∧ (f9 = 0 → j ≤ 64)) (fun i _ => 65 - (intOf i).toNat)
    case atStart => exact ⟨0, k0, 0, by omega, rfl, ⟨HR.out, Md.refl _ _, Nat.le_refl _, .inl ⟨rfl, Nat.zero_le _, rfl⟩⟩, fun _ => by omega⟩
    case round =>
      obtain ⟨j, k, f9, hj, rfl, hi, hj64⟩ := hrel
      clear c0 c1 c2 f1 f2
      obtain ⟨c0, c1, c2, f1, f2⟩ := hi.out.1.cells
      have hj9 : (j : Int) < 1000 := by omega
      have hj0 : (0 : Int) ≤ (j : Int) := by omega
      have hk00 : (0 : Int) ≤ (k0 : Int) := by omega
      by_cases hf9 : f9 = 0
      · subst hf9
        have hcase : j ≤ dnL 64 m ∧ k = k0 + j := by
          rcases hi.out.2.2.2 with ⟨-, h⟩ | ⟨h, -⟩
          · exact h
          · exact absurd rfl h
        have HC := (show Hid (j ≤ dnL 64 m ∧ k = k0 + j) from hcase)
        have hj64' := hj64 rfl
        clear hcase hj64
        by_cases hlt : j < 64
        · have hji : (j : Int) < 64 := by omega
          by_cases hkl : k = l.length
          · have hkli : (k : Int) = (l.length : Int) := by omega
            have HF := (show Hid ((dgS 64 64 (m, 0)).2.2 = 307) from by
              have h1 := HC.out
              have h2 := HM.out
              have h3 := dnL_le 64 m
              exact (nm_cases m).2.1 (by omega) (by omega))
            clear hkl
            go_wp2_with fail
            go_quiet (fail)
            go_wp2_with fail
            go_roundw
            case rel => exact ⟨j + 1, k, 307, by omega, by go_num, ⟨(hi.out.1.keep (drewN_below wr _)).turn (Md.setp (Md.refl _ _) _ _) hi.out.1.kl (by rw [set_blk (hi.out.1.keep (drewN_below wr _)).box]; rfl), (hi.out.2.1.below (drewN_below wr _)).setp _ _, hi.out.2.2.1, .inr ⟨by decide, HF.out.symm⟩⟩, fun h => by cases h⟩
            case measure => simp [intOf]; omega
          · have hkl2 : k < l.length := by have := hi.out.1.kl; omega
            have hkli : (k : Int) < (l.length : Int) := by omega
            have hkne : ¬ (k : Int) = (l.length : Int) := by omega
            have hk0 : (0 : Int) ≤ (k : Int) := by omega
            have hjm : j < m.length := by have := HC.out; have := HM.out; omega
            have e9 : m[j] = l[k] := by
              have := HC.out.2
              subst this
              have := HM.out.1
              subst this
              rw [List.getElem_drop]
            obtain ⟨b, off, rfl, hbs, hcs⟩ := hi.out.1.by_.at hkl2
            have hcell := hcs k hkl2
            obtain ⟨c, hc⟩ : ∃ c, c = l[k] := ⟨_, rfl⟩
            have HK := (show Hid (m[j] = c) from by rw [hc]; exact e9)
            rw [← hc] at hcell
            have h16 : IntKind.i64.wrap ((k : Int) + 1) = ((k + 1 : Nat) : Int) := by have := HL.out.1; rw [IntKind.wrap_i64]; omega
            clear hcs hbs e9 hc hkl
            by_cases hdc : isDg c = true
            · have HD1 := (show Hid (j + 1 ≤ dnL 64 m) from (dnL_at HC.out.1).2 ⟨hlt, hjm, by rw [HK.out]; exact hdc⟩)
              have K1 := (show Hid (∀ W, Calls Tryd.prog 42 #[.int .u8 (c.toNat : Int)] W fun e w' => e = .returned (.bool true) ∧ w' = W) from fun W => by have := rdigit_any c W; rw [hdc] at this; exact this)
              clear hdc
              go_wp2_with fail
              go_quiet (fail)
              go_wp2_with fail
              go_upto_region 8 with fail
              go_region_held3 (fun w' => w'.cell? ⟨p, 0, none⟩ = some (.slice (some ⟨b, off, none⟩) l.length cap) ∧ w'.cell? ⟨p, 1, none⟩ = some (.int .i64 (k : Int)) ∧ w'.cell? ⟨b, off + k, none⟩ = some (.int .u8 (c.toNat : Int))) (go_keep) (first
                | (go_at_call 42; (with_reducible refine Calls.mono (K1.out _) ?_); rintro e w2 ⟨rfl, rfl⟩))
              go_wp2_with fail
              go_roundw
              case rel => exact ⟨j + 1, k + 1, 0, by omega, by go_num, ⟨(hi.out.1.keep (drewN_below wr _)).turn (Md.setp (Md.refl _ _) _ _) hkl2 (by rw [set_blk (hi.out.1.keep (drewN_below wr _)).box]; rfl), (hi.out.2.1.below (drewN_below wr _)).setp _ _, by have := hi.out.2.2.1; omega, .inl ⟨rfl, HD1.out, by have := HC.out.2; omega⟩⟩, fun _ => by omega⟩
              case measure => simp [intOf]; omega
            · have hdc2 : isDg c = false := by
                cases hx : isDg c with
                | false => rfl
                | true => exact absurd hx hdc
              have HDE := (show Hid (dnL 64 m = j) from dg_no HC.out.1 (fun ⟨_, h2, h3⟩ => by rw [HK.out] at h3; exact hdc h3))
              have K1 := (show Hid (∀ W, Calls Tryd.prog 42 #[.int .u8 (c.toNat : Int)] W fun e w' => e = .returned (.bool false) ∧ w' = W) from fun W => by have := rdigit_any c W; rw [hdc2] at this; exact this)
              have HF := (show Hid ((dgS 64 64 (m, 0)).2.2 = 308) from (nm_cases m).2.2 (by rw [HDE.out]; exact hlt) (by rw [HDE.out]; omega))
              clear hdc hdc2
              go_wp2_with fail
              go_quiet (fail)
              go_wp2_with fail
              go_upto_region 8 with fail
              go_region_held3 (fun w' => w'.cell? ⟨p, 0, none⟩ = some (.slice (some ⟨b, off, none⟩) l.length cap) ∧ w'.cell? ⟨p, 1, none⟩ = some (.int .i64 (k : Int)) ∧ w'.cell? ⟨b, off + k, none⟩ = some (.int .u8 (c.toNat : Int))) (go_keep) (first
                | (go_at_call 42; (with_reducible refine Calls.mono (K1.out _) ?_); rintro e w2 ⟨rfl, rfl⟩))
              go_wp2_with fail
              go_roundw
              case rel => exact ⟨j + 1, k, 308, by omega, by go_num, ⟨(hi.out.1.keep (drewN_below wr _)).turn (Md.setp (Md.refl _ _) _ _) hi.out.1.kl (by rw [set_blk (hi.out.1.keep (drewN_below wr _)).box]; rfl), (hi.out.2.1.below (drewN_below wr _)).setp _ _, hi.out.2.2.1, .inr ⟨by decide, HF.out.symm⟩⟩, fun h => by cases h⟩
              case measure => simp [intOf]; omega
        · obtain rfl : j = 64 := by omega
          have HW := (show Hid (dgS 64 64 (m, 0) = (m.take (k - k0), (l.drop k, 0))) from by
            have h1 := HC.out
            have h2 := (dnL_le 64 m).1
            show _ = _
            rw [(nm_cases m).1 (by omega), show k - k0 = 64 from by omega, HM.out.1, List.drop_drop, h1.2])
          have hkk := hi.out.2.2.1
          have hkl := hi.out.1.kl
          have hkc : k ≤ cap := Nat.le_trans hkl HL.out.2
          have hki1 : (k0 : Int) ≤ (k : Int) := by omega
          have hki2 : (k : Int) ≤ (cap : Int) := by omega
          have hki0 : (0 : Int) ≤ (k : Int) := by omega
          clear hlt hj64'
          have hck : ¬ cap = k0 := by have := HC.out.2; omega
          obtain ⟨b, off, rfl, hbs, hcs⟩ := hi.out.1.by_.at (k := 0) (by have := HC.out.2; omega)
          clear hbs hcs
          have KC2 := (show Hid (∀ W, Below wr.heap.size wr W → (convert 22 9 (.slice (some ⟨b, off + k0, none⟩) (k - k0) (cap - k0))).run Tryd.prog W = .ok (.string ⟨(m.take (k - k0)).toArray⟩) W) from fun W hb => by have := CV.out W k (.inr ⟨_, hi.out.1.keep hb⟩) hi.out.2.2.1; rw [fromA, if_neg hck, Option.map_some, Addr.add_lit] at this; exact this)
          obtain ⟨TX, hTX⟩ : ∃ TX : ByteArray, TX = ⟨(m.take (k - k0)).toArray⟩ := ⟨_, rfl⟩
          have HTX := (show Hid (TX = ⟨(m.take (k - k0)).toArray⟩) from hTX)
          rw [← hTX] at KC2
          clear hTX
          go_wp2_with fail
          go_upto_region 10 with fail
          have hcv0 := KC2.out wr.drew ((Below.refl _ _).drew)
          go_region_held3 (fun w' => w'.cell? ⟨p, 0, none⟩ = some (.slice (some ⟨b, off, none⟩) l.length cap) ∧ w'.cell? ⟨p, 1, none⟩ = some (.int .i64 (k : Int)) ∧ (convert 22 9 (.slice (some ⟨b, off + k0, none⟩) (k - k0) (cap - k0))).run Tryd.prog w' = .ok (.string TX) w') (go_keep) (fail)
          go_wp2_with fail
          go_ret
          rw [HTX.out]
          refine FIN.out wr.drew k 0 (hi.out.1.keep (Below.refl _ _).drew) hi.out.2.1.drew hi.out.2.2.1 (by rw [HW.out]) (fun _ => by rw [HW.out])
      · have hfe : f9 = (dgS 64 64 (m, 0)).2.2 := by
          rcases hi.out.2.2.2 with ⟨h, -⟩ | ⟨-, h⟩
          · exact absurd h hf9
          · exact h
        have HW := (show Hid (f9 = (dgS 64 64 (m, 0)).2.2 ∧ f9 ≠ 0) from ⟨hfe, hf9⟩)
        have hkk := hi.out.2.2.1
        have hkl := hi.out.1.kl
        have hkc : k ≤ cap := Nat.le_trans hkl HL.out.2
        have hki1 : (k0 : Int) ≤ (k : Int) := by omega
        have hki2 : (k : Int) ≤ (cap : Int) := by omega
        have hki0 : (0 : Int) ≤ (k : Int) := by omega
        clear hfe hj64
        by_cases hlt : (j : Int) < 64
        all_goals
          go_wp2_with fail
          go_upto_region 10 with fail
          by_cases hck : cap = k0
          · have hkc2 : k = cap := by omega
            subst hkc2
            subst hck
            have KC2 := (show Hid (∀ W, Below wr.heap.size wr W → (convert 22 9 (.slice a 0 0)).run Tryd.prog W = .ok (.string ⟨(m.take (k - k)).toArray⟩) W) from fun W hb => by
              have := CV.out W k (.inr ⟨_, hi.out.1.keep hb⟩) hi.out.2.2.1
              rw [fromA, if_pos rfl] at this
              rw [Nat.sub_self] at this ⊢
              exact this)
            obtain ⟨TX, hTX⟩ : ∃ TX : ByteArray, TX = ⟨(m.take (k - k)).toArray⟩ := ⟨_, rfl⟩
            have HTX := (show Hid (TX = ⟨(m.take (k - k)).toArray⟩) from hTX)
            rw [← hTX] at KC2
            clear hTX
            have hcv0 := KC2.out wr.drew ((Below.refl _ _).drew)
            go_region_held3 (fun w' => w'.cell? ⟨p, 0, none⟩ = some (.slice a l.length k) ∧ w'.cell? ⟨p, 1, none⟩ = some (.int .i64 (k : Int)) ∧ (convert 22 9 (.slice a 0 0)).run Tryd.prog w' = .ok (.string TX) w') (go_keep) (fail)
            go_wp2_with fail
            go_ret
            rw [HTX.out]
            refine FIN.out wr.drew k f9 (hi.out.1.keep (Below.refl _ _).drew) hi.out.2.1.drew hi.out.2.2.1 HW.out.1.symm (fun h => absurd h HW.out.2)
          · have KC2 := (show Hid (∀ W, Below wr.heap.size wr W → (convert 22 9 (.slice (Option.map (fun x => x.add k0) a) (k - k0) (cap - k0))).run Tryd.prog W = .ok (.string ⟨(m.take (k - k0)).toArray⟩) W) from fun W hb => by have := CV.out W k (.inr ⟨_, hi.out.1.keep hb⟩) hi.out.2.2.1; rw [fromA, if_neg hck] at this; exact this)
            obtain ⟨TX, hTX⟩ : ∃ TX : ByteArray, TX = ⟨(m.take (k - k0)).toArray⟩ := ⟨_, rfl⟩
            have HTX := (show Hid (TX = ⟨(m.take (k - k0)).toArray⟩) from hTX)
            rw [← hTX] at KC2
            clear hTX
            have hcv0 := KC2.out wr.drew ((Below.refl _ _).drew)
            go_region_held3 (fun w' => w'.cell? ⟨p, 0, none⟩ = some (.slice a l.length cap) ∧ w'.cell? ⟨p, 1, none⟩ = some (.int .i64 (k : Int)) ∧ (convert 22 9 (.slice (Option.map (fun x => x.add k0) a) (k - k0) (cap - k0))).run Tryd.prog w' = .ok (.string TX) w') (go_keep) (fail)
            go_wp2_with fail
            go_ret
            rw [HTX.out]
            refine FIN.out wr.drew k f9 (hi.out.1.keep (Below.refl _ _).drew) hi.out.2.1.drew hi.out.2.2.1 HW.out.1.symm (fun h => absurd h HW.out.2)
  · have HW := (show Hid ((dgS 64 64 (r, f)).2.2 = f ∧ f ≠ 0) from ⟨by rw [dgS, exS_fault hf, tkS_fault hf], hf⟩)
    have hkl := hr.kl
    have hkc : k0 ≤ cap := by omega
    have hki2 : (k0 : Int) ≤ (cap : Int) := by omega
    have hki0 : (0 : Int) ≤ (k0 : Int) := by omega
    clear hr hd
    go_enter Tryd.func22, Tryd.ntmps22
    go_wp2_with fail
    go_loopw [4] (fun i wr => i = .int .i64 0 ∧ wr = w) (fun i _ => 0)
    case atStart => exact ⟨rfl, rfl⟩
    case round =>
      obtain ⟨rfl, rfl⟩ := hrel
      go_wp2_with fail
      go_upto_region 10 with fail
      by_cases hck : cap = k0
      · subst hck
        have KC2 := (show Hid (∀ W, Below wr.heap.size wr W → (convert 22 9 (.slice a 0 0)).run Tryd.prog W = .ok (.string ⟨((l.drop cap).take (cap - cap)).toArray⟩) W) from fun W hb => by
          have := CV.out W cap (.inr ⟨_, HR.out.keep hb⟩) (Nat.le_refl _)
          rw [fromA, if_pos rfl] at this
          rw [Nat.sub_self] at this ⊢
          exact this)
        obtain ⟨TX, hTX⟩ : ∃ TX : ByteArray, TX = ⟨((l.drop cap).take (cap - cap)).toArray⟩ := ⟨_, rfl⟩
        have HTX := (show Hid (TX = ⟨((l.drop cap).take (cap - cap)).toArray⟩) from hTX)
        rw [← hTX] at KC2
        clear hTX
        have hcv0 := KC2.out wr.drew ((Below.refl _ _).drew)
        go_region_held3 (fun w' => w'.cell? ⟨p, 0, none⟩ = some (.slice a l.length cap) ∧ w'.cell? ⟨p, 1, none⟩ = some (.int .i64 (cap : Int)) ∧ (convert 22 9 (.slice a 0 0)).run Tryd.prog w' = .ok (.string TX) w') (go_keep) (fail)
        go_wp2_with fail
        go_ret
        rw [HTX.out]
        refine FIN.out wr.drew cap f (HR.out.keep (Below.refl _ _).drew) (Md.refl _ _).drew (Nat.le_refl _) HW.out.1 (fun h => absurd h HW.out.2)
      · have KC2 := (show Hid (∀ W, Below wr.heap.size wr W → (convert 22 9 (.slice (Option.map (fun x => x.add k0) a) 0 (cap - k0))).run Tryd.prog W = .ok (.string ⟨((l.drop k0).take (k0 - k0)).toArray⟩) W) from fun W hb => by
          have := CV.out W k0 (.inr ⟨_, HR.out.keep hb⟩) (Nat.le_refl _)
          rw [fromA, if_neg hck] at this
          rw [Nat.sub_self] at this ⊢
          exact this)
        obtain ⟨TX, hTX⟩ : ∃ TX : ByteArray, TX = ⟨((l.drop k0).take (k0 - k0)).toArray⟩ := ⟨_, rfl⟩
        have HTX := (show Hid (TX = ⟨((l.drop k0).take (k0 - k0)).toArray⟩) from hTX)
        rw [← hTX] at KC2
        clear hTX
        have hcv0 := KC2.out wr.drew ((Below.refl _ _).drew)
        go_region_held3 (fun w' => w'.cell? ⟨p, 0, none⟩ = some (.slice a l.length cap) ∧ w'.cell? ⟨p, 1, none⟩ = some (.int .i64 (k0 : Int)) ∧ (convert 22 9 (.slice (Option.map (fun x => x.add k0) a) 0 (cap - k0))).run Tryd.prog w' = .ok (.string TX) w') (go_keep) (fail)
        go_wp2_with fail
        go_ret
        rw [HTX.out]
        refine FIN.out wr.drew k0 f (HR.out.keep (Below.refl _ _).drew) (Md.refl _ _).drew (Nat.le_refl _) HW.out.1 (fun h => absurd h HW.out.2)
end Go.Proofs.YtgpjjlkkfddjnaaDoor
