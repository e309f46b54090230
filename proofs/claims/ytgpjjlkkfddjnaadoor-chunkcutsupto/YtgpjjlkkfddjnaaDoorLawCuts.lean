/-
  ChunkCuts: the law's walk.
-/
import Derived.Test.YtgpjjlkkfddjnaaDoorLwA
import Derived.Deep.RegionHeld3
namespace Go.Proofs.YtgpjjlkkfddjnaaDoor
open Go.RowKit

set_option maxRecDepth 20000 in
set_option maxHeartbeats 4000000 in
theorem chunkCuts_walk (x : Wh) (ka : Option Addr) (kc : Nat) (da : Option Addr) (data : List UInt8) (dc : Nat) (sa : Option Addr) (za : List Int) (sc : Nat) (sb : Option Addr) (zb : List Int) (sd : Nat) (w : World)
    (hx : WhOk w x ka kc) (hd : Sl w da dc data) (hSa : Ints w sa za) (hSb : Ints w sb zb) (hdl : data.length ≤ 1000000000) (hal : za.length ≤ 1000000000) (hbl : zb.length ≤ 1000000000) (he : Er w) (ht : Tz w) :
    Calls Tryd.prog 8 #[x.v ka kc, .slice da data.length dc, .slice sa za.length sc, .slice sb zb.length sd] w fun e w' => e = .returned (.bool true) ∧ Below w.heap.size w w' := by
  have AW := (show Hid (∀ W, Below w.heap.size w W → Calls Tryd.prog 14 #[] W fun e w' => e = .returned (.bool true) ∧ Below w.heap.size w w') from fun W hW => (awake_any W (he.below hW (Nat.le_refl _)) (ht.below hW (Nat.le_refl _))).mono fun e w' ⟨h1, h2⟩ => ⟨h1, hW.trans (h2.mono hW.size)⟩)
  obtain ⟨W, hW⟩ : ∃ W, W = w.alloc (.cells #[.string ⟨x.id.toArray⟩, .string ⟨x.date.toArray⟩, .string ⟨x.scope.toArray⟩, .string ⟨x.sig.toArray⟩, .slice ka x.key.length kc, .string ⟨x.pay.toArray⟩] 24) := ⟨_, rfl⟩
  obtain ⟨N, hN⟩ : ∃ N, N = w.heap.size := ⟨_, rfl⟩
  have nW : W.heap[N]? = some (.cells #[.string ⟨x.id.toArray⟩, .string ⟨x.date.toArray⟩, .string ⟨x.scope.toArray⟩, .string ⟨x.sig.toArray⟩, .slice ka x.key.length kc, .string ⟨x.pay.toArray⟩] 24 (0, 0)) := by rw [hW, hN]; exact heap_alloc_new w _
  have hbW : Below w.heap.size w W := by rw [hW]; exact (Below.refl _ _).alloc (Nat.le_refl _) _
  have HB := (show Hid (Below w.heap.size w W) from hbW)
  have HN := (show Hid _ from nW)
  have HW := (show Hid (WhOk W x ka kc ∧ Sl W da dc data ∧ Ints W sa za ∧ Ints W sb zb ∧ Er W ∧ Tz W) from ⟨hx.below hbW, hd.below hbW, hSa.below hbW, hSb.below hbW, he.below hbW (Nat.le_refl _), ht.below hbW (Nat.le_refl _)⟩)
  have HL := (show Hid (data.length ≤ 1000000000 ∧ za.length ≤ 1000000000 ∧ zb.length ≤ 1000000000) from ⟨hdl, hal, hbl⟩)
  clear hx hd hSa hSb hdl hal hbl he ht hbW
  obtain ⟨x0, x1, x2, x3, x4, x5⟩ := six_of nW
  clear nW
  unfold Wh.v
  go_enter Tryd.func8, Tryd.ntmps8
  go_upto_region 1 with fail
  rw [← hN, ← hW]
  clear hN hW
  go_cut [25] from 13 to 24 (fun s w' => s = .bool (decide (3000 < data.length ∨ 60 < za.length ∨ 60 < zb.length)) ∧ W = w')
  case first =>
    by_cases h1 : 3000 < data.length
    · go_wp2
      go_meet
      case rel => exact ⟨by congr 1; rw [Bool.eq_iff_iff]; simp <;> omega, rfl⟩
    · by_cases h2 : 60 < za.length
      · go_wp2
        go_meet
        case rel => exact ⟨by congr 1; rw [Bool.eq_iff_iff]; simp <;> omega, rfl⟩
      · by_cases h3 : 60 < zb.length
        · go_wp2
          go_meet
          case rel => exact ⟨by congr 1; rw [Bool.eq_iff_iff]; simp <;> omega, rfl⟩
        · go_wp2
          go_meet
          case rel => exact ⟨by congr 1; rw [Bool.eq_iff_iff]; simp <;> omega, rfl⟩
  obtain ⟨hs25, hw25⟩ := hcut
  subst hs25 hw25
  by_cases hg : 3000 < data.length ∨ 60 < za.length ∨ 60 < zb.length
  · rw [decide_eq_true hg]
    clear hg
    go_wp2_with fail
    refine Calls.mono (AW.out W HB.out) ?_
    rintro e w9 ⟨rfl, hb9⟩
    go_wp2
    go_ret
    exact ⟨rfl, hb9⟩
  · rw [decide_eq_false hg]
    have HG := (show Hid (data.length ≤ 3000 ∧ za.length ≤ 60 ∧ zb.length ≤ 60) from by refine ⟨?_, ?_, ?_⟩ <;> omega)
    clear hg
    go_upto_region 3 with fail
    have EQ : ∀ zs : List Int, decL x data.length (encL x data zs) = (data, 0) := fun zs => by rw [back_all x data zs data.length HL.out.1]; simp
    have KE := (show Hid (∀ W' (s9 : Option Addr) (zs : List Int) (c9 : Nat), Below W.heap.size W W' → Ints W s9 zs → zs.length ≤ 60 → Calls Tryd.prog 15 #[x.v ka kc, .slice da data.length dc, .slice s9 zs.length c9] W' fun e w' => ∃ a c, e = .returned (.slice a (encL x data zs).length c) ∧ Sl w' a c (encL x data zs) ∧ Below W.heap.size W w' ∧ Below W'.heap.size W' w') from fun W' s9 zs c9 hb hS hz => (encode_call (HW.out.1.below hb) (HW.out.2.1.below hb) HL.out.1 (hS.below hb) (by omega) (HW.out.2.2.2.2.2.below hb (Nat.le_refl _))).mono fun e w' ⟨a, c, h1, h2, h3⟩ => ⟨a, c, h1, h2, hb.trans (h3.mono hb.size), h3⟩)
    have KD := (show Hid (∀ W' a c zs, Below W.heap.size W W' → zs.length ≤ 60 → Sl W' a c (encL x data zs) → Calls Tryd.prog 9 #[x.v ka kc, .slice a (encL x data zs).length c, .int .i64 (data.length : Int)] W' fun e w' => ∃ a' c', e = .returned (.tuple #[.slice a' data.length c', .int .i64 0]) ∧ Sl w' a' c' data ∧ Below W.heap.size W w' ∧ Below W'.heap.size W' w') from fun W' a c zs hb hz hs => by
      have hlen := encL_len x data zs
      have h := decode_call (x := x) (ka := ka) (kc := kc) (data.length : Int) (HW.out.1.below hb) hs (by have := HL.out.1; have := HG.out; omega) (HW.out.2.2.2.2.1.below hb (Nat.le_refl _))
      rw [EQ zs] at h
      exact h.mono fun e w' ⟨a', c', h1, h2, h3⟩ => ⟨a', c', h1, h2, hb.trans (h3.mono hb.size), h3⟩)
    have HZ := (show Hid (za.length ≤ 60 ∧ zb.length ≤ 60) from by have := HG.out; show _ ∧ _; omega)
    unfold Wh.v at KE KD
    clear EQ
    go_region_held3 (fun w' => w'.cell? ⟨N, 0, none⟩ = some (.string ⟨x.id.toArray⟩) ∧ w'.cell? ⟨N, 1, none⟩ = some (.string ⟨x.date.toArray⟩) ∧ w'.cell? ⟨N, 2, none⟩ = some (.string ⟨x.scope.toArray⟩) ∧ w'.cell? ⟨N, 3, none⟩ = some (.string ⟨x.sig.toArray⟩) ∧ w'.cell? ⟨N, 4, none⟩ = some (.slice ka x.key.length kc) ∧ w'.cell? ⟨N, 5, none⟩ = some (.string ⟨x.pay.toArray⟩)) (first | go_keep | (exact z2) | (exact z3)) (first
      | (go_at_call 15; (with_reducible refine Calls.mono (KE.out _ sa za sc ((Below.refl _ W).drew) HW.out.2.2.1 HZ.out.1) ?_); rintro e w2 ⟨a2, c2, rfl, hs2, hb2, hk2⟩; have z2 := six_of ((hb2.block N (blk_lt HN.out)).trans HN.out))
      | (go_at_call 9; (with_reducible refine Calls.mono (KD.out _ _ _ za hb2 HZ.out.1 hs2) ?_); rintro e w3 ⟨a3, c3, rfl, hs3, hb3, hk3⟩; have z3 := six_of ((hb3.block N (blk_lt HN.out)).trans HN.out)))
    have HB3 := (show Hid (Below W.heap.size W w3) from hb3)
    have HS3 := (show Hid (Sl w3 a3 c3 data) from hs3)
    obtain ⟨x0, x1, x2, x3, x4, x5⟩ := z3
    clear hb2 hb3 hs2 hs3 z2 hk2 hk3
    go_upto_region 4 with fail
    go_region_held3 (fun w' => w'.cell? ⟨N, 0, none⟩ = some (.string ⟨x.id.toArray⟩) ∧ w'.cell? ⟨N, 1, none⟩ = some (.string ⟨x.date.toArray⟩) ∧ w'.cell? ⟨N, 2, none⟩ = some (.string ⟨x.scope.toArray⟩) ∧ w'.cell? ⟨N, 3, none⟩ = some (.string ⟨x.sig.toArray⟩) ∧ w'.cell? ⟨N, 4, none⟩ = some (.slice ka x.key.length kc) ∧ w'.cell? ⟨N, 5, none⟩ = some (.string ⟨x.pay.toArray⟩)) (first | go_keep | (exact z4) | (exact z5)) (first
      | (go_at_call 15; (with_reducible refine Calls.mono (KE.out _ sb zb sd (HB3.out.drew) HW.out.2.2.2.1 HZ.out.2) ?_); rintro e w4 ⟨a4, c4, rfl, hs4, hb4, hk4⟩; have z4 := six_of ((hb4.block N (blk_lt HN.out)).trans HN.out))
      | (go_at_call 9; (with_reducible refine Calls.mono (KD.out _ _ _ zb hb4 HZ.out.2 hs4) ?_); rintro e w5 ⟨a5, c5, rfl, hs5, hb5, hk5⟩; have z5 := six_of ((hb5.block N (blk_lt HN.out)).trans HN.out)))
    have hb35 : Below w3.heap.size w3 w5 := ((Below.refl _ w3).drew.trans hk4).trans (hk5.mono hk4.size)
    have HB5 := (show Hid (Below w.heap.size w w5) from HB.out.trans (hb5.mono HB.out.size))
    have hcv1 := (HS3.out.below hb35).conv
    have hcv2 := hs5.conv
    have hcv3 := (HW.out.2.1.below hb5).conv
    obtain ⟨DS, hDS⟩ : ∃ DS : ByteArray, DS = ⟨data.toArray⟩ := ⟨_, rfl⟩
    rw [← hDS] at hcv1 hcv2 hcv3
    clear hDS hb4 hb5 hs4 hs5 hk4 hk5 z4 z5 hb35 KE KD
    have AW5 := (show Hid _ from AW.out w5 HB5.out)
    go_wp2_with (go_at_call 14; refine Calls.mono AW5.out ?_; rintro e w9 ⟨rfl, hb9⟩)
    go_ret
    exact ⟨rfl, hb9⟩
end Go.Proofs.YtgpjjlkkfddjnaaDoor
