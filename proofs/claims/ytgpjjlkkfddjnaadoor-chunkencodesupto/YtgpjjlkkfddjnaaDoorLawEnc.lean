/-
  ChunkEncodes: the law's walk.
-/
import Derived.Test.YtgpjjlkkfddjnaaDoorToA
import Derived.Test.YtgpjjlkkfddjnaaDoorReC
import Derived.Deep.RegionHeld3
import Derived.Deep.RegionWith
namespace Go.Proofs.YtgpjjlkkfddjnaaDoor
open Go.RowKit

theorem rencode_call {x : Wh} {ka : Option Addr} {kc : Nat} {da : Option Addr} {data : List UInt8} {dc : Nat} {sa : Option Addr} {zs : List Int} {sc : Nat} {w : World} (hx : WhOk w x ka kc) (hkn : ka = none → kc = 0) (hd : Sl w da dc data) (hdl : data.length ≤ 1000000000) (hS : Ints w sa zs) (hzl : zs.length ≤ 100000000) :
    Calls Tryd.prog 16 #[x.v ka kc, .slice da data.length dc, .slice sa zs.length sc] w fun e w' => ∃ a c, e = .returned (.slice a (encL x data zs).length c) ∧ Sl w' a c (encL x data zs) ∧ Below w.heap.size w w' :=
  (rencode_any x ka kc da data dc sa zs sc w hx hkn hd hdl hS hzl).mono fun e w' ⟨v, h1, h2, h3⟩ => by
    obtain ⟨a, c, h4, h5⟩ := own_sl h2
    exact ⟨a, c, by rw [h1, h4], h5, h3⟩
set_option maxRecDepth 20000 in
set_option maxHeartbeats 4000000 in
theorem chunkEncodes_walk (x : Wh) (ka : Option Addr) (kc : Nat) (da : Option Addr) (data : List UInt8) (dc : Nat) (sa : Option Addr) (zs : List Int) (sc : Nat) (w : World)
    (hx : WhOk w x ka kc) (hkn : ka = none → kc = 0) (hd : Sl w da dc data) (hS : Ints w sa zs) (hdl : data.length ≤ 1000000000) (hzl : zs.length ≤ 100000000) (he : Er w) (ht : Tz w) :
    Calls Tryd.prog 4 #[x.v ka kc, .slice da data.length dc, .slice sa zs.length sc] w fun e w' => e = .returned (.bool true) ∧ Below w.heap.size w w' := by
  obtain ⟨W, hW⟩ : ∃ W, W = w.alloc (.cells #[.string ⟨x.id.toArray⟩, .string ⟨x.date.toArray⟩, .string ⟨x.scope.toArray⟩, .string ⟨x.sig.toArray⟩, .slice ka x.key.length kc, .string ⟨x.pay.toArray⟩] 24) := ⟨_, rfl⟩
  obtain ⟨N, hN⟩ : ∃ N, N = w.heap.size := ⟨_, rfl⟩
  have nW : W.heap[N]? = some (.cells #[.string ⟨x.id.toArray⟩, .string ⟨x.date.toArray⟩, .string ⟨x.scope.toArray⟩, .string ⟨x.sig.toArray⟩, .slice ka x.key.length kc, .string ⟨x.pay.toArray⟩] 24 (0, 0)) := by rw [hW, hN]; exact heap_alloc_new w _
  have hbW : Below w.heap.size w W := by rw [hW]; exact (Below.refl _ _).alloc (Nat.le_refl _) _
  have HB := (show Hid (Below w.heap.size w W) from hbW)
  have HN := (show Hid _ from nW)
  have HW := (show Hid (WhOk W x ka kc ∧ Sl W da dc data ∧ Ints W sa zs ∧ Er W ∧ Tz W ∧ (ka = none → kc = 0)) from ⟨hx.below hbW, hd.below hbW, hS.below hbW, he.below hbW (Nat.le_refl _), ht.below hbW (Nat.le_refl _), hkn⟩)
  have HL := (show Hid (data.length ≤ 1000000000 ∧ zs.length ≤ 100000000) from ⟨hdl, hzl⟩)
  clear hx hd hS hdl hzl he ht hbW hkn
  obtain ⟨x0, x1, x2, x3, x4, x5⟩ := six_of nW
  clear nW
  obtain ⟨E, hE⟩ : ∃ E, E = encL x data zs := ⟨_, rfl⟩
  obtain ⟨ES, hES⟩ : ∃ ES : ByteArray, ES = ⟨E.toArray⟩ := ⟨_, rfl⟩
  have HES := (show Hid (ES = ⟨E.toArray⟩) from hES)
  have SX := (show Hid (∀ w', Below W.heap.size W w' → w'.cell? ⟨N, 0, none⟩ = some (.string ⟨x.id.toArray⟩) ∧ w'.cell? ⟨N, 1, none⟩ = some (.string ⟨x.date.toArray⟩) ∧ w'.cell? ⟨N, 2, none⟩ = some (.string ⟨x.scope.toArray⟩) ∧ w'.cell? ⟨N, 3, none⟩ = some (.string ⟨x.sig.toArray⟩) ∧ w'.cell? ⟨N, 4, none⟩ = some (.slice ka x.key.length kc) ∧ w'.cell? ⟨N, 5, none⟩ = some (.string ⟨x.pay.toArray⟩)) from fun w' hb => six_of ((hb.block N (blk_lt HN.out)).trans HN.out))
  have KE := (show Hid (∀ W', Below W.heap.size W W' → Calls Tryd.prog 15 #[x.v ka kc, .slice da data.length dc, .slice sa zs.length sc] W' fun e w' => ∃ a c, e = .returned (.slice a E.length c) ∧ Sl w' a c E ∧ Below W.heap.size W w') from fun W' hb => by
    rw [hE]
    exact (encode_call (HW.out.1.below hb) (HW.out.2.1.below hb) HL.out.1 (HW.out.2.2.1.below hb) HL.out.2 (HW.out.2.2.2.2.1.below hb (Nat.le_refl _))).mono fun e w' ⟨a, c, h1, h2, h3⟩ => ⟨a, c, h1, h2, hb.trans (h3.mono hb.size)⟩)
  have KR := (show Hid (∀ W', Below W.heap.size W W' → Calls Tryd.prog 16 #[x.v ka kc, .slice da data.length dc, .slice sa zs.length sc] W' fun e w' => ∃ a c, e = .returned (.slice a E.length c) ∧ Sl w' a c E ∧ Below W.heap.size W w' ∧ Below W'.heap.size W' w') from fun W' hb => by
    rw [hE]
    exact (rencode_call (HW.out.1.below hb) HW.out.2.2.2.2.2 (HW.out.2.1.below hb) HL.out.1 (HW.out.2.2.1.below hb) HL.out.2).mono fun e w' ⟨a, c, h1, h2, h3⟩ => ⟨a, c, h1, h2, hb.trans (h3.mono hb.size), h3⟩)
  have KT := (show Hid (∀ W', Below W.heap.size W W' → Calls Tryd.prog 11 #[x.v ka kc] W' fun e w' => e = .returned (x.v ka kc) ∧ Below W.heap.size W w' ∧ Below W'.heap.size W' w') from fun W' hb => (to_any x ka kc W').mono fun e w' ⟨h1, h2⟩ => ⟨h1, hb.trans (h2.mono hb.size), h2⟩)
  have AW := (show Hid (∀ W', Below W.heap.size W W' → Calls Tryd.prog 14 #[] W' fun e w' => e = .returned (.bool true) ∧ Below W.heap.size W w') from fun W' hb => (awake_any W' (HW.out.2.2.2.1.below hb (Nat.le_refl _)) (HW.out.2.2.2.2.1.below hb (Nat.le_refl _))).mono fun e w' ⟨h1, h2⟩ => ⟨h1, hb.trans (h2.mono hb.size)⟩)
  clear hE hES
  unfold Wh.v at KE KR KT ⊢
  go_enter Tryd.func4, Tryd.ntmps4
  go_upto_region 1 with fail
  rw [← hN, ← hW]
  clear hN hW
  go_region_with (first
    | (go_at_call 15; (with_reducible refine Calls.mono (KE.out _ ((Below.refl _ W).drew)) ?_); rintro e w2 ⟨a2, c2, rfl, hs2, hb2⟩; obtain ⟨y20, y21, y22, y23, y24, y25⟩ := SX.out w2 hb2; have hcv2 := hs2.conv; rw [← HES.out] at hcv2)
    | (go_at_call 11; (with_reducible refine Calls.mono (KT.out _ hb2) ?_); rintro e w3 ⟨rfl, hb3, hk3⟩; obtain ⟨y30, y31, y32, y33, y34, y35⟩ := SX.out w3 hb3; have hcv3 := (hs2.below hk3).conv; rw [← HES.out] at hcv3)
    | (go_at_call 16; (with_reducible refine Calls.mono (KR.out _ hb3) ?_); rintro e w4 ⟨a4, c4, rfl, hs4, hb4, hk4⟩; obtain ⟨y40, y41, y42, y43, y44, y45⟩ := SX.out w4 hb4; have hcv4 := hs4.conv; have hcw4 := ((hs2.below hk3).below hk4).conv; rw [← HES.out] at hcv4 hcw4)
    | (go_at_call 14; (with_reducible refine Calls.mono (AW.out _ hb4) ?_); rintro e w5 ⟨rfl, hb5⟩))
  all_goals
    go_wp2_with fail
    go_ret
    exact ⟨rfl, HB.out.trans (hb5.mono HB.out.size)⟩
end Go.Proofs.YtgpjjlkkfddjnaaDoor
