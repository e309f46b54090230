/-
  ChunkDecodes: the law's walk.
-/
import Derived.Test.YtgpjjlkkfddjnaaDoorToA
import Derived.Test.YtgpjjlkkfddjnaaDoorRrF
import Derived.Deep.RegionHeld3
namespace Go.Proofs.YtgpjjlkkfddjnaaDoor
open Go.RowKit

theorem rdecode_call {x : Wh} {ka : Option Addr} {kc : Nat} {a : Option Addr} {l : List UInt8} {c : Nat} (size : Int) {w : World} (hx : WhOk w x ka kc) (hkn : ka = none → kc = 0) (hl : Sl w a c l) (hll : l.length ≤ 1000000000) :
    Calls Tryd.prog 10 #[x.v ka kc, .slice a l.length c, .int .i64 size] w fun e w' => ∃ a' c', e = .returned (.tuple #[.slice a' (decL x size l).1.length c', .int .i64 (decL x size l).2]) ∧ Sl w' a' c' (decL x size l).1 ∧ Below w.heap.size w w' :=
  (rdecode_any x ka kc a l c size w hx hkn hl hll).mono fun e w' ⟨v, h1, h2, h3⟩ => by
    obtain ⟨a', c', h4, h5⟩ := own_sl h2
    exact ⟨a', c', by rw [h1, h4], h5, h3⟩
set_option maxRecDepth 20000 in
set_option maxHeartbeats 4000000 in
theorem chunkDecodes_walk (x : Wh) (ka : Option Addr) (kc : Nat) (da : Option Addr) (data : List UInt8) (dc : Nat) (size : Int) (w : World)
    (hx : WhOk w x ka kc) (hkn : ka = none → kc = 0) (hd : Sl w da dc data) (hdl : data.length ≤ 1000000000) (he : Er w) (ht : Tz w) :
    Calls Tryd.prog 3 #[x.v ka kc, .slice da data.length dc, .int .i64 size] w fun e w' => e = .returned (.bool true) ∧ Below w.heap.size w w' := by
  have AW := (show Hid (∀ W, Below w.heap.size w W → Calls Tryd.prog 14 #[] W fun e w' => e = .returned (.bool true) ∧ Below W.heap.size W w') from fun W hW => awake_any W (he.below hW (Nat.le_refl _)) (ht.below hW (Nat.le_refl _)))
  obtain ⟨W, hW⟩ : ∃ W, W = w.alloc (.cells #[.string ⟨x.id.toArray⟩, .string ⟨x.date.toArray⟩, .string ⟨x.scope.toArray⟩, .string ⟨x.sig.toArray⟩, .slice ka x.key.length kc, .string ⟨x.pay.toArray⟩] 24) := ⟨_, rfl⟩
  obtain ⟨N, hN⟩ : ∃ N, N = w.heap.size := ⟨_, rfl⟩
  have nW : W.heap[N]? = some (.cells #[.string ⟨x.id.toArray⟩, .string ⟨x.date.toArray⟩, .string ⟨x.scope.toArray⟩, .string ⟨x.sig.toArray⟩, .slice ka x.key.length kc, .string ⟨x.pay.toArray⟩] 24 (0, 0)) := by rw [hW, hN]; exact heap_alloc_new w _
  have hbW : Below w.heap.size w W := by rw [hW]; exact (Below.refl _ _).alloc (Nat.le_refl _) _
  have HB := (show Hid (Below w.heap.size w W) from hbW)
  have HN := (show Hid _ from nW)
  have HW := (show Hid (WhOk W x ka kc ∧ Sl W da dc data ∧ Er W ∧ Tz W ∧ (ka = none → kc = 0)) from ⟨hx.below hbW, hd.below hbW, he.below hbW (Nat.le_refl _), ht.below hbW (Nat.le_refl _), hkn⟩)
  have HL := (show Hid (data.length ≤ 1000000000) from hdl)
  clear hx hd hdl he ht hbW hkn
  obtain ⟨x0, x1, x2, x3, x4, x5⟩ := six_of nW
  clear nW
  have KD := (show Hid _ from decode_call size HW.out.1 HW.out.2.1 HL.out HW.out.2.2.1)
  obtain ⟨D, hD⟩ : ∃ D, D = decL x size data := ⟨_, rfl⟩
  have KR := (show Hid (∀ W', Below W.heap.size W W' → Calls Tryd.prog 10 #[x.v ka kc, .slice da data.length dc, .int .i64 size] W' fun e w' => ∃ a' c', e = .returned (.tuple #[.slice a' D.1.length c', .int .i64 D.2]) ∧ Sl w' a' c' D.1 ∧ Below W'.heap.size W' w') from fun W' hb => by rw [hD]; exact rdecode_call size (HW.out.1.below hb) HW.out.2.2.2.2 (HW.out.2.1.below hb) HL.out)
  rw [← hD] at KD
  have KT := (show Hid (∀ W', Calls Tryd.prog 11 #[x.v ka kc] W' fun e w' => e = .returned (x.v ka kc) ∧ Below W'.heap.size W' w') from fun W' => to_any x ka kc W')
  obtain ⟨SG, hSG⟩ : ∃ SG : ByteArray, SG = ⟨(sgL x.key x.date x.scope [108] data).toArray⟩ := ⟨_, rfl⟩
  have KS := (show Hid (∀ W', Below W.heap.size W W' → Calls Tryd.prog 12 #[x.v ka kc, .string ⟨#[108]⟩, .slice da data.length dc] W' fun e w' => e = .returned (.string SG) ∧ Below W'.heap.size W' w') from fun W' hb => by
    rw [hSG]
    have h := HW.out.1.below hb
    have h2 := HW.out.2.1.below hb
    exact sign_any x ka kc [108] data da dc W' h.cap h.key h.by_ h2.cap HL.out h2.by_ h.date h.scope (by simp))
  have KQ := (show Hid (∀ W', Below W.heap.size W W' → Calls Tryd.prog 13 #[x.v ka kc, .string ⟨#[108]⟩, .slice da data.length dc] W' fun e w' => e = .returned (.string SG) ∧ Below W'.heap.size W' w') from fun W' hb => by
    rw [hSG]
    exact rsign_any x ka kc [108] data da dc W' (HW.out.1.below hb) HW.out.2.2.2.2 HL.out (HW.out.2.1.below hb).by_ (by simp))
  clear hD hSG
  unfold Wh.v at KD KR KT KS KQ ⊢
  go_enter Tryd.func3, Tryd.ntmps3
  go_upto_region 1 with fail
  rw [← hN, ← hW]
  clear hN hW
  go_wp2_with fail
  refine Calls.mono KD.out ?_
  rintro e w1 ⟨a1, c1, rfl, hs1, hb1⟩
  have HB1 := (show Hid (Below W.heap.size W w1) from hb1)
  have HS1 := (show Hid (Sl w1 a1 c1 D.1) from hs1)
  obtain ⟨x0, x1, x2, x3, x4, x5⟩ := six_of ((HB1.out.block N (blk_lt HN.out)).trans HN.out)
  clear hs1 hb1 KD
  go_wp2_with fail
  refine Calls.mono (KT.out w1) ?_
  rintro e w2 ⟨rfl, hb2⟩
  have HB2 := (show Hid (Below W.heap.size W w2 ∧ Below w1.heap.size w1 w2) from ⟨HB1.out.trans (hb2.mono HB1.out.size), hb2⟩)
  clear hb2
  go_wp2_with fail
  refine Calls.mono (KR.out w2 HB2.out.1) ?_
  rintro e w3 ⟨a3, c3, rfl, hs3, hb3⟩
  have HB3 := (show Hid (Below W.heap.size W w3 ∧ Below w1.heap.size w1 w3) from ⟨HB2.out.1.trans (hb3.mono HB2.out.1.size), HB2.out.2.trans (hb3.mono HB2.out.2.size)⟩)
  obtain ⟨x0, x1, x2, x3, x4, x5⟩ := six_of ((HB3.out.1.block N (blk_lt HN.out)).trans HN.out)
  obtain ⟨DS, hDS⟩ : ∃ DS : ByteArray, DS = ⟨D.1.toArray⟩ := ⟨_, rfl⟩
  have HS3 := (show Hid (Sl w3 a3 c3 D.1) from hs3)
  have ZS := (show Hid (∀ w', Below w3.heap.size w3 w' → w'.cell? ⟨N, 0, none⟩ = some (.string ⟨x.id.toArray⟩) ∧ w'.cell? ⟨N, 1, none⟩ = some (.string ⟨x.date.toArray⟩) ∧ w'.cell? ⟨N, 2, none⟩ = some (.string ⟨x.scope.toArray⟩) ∧ w'.cell? ⟨N, 3, none⟩ = some (.string ⟨x.sig.toArray⟩) ∧ w'.cell? ⟨N, 4, none⟩ = some (.slice ka x.key.length kc) ∧ w'.cell? ⟨N, 5, none⟩ = some (.string ⟨x.pay.toArray⟩) ∧ (convert 22 9 (.slice a1 D.1.length c1)).run Tryd.prog w' = .ok (.string DS) w' ∧ (convert 22 9 (.slice a3 D.1.length c3)).run Tryd.prog w' = .ok (.string DS) w') from fun w' hb => by
    obtain ⟨y0, y1, y2, y3, y4, y5⟩ := six_of ((hb.block N (Nat.lt_of_lt_of_le (blk_lt HN.out) HB3.out.1.size)).trans ((HB3.out.1.block N (blk_lt HN.out)).trans HN.out))
    rw [hDS]
    exact ⟨y0, y1, y2, y3, y4, y5, (HS1.out.below (HB3.out.2.trans (hb.mono HB3.out.2.size))).conv, (HS3.out.below hb).conv⟩)
  have KS3 := (show Hid (∀ W', Below w3.heap.size w3 W' → Calls Tryd.prog 12 #[_, .string ⟨#[108]⟩, .slice da data.length dc] W' fun e w' => e = .returned (.string SG) ∧ Below w3.heap.size w3 w') from fun W' hb => (KS.out W' (HB3.out.1.trans (hb.mono HB3.out.1.size))).mono fun e w' ⟨h1, h2⟩ => ⟨h1, hb.trans (h2.mono hb.size)⟩)
  have KQ3 := (show Hid (∀ W', Below w3.heap.size w3 W' → Calls Tryd.prog 13 #[_, .string ⟨#[108]⟩, .slice da data.length dc] W' fun e w' => e = .returned (.string SG) ∧ Below w3.heap.size w3 w') from fun W' hb => (KQ.out W' (HB3.out.1.trans (hb.mono HB3.out.1.size))).mono fun e w' ⟨h1, h2⟩ => ⟨h1, hb.trans (h2.mono hb.size)⟩)
  have KT3 := (show Hid (∀ W', Below w3.heap.size w3 W' → Calls Tryd.prog 11 #[x.v ka kc] W' fun e w' => e = .returned (x.v ka kc) ∧ Below w3.heap.size w3 w') from fun W' hb => (KT.out W').mono fun e w' ⟨h1, h2⟩ => ⟨h1, hb.trans (h2.mono hb.size)⟩)
  have AW3 := (show Hid (∀ W', Below w3.heap.size w3 W' → Calls Tryd.prog 14 #[] W' fun e w' => e = .returned (.bool true) ∧ Below w3.heap.size w3 w') from fun W' hb => (AW.out W' (HB.out.trans ((HB3.out.1.trans (hb.mono HB3.out.1.size)).mono HB.out.size))).mono fun e w' ⟨h1, h2⟩ => ⟨h1, hb.trans (h2.mono hb.size)⟩)
  unfold Wh.v at KT3
  have z3 := ZS.out w3.drew ((Below.refl _ w3).drew)
  obtain ⟨-, -, -, -, -, -, hcv1, hcv3⟩ := z3
  clear hDS hs3 hb3 KR HB2 KS KQ KT
  go_upto_region 3 with fail
  go_region_held3 (fun w' => w'.cell? ⟨N, 0, none⟩ = some (.string ⟨x.id.toArray⟩) ∧ w'.cell? ⟨N, 1, none⟩ = some (.string ⟨x.date.toArray⟩) ∧ w'.cell? ⟨N, 2, none⟩ = some (.string ⟨x.scope.toArray⟩) ∧ w'.cell? ⟨N, 3, none⟩ = some (.string ⟨x.sig.toArray⟩) ∧ w'.cell? ⟨N, 4, none⟩ = some (.slice ka x.key.length kc) ∧ w'.cell? ⟨N, 5, none⟩ = some (.string ⟨x.pay.toArray⟩) ∧ (convert 22 9 (.slice a1 D.1.length c1)).run Tryd.prog w' = .ok (.string DS) w' ∧ (convert 22 9 (.slice a3 D.1.length c3)).run Tryd.prog w' = .ok (.string DS) w') (first | go_keep | (exact z4) | (exact z5) | (exact z6) | (exact z7)) (first
    | (go_at_call 12; (with_reducible refine Calls.mono (KS3.out _ ((Below.refl _ w3).drew)) ?_); rintro e w4 ⟨rfl, hb4⟩; have z4 := ZS.out w4 hb4)
    | (go_at_call 11; (with_reducible refine Calls.mono (KT3.out _ hb4) ?_); rintro e w5 ⟨rfl, hb5⟩; have z5 := ZS.out w5 hb5)
    | (go_at_call 13; (with_reducible refine Calls.mono (KQ3.out _ hb5) ?_); rintro e w6 ⟨rfl, hb6⟩; have z6 := ZS.out w6 hb6)
    | (go_at_call 14; (with_reducible refine Calls.mono (AW3.out _ hb6) ?_); rintro e w7 ⟨rfl, hb7⟩; have z7 := ZS.out w7 hb7))
  go_wp2_with fail
  go_ret
  exact ⟨rfl, HB.out.trans ((HB3.out.1.trans (hb7.mono HB3.out.1.size)).mono HB.out.size)⟩
end Go.Proofs.YtgpjjlkkfddjnaaDoor
