/-
  ChunkBodies: the law's walk.
-/
import Derived.Test.YtgpjjlkkfddjnaaDoorToA
import Derived.Test.YtgpjjlkkfddjnaaDoorBdC
import Derived.Deep.RegionHeld3
namespace Go.Proofs.YtgpjjlkkfddjnaaDoor
open Go.RowKit

set_option maxRecDepth 20000 in
set_option maxHeartbeats 4000000 in
theorem chunkBodies_walk (x : Wh) (ka : Option Addr) (kc : Nat) (m t : List UInt8) (ha : Option Addr) (hs : List Hd) (hc : Nat) (ba : Option Addr) (b : List UInt8) (bc : Nat) (w : World)
    (hx : WhOk w x ka kc) (hkn : ka = none → kc = 0) (hH : Hdrs w ha hs) (hhl : hs.length ≤ 1000000000) (hhv : ∀ h ∈ hs, h.2.length ≤ 1000000000) (hb : Sl w ba bc b) (hbl : b.length ≤ 1000000000) (he : Er w) (ht : Tz w) :
    Calls Tryd.prog 5 #[x.v ka kc, .agg #[.string ⟨m.toArray⟩, .string ⟨t.toArray⟩, .slice ha hs.length hc, .slice ba b.length bc]] w fun e w' => e = .returned (.bool true) ∧ Below w.heap.size w w' := by
  have AW := (show Hid (∀ W, Below w.heap.size w W → Calls Tryd.prog 14 #[] W fun e w' => e = .returned (.bool true) ∧ Below W.heap.size W w') from fun W hW => awake_any W (he.below hW (Nat.le_refl _)) (ht.below hW (Nat.le_refl _)))
  obtain ⟨W1, hW1⟩ : ∃ W1, W1 = w.alloc (.cells #[.string ⟨x.id.toArray⟩, .string ⟨x.date.toArray⟩, .string ⟨x.scope.toArray⟩, .string ⟨x.sig.toArray⟩, .slice ka x.key.length kc, .string ⟨x.pay.toArray⟩] 24) := ⟨_, rfl⟩
  obtain ⟨W, hW⟩ : ∃ W, W = W1.alloc (.cells #[.string ⟨m.toArray⟩, .string ⟨t.toArray⟩, .slice ha hs.length hc, .slice ba b.length bc] 42) := ⟨_, rfl⟩
  obtain ⟨N, hN⟩ : ∃ N, N = w.heap.size := ⟨_, rfl⟩
  have hs1 : W1.heap.size = w.heap.size + 1 := by rw [hW1]; show (w.heap.push _).size = _; simp
  obtain ⟨M, hM⟩ : ∃ M, M = w.heap.size + 1 := ⟨_, rfl⟩
  have hb1 : Below w.heap.size w W1 := by rw [hW1]; exact (Below.refl _ _).alloc (Nat.le_refl _) _
  have hb2 : Below W1.heap.size W1 W := by rw [hW]; exact (Below.refl _ _).alloc (Nat.le_refl _) _
  have n1 : W1.heap[N]? = some (.cells #[.string ⟨x.id.toArray⟩, .string ⟨x.date.toArray⟩, .string ⟨x.scope.toArray⟩, .string ⟨x.sig.toArray⟩, .slice ka x.key.length kc, .string ⟨x.pay.toArray⟩] 24 (0, 0)) := by rw [hW1, hN]; exact heap_alloc_new w _
  have nN : W.heap[N]? = some (.cells #[.string ⟨x.id.toArray⟩, .string ⟨x.date.toArray⟩, .string ⟨x.scope.toArray⟩, .string ⟨x.sig.toArray⟩, .slice ka x.key.length kc, .string ⟨x.pay.toArray⟩] 24 (0, 0)) := (hb2.block N (blk_lt n1)).trans n1
  have nM : W.heap[M]? = some (.cells #[.string ⟨m.toArray⟩, .string ⟨t.toArray⟩, .slice ha hs.length hc, .slice ba b.length bc] 42 (0, 0)) := by rw [hW, hM, ← hs1]; exact heap_alloc_new W1 _
  have hbW : Below w.heap.size w W := hb1.trans (hb2.mono hb1.size)
  have HB := (show Hid (Below w.heap.size w W) from hbW)
  have HN := (show Hid _ from nN)
  have HM := (show Hid _ from nM)
  obtain ⟨O, hO⟩ : ∃ O, O = bodyL x hs b := ⟨_, rfl⟩
  have KB := (show Hid (Calls Tryd.prog 17 #[x.v ka kc, .agg #[.string ⟨m.toArray⟩, .string ⟨t.toArray⟩, .slice ha hs.length hc, .slice ba b.length bc]] W fun e w' => ∃ a' c', e = .returned (.tuple #[.slice a' O.1.length c', .int .i64 O.2]) ∧ Sl w' a' c' O.1 ∧ Below W.heap.size W w') from by
    rw [hO]; exact body_any x ka kc m t ha hs hc ba b bc W (hx.below hbW) (hH.below hbW (Nat.le_refl _)) hhl hhv (hb.below hbW) hbl (he.below hbW (Nat.le_refl _)))
  have KR := (show Hid (∀ W', Below W.heap.size W W' → Calls Tryd.prog 18 #[x.v ka kc, .agg #[.string ⟨m.toArray⟩, .string ⟨t.toArray⟩, .slice ha hs.length hc, .slice ba b.length bc]] W' fun e w' => ∃ a' c', e = .returned (.tuple #[.slice a' O.1.length c', .int .i64 O.2]) ∧ Sl w' a' c' O.1 ∧ Below W'.heap.size W' w') from fun W' h => by
    have h2 := hbW.trans (h.mono hbW.size)
    rw [hO]; exact rbody_any x ka kc m t ha hs hc ba b bc W' (hx.below h2) (hH.below h2 (Nat.le_refl _)) hhl hhv (hb.below h2) hbl hkn)
  have KT := (show Hid (∀ W', Calls Tryd.prog 11 #[x.v ka kc] W' fun e w' => e = .returned (x.v ka kc) ∧ Below W'.heap.size W' w') from fun W' => to_any x ka kc W')
  clear hO hx hkn hH hhl hhv hb hbl he ht hb1 hb2 n1 hs1 hbW
  obtain ⟨x0, x1, x2, x3, x4, x5⟩ := six_of nN
  obtain ⟨y0, y1, y2, y3⟩ := four_of nM
  clear nN nM
  unfold Wh.v at KB KR KT ⊢
  go_enter Tryd.func5, Tryd.ntmps5
  go_upto_region 1 with fail
  rw [← hW1, ← hW, ← hM, ← hN]
  clear hW1 hW hM hN
  go_wp2_with fail
  refine Calls.mono KB.out ?_
  rintro e w1 ⟨a1, c1, rfl, hs1, hb1⟩
  have HB1 := (show Hid (Below W.heap.size W w1) from hb1)
  have HS1 := (show Hid (Sl w1 a1 c1 O.1) from hs1)
  have ZS := (show Hid (∀ w', Below w1.heap.size w1 w' → w'.cell? ⟨N, 0, none⟩ = some (.string ⟨x.id.toArray⟩) ∧ w'.cell? ⟨N, 1, none⟩ = some (.string ⟨x.date.toArray⟩) ∧ w'.cell? ⟨N, 2, none⟩ = some (.string ⟨x.scope.toArray⟩) ∧ w'.cell? ⟨N, 3, none⟩ = some (.string ⟨x.sig.toArray⟩) ∧ w'.cell? ⟨N, 4, none⟩ = some (.slice ka x.key.length kc) ∧ w'.cell? ⟨N, 5, none⟩ = some (.string ⟨x.pay.toArray⟩) ∧ w'.cell? ⟨M, 0, none⟩ = some (.string ⟨m.toArray⟩) ∧ w'.cell? ⟨M, 1, none⟩ = some (.string ⟨t.toArray⟩) ∧ w'.cell? ⟨M, 2, none⟩ = some (.slice ha hs.length hc) ∧ w'.cell? ⟨M, 3, none⟩ = some (.slice ba b.length bc)) from fun w' hb => by
    obtain ⟨y0, y1, y2, y3, y4, y5⟩ := six_of ((hb.block N (Nat.lt_of_lt_of_le (blk_lt HN.out) HB1.out.size)).trans ((HB1.out.block N (blk_lt HN.out)).trans HN.out))
    obtain ⟨z0, z1, z2, z3⟩ := four_of ((hb.block M (Nat.lt_of_lt_of_le (blk_lt HM.out) HB1.out.size)).trans ((HB1.out.block M (blk_lt HM.out)).trans HM.out))
    exact ⟨y0, y1, y2, y3, y4, y5, z0, z1, z2, z3⟩)
  have KT1 := (show Hid (∀ W', Below w1.heap.size w1 W' → Calls Tryd.prog 11 #[_] W' fun e w' => e = .returned _ ∧ Below w1.heap.size w1 w') from fun W' hb => (KT.out W').mono fun e w' ⟨h1, h2⟩ => ⟨h1, hb.trans (h2.mono hb.size)⟩)
  have KR1 := (show Hid (∀ W', Below w1.heap.size w1 W' → Calls Tryd.prog 18 #[_, _] W' fun e w' => ∃ a' c', e = .returned (.tuple #[.slice a' O.1.length c', .int .i64 O.2]) ∧ Sl w' a' c' O.1 ∧ Below w1.heap.size w1 w') from fun W' hb => (KR.out W' (HB1.out.trans (hb.mono HB1.out.size))).mono fun e w' ⟨a', c', h1, h2, h3⟩ => ⟨a', c', h1, h2, hb.trans (h3.mono hb.size)⟩)
  clear hs1 hb1 KB KT KR
  obtain ⟨z0, z1, z2, z3, z4, z5, z6, z7, z8, z9⟩ := ZS.out w1 (Below.refl _ _)
  go_upto_region 2 with fail
  go_region_held3 (fun w' => w'.cell? ⟨N, 0, none⟩ = some (.string ⟨x.id.toArray⟩) ∧ w'.cell? ⟨N, 1, none⟩ = some (.string ⟨x.date.toArray⟩) ∧ w'.cell? ⟨N, 2, none⟩ = some (.string ⟨x.scope.toArray⟩) ∧ w'.cell? ⟨N, 3, none⟩ = some (.string ⟨x.sig.toArray⟩) ∧ w'.cell? ⟨N, 4, none⟩ = some (.slice ka x.key.length kc) ∧ w'.cell? ⟨N, 5, none⟩ = some (.string ⟨x.pay.toArray⟩) ∧ w'.cell? ⟨M, 0, none⟩ = some (.string ⟨m.toArray⟩) ∧ w'.cell? ⟨M, 1, none⟩ = some (.string ⟨t.toArray⟩) ∧ w'.cell? ⟨M, 2, none⟩ = some (.slice ha hs.length hc) ∧ w'.cell? ⟨M, 3, none⟩ = some (.slice ba b.length bc)) (first | go_keep | (exact q5) | (exact q6)) (first
    | (go_at_call 11; (with_reducible refine Calls.mono (KT1.out _ ((Below.refl _ w1).drew)) ?_); rintro e w5 ⟨rfl, hb5⟩; have q5 := ZS.out w5 hb5)
    | (go_at_call 18; (with_reducible refine Calls.mono (KR1.out _ hb5) ?_); rintro e w6 ⟨a6, c6, rfl, hs6, hb6⟩; have q6 := ZS.out w6 hb6))
  have HB6 := (show Hid (Below W.heap.size W w6) from HB1.out.trans (hb6.mono HB1.out.size))
  obtain ⟨DS, hDS⟩ : ∃ DS : ByteArray, DS = ⟨O.1.toArray⟩ := ⟨_, rfl⟩
  have hcv1 : (convert 22 9 (.slice a1 O.1.length c1)).run Tryd.prog w6 = .ok (.string DS) w6 := by rw [hDS]; exact (HS1.out.below hb6).conv
  have hcv2 : (convert 22 9 (.slice a6 O.1.length c6)).run Tryd.prog w6 = .ok (.string DS) w6 := by rw [hDS]; exact hs6.conv
  have AW6 := (show Hid _ from AW.out w6 (HB.out.trans (HB6.out.mono HB.out.size)))
  clear hs6 hb6 hb5 hDS ZS KT1 KR1 AW
  go_wp2_with fail
  refine Calls.mono AW6.out ?_
  rintro e w7 ⟨rfl, hb7⟩
  have HB7 := (show Hid (Below W.heap.size W w7) from HB6.out.trans (hb7.mono HB6.out.size))
  clear hb7
  go_wp2_with fail
  go_ret
  exact ⟨rfl, HB.out.trans (HB7.out.mono HB.out.size)⟩
end Go.Proofs.YtgpjjlkkfddjnaaDoor
