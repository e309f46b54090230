/-
  The law's comparisons of lists.
-/
import Derived.Test.YtbhiabcgjnfpoaaGreatDoorRun26
import Derived.Test.YtbhiabcgjnfpoaaGreatDoorRun25
import Derived.Test.YtbhiabcgjnfpoaaGreatDoorUnW
namespace Go.Proofs.YtbhiabcgjnfpoaaGreatDoor
open Go.RowKit

set_option maxRecDepth 20000 in
set_option maxHeartbeats 2000000 in
theorem sameHeaders_any (a a' : Option Addr) (L : List (ByteArray × ByteArray)) (c c' : Nat) (w : World) (h1 : Prs w a L) (h2 : Prs w a' L) (n1 : L.length ≤ 1048576) (t1 : En.tot (tx L.length :: prF L) ≤ 8388608) :
    Calls Tryz.prog 29 #[.slice a L.length c, .slice a' L.length c'] w fun e w' => e = .returned (.bool true) ∧ Below w.heap.size w w' := by
  have B0 : Below w.heap.size w w.drew := (Below.refl _ w).drew
  have HA := ( refHeaders_any a L c w.drew (h1.below B0 (Nat.le_refl _)) n1)
  have HB := (show Hid (∀ W, Below w.heap.size w W → _) from fun W hb => refHeaders_any a' L c' W (h2.below hb (Nat.le_refl _)) n1)
  have HP := (show Hid (∀ a c W, En.Strs W a (tx L.length :: prF L) → _) from fun a c W h => En.refPack_any a (tx L.length :: prF L) c W t1 h)
  generalize tx L.length :: prF L = G at *
  have HZ : Hid (w.heap.size ≤ w.drew.heap.size ∧ Below w.heap.size w w.drew) := ⟨B0.size, B0⟩
  clear h1 h2 n1 t1 B0
  go_enter Tryz.func29, Tryz.ntmps29
  go_wp2_with fail
  go_region_held (fun _ => True) (trivial)
    (first
      | (go_at_call 46; (with_reducible refine Calls.mono HA ?_); rintro e w1 ⟨v1, rfl, ho1, hb1⟩; obtain ⟨a1, c1, rfl, hs1⟩ := ho1.strs; have HP1 := HP.out a1 c1 w1 hs1; have B1 : Hid (Below w.heap.size w w1) := ( step_below HZ.out.2 hb1 (Nat.le_refl _)); clear ho1 hs1 HA hb1)
      | (go_at_call 40; (with_reducible refine Calls.mono HP1 ?_); rintro e w2 ⟨v2, rfl, ho2, hb2⟩; obtain ⟨a2, c2, rfl, hs2⟩ := ho2.bytes; have hcv2 := En.convert_bytes w2 a2 c2 _ hs2; have HS2 : Hid (En.Bytes w2 a2 (En.packL G)) := hs2; have B2 : Hid (Below w.heap.size w w2) := ( step_below B1.out hb2 (Nat.le_refl _)); have HB2 := HB.out w2 B2.out; clear ho2 hs2 hb2 HP1)
      | (go_at_call 46; (with_reducible refine Calls.mono HB2 ?_); rintro e w3 ⟨v3, rfl, ho3, hb3⟩; obtain ⟨a3, c3, rfl, hs3⟩ := ho3.strs; have HP3 := HP.out a3 c3 w3 hs3; have B3 : Hid (Below w.heap.size w w3) := ( step_below B2.out hb3 (Nat.le_refl _)); have HS3 : Hid (En.Bytes w3 a2 (En.packL G)) := ( En.Bytes.below HS2.out hb3 (Nat.le_refl _)); have hcv3 := En.convert_bytes w3 a2 c2 _ HS3.out; clear ho3 hs3 hb3 HB2)
      | (go_at_call 40; (with_reducible refine Calls.mono HP3 ?_); rintro e w4 ⟨v4, rfl, ho4, hb4⟩; obtain ⟨a4, c4, rfl, hs4⟩ := ho4.bytes; have hcv4 := En.convert_bytes w4 a4 c4 _ hs4; have hcv24 := En.convert_bytes w4 a2 c2 _ (En.Bytes.below HS3.out hb4 (Nat.le_refl _)); have B4 : Hid (Below w.heap.size w w4) := ( step_below B3.out hb4 (Nat.le_refl _)); clear ho4 hs4 hb4 HP3))
  all_goals
    clear hcv2 hcv3 hcv4 hcv24
    go_wp2
    go_ret
    exact ⟨rfl, B4.out⟩

set_option maxRecDepth 20000 in
set_option maxHeartbeats 2000000 in
theorem sameTags_any (a a' : Option Addr) (L : List (ByteArray × ByteArray)) (c c' : Nat) (w : World) (h1 : Prs w a L) (h2 : Prs w a' L) (n1 : L.length ≤ 1048576) (t1 : En.tot (tx L.length :: prF L) ≤ 8388608) :
    Calls Tryz.prog 30 #[.slice a L.length c, .slice a' L.length c'] w fun e w' => e = .returned (.bool true) ∧ Below w.heap.size w w' := by
  have B0 : Below w.heap.size w w.drew := (Below.refl _ w).drew
  have HA := ( refTags_any a L c w.drew (h1.below B0 (Nat.le_refl _)) n1)
  have HB := (show Hid (∀ W, Below w.heap.size w W → _) from fun W hb => refTags_any a' L c' W (h2.below hb (Nat.le_refl _)) n1)
  have HP := (show Hid (∀ a c W, En.Strs W a (tx L.length :: prF L) → _) from fun a c W h => En.refPack_any a (tx L.length :: prF L) c W t1 h)
  generalize tx L.length :: prF L = G at *
  have HZ : Hid (w.heap.size ≤ w.drew.heap.size ∧ Below w.heap.size w w.drew) := ⟨B0.size, B0⟩
  clear h1 h2 n1 t1 B0
  go_enter Tryz.func30, Tryz.ntmps30
  go_wp2_with fail
  go_region_held (fun _ => True) (trivial)
    (first
      | (go_at_call 39; (with_reducible refine Calls.mono HA ?_); rintro e w1 ⟨v1, rfl, ho1, hb1⟩; obtain ⟨a1, c1, rfl, hs1⟩ := ho1.strs; have HP1 := HP.out a1 c1 w1 hs1; have B1 : Hid (Below w.heap.size w w1) := ( step_below HZ.out.2 hb1 (Nat.le_refl _)); clear ho1 hs1 HA hb1)
      | (go_at_call 40; (with_reducible refine Calls.mono HP1 ?_); rintro e w2 ⟨v2, rfl, ho2, hb2⟩; obtain ⟨a2, c2, rfl, hs2⟩ := ho2.bytes; have hcv2 := En.convert_bytes w2 a2 c2 _ hs2; have HS2 : Hid (En.Bytes w2 a2 (En.packL G)) := hs2; have B2 : Hid (Below w.heap.size w w2) := ( step_below B1.out hb2 (Nat.le_refl _)); have HB2 := HB.out w2 B2.out; clear ho2 hs2 hb2 HP1)
      | (go_at_call 39; (with_reducible refine Calls.mono HB2 ?_); rintro e w3 ⟨v3, rfl, ho3, hb3⟩; obtain ⟨a3, c3, rfl, hs3⟩ := ho3.strs; have HP3 := HP.out a3 c3 w3 hs3; have B3 : Hid (Below w.heap.size w w3) := ( step_below B2.out hb3 (Nat.le_refl _)); have HS3 : Hid (En.Bytes w3 a2 (En.packL G)) := ( En.Bytes.below HS2.out hb3 (Nat.le_refl _)); have hcv3 := En.convert_bytes w3 a2 c2 _ HS3.out; clear ho3 hs3 hb3 HB2)
      | (go_at_call 40; (with_reducible refine Calls.mono HP3 ?_); rintro e w4 ⟨v4, rfl, ho4, hb4⟩; obtain ⟨a4, c4, rfl, hs4⟩ := ho4.bytes; have hcv4 := En.convert_bytes w4 a4 c4 _ hs4; have hcv24 := En.convert_bytes w4 a2 c2 _ (En.Bytes.below HS3.out hb4 (Nat.le_refl _)); have B4 : Hid (Below w.heap.size w w4) := ( step_below B3.out hb4 (Nat.le_refl _)); clear ho4 hs4 hb4 HP3))
  all_goals
    clear hcv2 hcv3 hcv4 hcv24
    go_wp2
    go_ret
    exact ⟨rfl, B4.out⟩

end Go.Proofs.YtbhiabcgjnfpoaaGreatDoor
/-
  UnpackVersion of what PackVersion told.
-/
namespace Go.Proofs.YtbhiabcgjnfpoaaGreatDoor
open Go.RowKit

theorem pcs_get : ∀ (L : List (ByteArray × ByteArray)) (j : Nat) (h : j < L.length), (pcs L)[j * 2]? = some (.string L[j].1) ∧ (pcs L)[j * 2 + 1]? = some (.string L[j].2)
  | (x, y) :: L, 0, _ => ⟨rfl, rfl⟩
  | (x, y) :: L, j + 1, h => by
    obtain ⟨a, b⟩ := pcs_get L j (by simpa using h)
    rw [show (j + 1) * 2 = j * 2 + 1 + 1 by omega]
    show (Value.string x :: Value.string y :: pcs L)[j * 2 + 1 + 1]? = _ ∧ (Value.string x :: Value.string y :: pcs L)[j * 2 + 1 + 1 + 1]? = _
    rw [List.getElem?_cons_succ, List.getElem?_cons_succ, List.getElem?_cons_succ, List.getElem?_cons_succ]
    exact ⟨a, b⟩
theorem own_prs {w : World} {base n c : Nat} {t : TypeId} {a : Option Addr} {L : List (ByteArray × ByteArray)} (h : w.ownsRow base t 2 (.slice a n c) n (pcs L)) (hn : n = L.length) : Prs w a L := by
  subst hn
  obtain ⟨hl, ⟨h1, hn⟩ | ⟨g, cap, cur, h1, hg, hh, hnc, hcm, hcs, htk⟩⟩ := h
  · exact .inl (List.eq_nil_of_length_eq_zero hn)
  · simp only [Value.slice.injEq, true_and] at h1
    obtain ⟨rfl, rfl⟩ := h1
    refine .inr ⟨g, 0, rfl, blk_lt hh, fun j hj => ?_⟩
    have hown : w.ownsRow base t 2 (.slice (some ⟨g, 0, none⟩) L.length c) L.length (pcs L) := ⟨hl, .inr ⟨g, c, cur, rfl, hg, hh, hnc, hcm, hcs, htk⟩⟩
    have e0 := hown.cellAt (j * 2) (by omega)
    have e1 := hown.cellAt (j * 2 + 1) (by omega)
    simp only [Nat.zero_add]
    rw [e0, e1]
    exact pcs_get L j hj

/-- What UnpackVersion answers to what PackVersion told: always a version and a bool, and what it was made of where its numbers may be read. -/
theorem unpack_all (vk et ty : ByteArray) (vseq size time start rsz : Int) (nul mar : Bool) (H T : List (ByteArray × ByteArray)) (X : ByteArray) (hX : X = ⟨(En.packL (verF vk et ty vseq size time start rsz nul mar H T)).toArray⟩) (nH : H.length ≤ 1048576) (nT : T.length ≤ 1048576)
    (htt : En.tot (verF vk et ty vseq size time start rsz nul mar H T) ≤ 8388608) (w : World) :
    Calls Tryz.prog 17 #[.string X] w fun e w' => ∃ t0 z1 q2 q3 t4 z5 z6 t7 a8 n8 c8 a9 n9 c9 z10 z11 q, e = .returned (.tuple #[.agg #[.string t0, .int .i64 z1, .bool q2, .bool q3, .string t4, .int .i64 z5, .int .i64 z6, .string t7, .slice a8 n8 c8, .slice a9 n9 c9, .int .i64 z10, .int .i64 z11], .bool q]) ∧ Below w.heap.size w w' ∧
      ((0 ≤ vseq ∧ vseq < 1000000000000000000) → (0 ≤ size ∧ size < 1000000000000000000) → (0 ≤ time ∧ time < 1000000000000000000) → (0 ≤ start ∧ start < 1000000000000000000) → (0 ≤ rsz ∧ rsz < 1000000000000000000) → q = true ∧ t0 = vk ∧ z1 = vseq ∧ q2 = nul ∧ q3 = mar ∧ t4 = et ∧ z10 = start ∧ z11 = rsz ∧ n8 = H.length ∧ n9 = T.length ∧ Prs w' a8 H ∧ Prs w' a9 T) := by
  have hst : stt (En.packL (verF vk et ty vseq size time start rsz nul mar H T)) = some (verF vk et ty vseq size time start rsz nul mar H T) := stt_pack fun x hx => by
    have := En.tot_mem hx
    omega
  have hsz : X.size ≤ 8388608 := by
    rw [hX]
    show (List.toArray _).size ≤ _
    rw [List.size_toArray, En.packL_length]
    exact htt
  have hxl : En.packL (verF vk et ty vseq size time start rsz nul mar H T) = X.data.toList := by rw [hX]
  have HB := fun b1 b2 b3 b4 b5 => ver_back vk et ty vseq size time start rsz nul mar H T nH nT b1 b2 b3 b4 b5 _ hst
  by_cases hy : vs11 (stt (En.packL (verF vk et ty vseq size time start rsz nul mar H T))) = some []
  · refine (unpackVersion_yes X _ hxl w hsz hy).mono ?_
    rintro e w1 ⟨a8, n8, c8, a9, n9, c9, rfl, hb, o8, e8, o9, e9⟩
    refine ⟨_, _, _, _, _, _, _, _, a8, n8, c8, a9, n9, c9, _, _, _, rfl, hb, fun b1 b2 b3 b4 b5 => ?_⟩
    obtain ⟨_, g0, g1, g2, g3, g4, g5, g6, g7, g8, g9, g10, g11⟩ := HB b1 b2 b3 b4 b5
    rw [g8] at o8 e8
    rw [g9] at o9 e9
    exact ⟨rfl, g0, g1, g2, g3, g4, g10, g11, e8, e9, own_prs o8 e8, own_prs o9 e9⟩
  · refine (unpackVersion_no X _ hxl w hsz hy).mono ?_
    rintro e w1 ⟨rfl, hb⟩
    exact ⟨_, _, _, _, _, _, _, _, _, _, _, _, _, _, _, _, _, rfl, hb, fun b1 b2 b3 b4 b5 => absurd (HB b1 b2 b3 b4 b5).1 hy⟩
end Go.Proofs.YtbhiabcgjnfpoaaGreatDoor
