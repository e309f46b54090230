/-
  HttpCase: the law's walk.
-/
import Derived.Test.YtmodmeabjhaklabGreatDoorCaM
import Derived.Test.YtmodmeabjhaklabGreatDoorRunE
import Derived.Test.YtmodmeabjhaklabGreatDoorLawLent
import Derived.Deep.Cut
namespace Go.Proofs.YtmodmeabjhaklabGreatDoor
open Go.RowKit

theorem and3 (b : Int) : ∃ r : Nat, r < 4 ∧ bits .and .i64 b 3 = (r : Int) := by
  refine ⟨(BitVec.ofInt 64 b &&& BitVec.ofInt 64 3).toNat, ?_, ?_⟩
  · rw [BitVec.toNat_and]
    have h2 : (BitVec.ofInt 64 (3 : Int)).toNat = 3 := by decide
    rw [h2]
    have := Nat.and_le_right (n := (BitVec.ofInt 64 b).toNat) (m := 3)
    omega
  · show IntKind.i64.wrap ((BitVec.ofInt 64 b &&& BitVec.ofInt 64 (3 : Int)).toNat : Int) = _
    have h : (BitVec.ofInt 64 b &&& BitVec.ofInt 64 (3 : Int)).toNat ≤ 3 := by
      rw [BitVec.toNat_and]
      have h2 : (BitVec.ofInt 64 (3 : Int)).toNat = 3 := by decide
      rw [h2]
      exact Nat.and_le_right
    rw [IntKind.wrap_i64]
    omega
/-- The blanks around a value. -/
def padL (r : Nat) : List UInt8 := match r with | 0 => [] | 1 => [32] | 2 => [9, 32] | _ => [32, 32, 9]
theorem pad_blk (r : Nat) : ∀ c ∈ padL r, blk c = true := by
  unfold padL
  split <;> decide
theorem pad_len (r : Nat) : (padL r).length ≤ 3 := by unfold padL; split <;> decide
theorem pad_cell (w : World) (r : Nat) (hr : r < 4) : (w.alloc (.cells #[.string ⟨#[]⟩, .string ⟨#[32]⟩, .string ⟨#[9, 32]⟩, .string ⟨#[32, 32, 9]⟩] 9)).cell? ⟨w.heap.size, r, none⟩ = some (.string ⟨(padL r).toArray⟩) := by
  rw [World.cell?_alloc_mark]
  match r, hr with
  | 0, _ => rfl
  | 1, _ => rfl
  | 2, _ => rfl
  | 3, _ => rfl
/-- A text made bytes. -/
theorem conv_text (s : ByteArray) (w : World) : ∃ W1 cap, (convert 9 22 (.string s)).run Tryz.prog w = .ok (.slice (some ⟨w.heap.size, 0, none⟩) s.size cap) W1 ∧ Bytes W1 (some ⟨w.heap.size, 0, none⟩) s.data.toList ∧ Below w.heap.size w W1 ∧ w.heap.size < W1.heap.size ∧ s.size ≤ cap := by
  have hz : s.data.toList.length = s.size := by simp
  refine ⟨_, _, run_bytes_of_string w 9 22 5 s Tryz.underlying9 Tryz.underlying22 Tryz.underlying5, ?_, ((Below.refl _ w).drew).alloc (Nat.le_refl _) _, ?_, grownCap_ge _ _ _ _⟩
  · refine .inr ⟨w.heap.size, 0, rfl, ?_, fun j hj => ?_⟩
    · show w.heap.size < (w.heap.push _).size
      simp
    · rw [Nat.zero_add]
      have := World.cell?_alloc_mark w.drew (bytesRow s (grownCap w s.size 0 5)) 5 ((bytesRow s (grownCap w s.size 0 5)).size, (bytesRow s (grownCap w s.size 0 5)).size + 1) j
      rw [show w.drew.heap.size = w.heap.size from rfl] at this
      rw [this, bytesRow, Array.getElem?_append_left (by rw [Array.size_map]; show j < s.size; omega)]
      have hj2 : j < s.data.size := by show j < s.size; omega
      rw [Array.getElem?_map, Array.getElem?_eq_getElem hj2]
      simp
  · show w.heap.size < (w.heap.push _).size
    simp
/-- Parse of a text made bytes. -/
theorem parse_text (s : ByteArray) (w : World) (hl : s.size ≤ 1000000000) (hm : Mx w) (he : Er w) : ∃ W1 cap, (convert 9 22 (.string s)).run Tryz.prog w = .ok (.slice (some ⟨w.heap.size, 0, none⟩) s.size cap) W1 ∧
    Calls Tryz.prog 6 #[.slice (some ⟨w.heap.size, 0, none⟩) s.size cap] W1 fun e w' => ∃ T : Tl, e = .returned T.v ∧ TlR w' w.heap.size T (parseL s.data.toList) ∧ Below w.heap.size w w' := by
  have hz : s.data.toList.length = s.size := by simp
  obtain ⟨W1, cap, h1, h2, h3, h4, h5⟩ := conv_text s w
  refine ⟨W1, cap, h1, ?_⟩
  have := parse_any (some ⟨w.heap.size, 0, none⟩) s.data.toList cap W1 (by omega) h2 (fun x hx => by simp only [Option.some.injEq] at hx; subst hx; exact ⟨rfl, h4⟩) (fun h => by cases h) (by omega) (hm.below h3 (Nat.le_refl _)) (he.below h3 (Nat.le_refl _))
  rw [hz] at this
  refine this.mono ?_
  rintro e w' ⟨T, e1, e2, e3⟩
  exact ⟨T, e1, e2.fin (Md.refl (· = 0) _) (by omega) (by omega), h3.trans (e3.mono (by omega))⟩
/-- What both requests are told as. -/
def caseR (v : List UInt8) (n : Nat) : Tld := if allB valB v then .done n [71, 69, 84] [47] [(nHost, [97]), (nmA, trimL v)] [] false false else .bad 308
theorem case_tl (v : List UInt8) : ∃ (k f : Int) (m t : List UInt8) (hs : List Hd) (bb : List UInt8), hs.length ≤ 1000000000 ∧ ∀ (w : World) (base n : Nat) (T : Tl), TlR w base T (caseR v n) → ∃ (u : Int) (a1 : Option Addr) (c1 : Nat) (b1 : Option Addr) (e1 : Nat) (cl co : Bool), T = ⟨k, u, ⟨m.toArray⟩, ⟨t.toArray⟩, .slice a1 hs.length c1, .slice b1 bb.length e1, f, cl, co⟩ ∧ Hdrs w a1 hs ∧ Bytes w b1 bb := by
  by_cases h : allB valB v = true
  · refine ⟨2, 0, [71, 69, 84], [47], [(nHost, [97]), (nmA, trimL v)], [], by simp, fun w base n T hT => ?_⟩
    rw [caseR, if_pos h] at hT
    obtain ⟨hv, bv, h1, h2, h3⟩ := hT
    obtain ⟨a1, c1, e1, h4⟩ := own_hdrs h2
    obtain ⟨a2, c2, e2, h5⟩ := Own.bytes h3
    subst e1 e2
    exact ⟨_, a1, c1, a2, c2, _, _, h1, h4, h5⟩
  · refine ⟨3, 308, [], [], [], [], by simp, fun w base n T hT => ?_⟩
    rw [caseR, if_neg h] at hT
    exact ⟨0, none, 0, none, 0, true, false, hT, .inl rfl, .inl rfl⟩
theorem case1 {S1 nm p s : ByteArray} {r : Nat} (hS : S1 = ⟨#[71, 69, 84, 32, 47, 32, 72, 84, 84, 80, 47, 49, 46, 49, 13, 10, 72, 79, 83, 84, 58, 97, 13, 10]⟩ ++ nm ++ ⟨#[58]⟩ ++ p ++ s ++ p ++ ⟨#[13, 10, 13, 10]⟩) (hn : nm.data.toList = nmA ∨ nm.data.toList = nmU) (hp : p = ⟨(padL r).toArray⟩) (hs : s.size ≤ 1000) (h13 : (13 : UInt8) ∉ s.data.toList) :
    parseL S1.data.toList = caseR s.data.toList S1.data.toList.length := by
  have hz : s.data.toList.length = s.size := by simp
  have hpl := pad_len r
  have e : S1.data.toList = caT [72, 79, 83, 84, 58, 97] nm.data.toList (padL r) s.data.toList (padL r) := by rw [hS, hp]; simp [caT, pLine]
  rw [e]
  exact case_read [72, 79, 83, 84, 58, 97] _ _ _ _ (by decide +kernel) (by decide) (by decide) (by decide) hn (pad_blk r) (pad_blk r) (by omega) (by omega) (by omega) h13
theorem case2 {S2 s : ByteArray} (hS : S2 = ⟨#[71, 69, 84, 32, 47, 32, 72, 84, 84, 80, 47, 49, 46, 49, 13, 10, 104, 111, 115, 116, 58, 32, 97, 13, 10, 120, 45, 97, 109, 122, 45, 109, 101, 116, 97, 45, 97, 58, 32]⟩ ++ s ++ ⟨#[13, 10, 13, 10]⟩) (hs : s.size ≤ 1000) (h13 : (13 : UInt8) ∉ s.data.toList) :
    parseL S2.data.toList = caseR s.data.toList S2.data.toList.length := by
  have hz : s.data.toList.length = s.size := by simp
  have e : S2.data.toList = caT [104, 111, 115, 116, 58, 32, 97] nmA [32] s.data.toList [] := by rw [hS]; simp [caT, pLine, nmA]
  rw [e]
  exact case_read [104, 111, 115, 116, 58, 32, 97] nmA [32] _ [] (by decide +kernel) (by decide) (by decide) (by decide) (.inl rfl) (by decide) (by decide) (by decide) (by decide) (by omega) h13
theorem sz1 {S1 nm p s : ByteArray} (hS : S1 = ⟨#[71, 69, 84, 32, 47, 32, 72, 84, 84, 80, 47, 49, 46, 49, 13, 10, 72, 79, 83, 84, 58, 97, 13, 10]⟩ ++ nm ++ ⟨#[58]⟩ ++ p ++ s ++ p ++ ⟨#[13, 10, 13, 10]⟩) (hn : nm.size = 12) : S1.size = 37 + p.size + s.size + p.size + 4 := by
  rw [hS]
  simp only [ByteArray.size_append]
  show 24 + nm.size + 1 + p.size + s.size + p.size + 4 = _
  omega
theorem sz2 {S2 s : ByteArray} (hS : S2 = ⟨#[71, 69, 84, 32, 47, 32, 72, 84, 84, 80, 47, 49, 46, 49, 13, 10, 104, 111, 115, 116, 58, 32, 97, 13, 10, 120, 45, 97, 109, 122, 45, 109, 101, 116, 97, 45, 97, 58, 32]⟩ ++ s ++ ⟨#[13, 10, 13, 10]⟩) : S2.size = 39 + s.size + 4 := by
  rw [hS]
  simp only [ByteArray.size_append]
  rfl
set_option maxRecDepth 20000 in
set_option maxHeartbeats 4000000 in
theorem httpCase_walk (s : ByteArray) (up : Bool) (b : Int) (w : World) (hm : Mx w) (he : Er w) :
    Calls Tryz.prog 5 #[.string s, .bool up, .int .i64 b] w fun e w' => e = .returned (.bool true) ∧ Below w.heap.size w w' := by
  have AW := (show Hid (∀ W, Below w.heap.size w W → Calls Tryz.prog 9 #[] W fun e w' => e = .returned (.bool true) ∧ Below w.heap.size w w') from fun W hW => (awake_any W (hm.below hW (Nat.le_refl _)) (he.below hW (Nat.le_refl _))).mono fun e w' ⟨h1, h2⟩ => ⟨h1, hW.trans (h2.mono hW.size)⟩)
  have HM : Hid (Mx w ∧ Er w) := ⟨hm, he⟩
  clear hm he
  by_cases hbig : 1000 < s.size
  · go_enter Tryz.func5, Tryz.ntmps5
    go_wp2_with fail
    refine Calls.mono (AW.out w (Below.refl _ _)) ?_
    rintro e w1 ⟨rfl, hb⟩
    go_wp2
    go_ret
    exact ⟨rfl, hb⟩
  · obtain ⟨r, hr, hbt⟩ := and3 b
    go_enter Tryz.func5, Tryz.ntmps5
    go_wp2_with fail
    go_loop [7] (fun i => ∃ k : Nat, k ≤ s.size ∧ i = .int .i64 k ∧ ∀ j (hj : j < s.size), j < k → s[j].toNat ≠ 13) (fun i => s.size - (intOf i).toNat)
    case atStart => exact ⟨0, Nat.zero_le _, rfl, fun j _ h => by omega⟩
    case round =>
      obtain ⟨k, hk, rfl, hall⟩ := hrel
      have HALL : Hid (∀ j (hj : j < s.size), j < k → s[j].toNat ≠ 13) := hall
      clear hall
      by_cases hlt : k < s.size
      · by_cases h13 : s[k].toNat = 13
        · have e1 : ((s[k].toNat : Int) == 13) = true := by rw [h13]; rfl
          clear h13
          go_wp2_with fail
          refine Calls.mono (AW.out w (Below.refl _ _)) ?_
          rintro e w1 ⟨rfl, hb⟩
          go_wp2
          go_ret
          exact ⟨rfl, hb⟩
        · have e1 : ((s[k].toNat : Int) == 13) = false := by rw [beq_eq_false_iff_ne]; omega
          have H13 : Hid (s[k].toNat ≠ 13) := h13
          clear h13
          by_cases h10 : s[k].toNat = 10
          · have e2 : ((s[k].toNat : Int) == 10) = true := by rw [h10]; rfl
            clear h10
            go_wp2_with fail
            refine Calls.mono (AW.out w (Below.refl _ _)) ?_
            rintro e w1 ⟨rfl, hb⟩
            go_wp2
            go_ret
            exact ⟨rfl, hb⟩
          · have e2 : ((s[k].toNat : Int) == 10) = false := by rw [beq_eq_false_iff_ne]; omega
            clear h10
            go_wp2
            refine ⟨⟨k + 1, by omega, by go_num, fun j hj hj2 => ?_⟩, by simp [intOf]; omega⟩
            by_cases hjk : j = k
            · subst hjk; exact H13.out
            · exact HALL.out j hj (by omega)
      · obtain rfl : k = s.size := by omega
        have H13 : Hid ((13 : UInt8) ∉ s.data.toList) := by
          show _ ∉ _
          intro h
          obtain ⟨j, hj, he⟩ := List.getElem_of_mem h
          have hj2 : j < s.size := by simpa using hj
          have := HALL.out j hj2 hj2
          apply this
          have e : s[j] = s.data.toList[j] := by simp; rfl
          rw [e, he]
          rfl
        have hpc := pad_cell w r hr
        obtain ⟨p, hp⟩ : ∃ p : ByteArray, p = ⟨(padL r).toArray⟩ := ⟨_, rfl⟩
        rw [← hp] at hpc
        have hpz : p.size ≤ 3 := by
          rw [hp]
          have := pad_len r
          show (padL r).toArray.size ≤ 3
          simpa using this
        have HP := (show Hid _ from hp)
        clear hp
        cases up
        · go_upto_region 11 with fail
          obtain ⟨nm, hnm⟩ : ∃ nm : ByteArray, nm = ⟨#[120, 45, 97, 109, 122, 45, 109, 101, 116, 97, 45, 97]⟩ := ⟨_, rfl⟩
          rw [← hnm]
          have HNM : Hid (nm.data.toList = nmA ∨ nm.data.toList = nmU) := Or.inl (by rw [hnm]; rfl)
          have hnz : nm.size = 12 := by rw [hnm]; rfl
          clear hnm
          go_upto_region 12 with fail
          obtain ⟨W, hW⟩ : ∃ W, W = w.alloc (.cells #[.string ⟨#[]⟩, .string ⟨#[32]⟩, .string ⟨#[9, 32]⟩, .string ⟨#[32, 32, 9]⟩] 9) := ⟨_, rfl⟩
          rw [← hW]
          have HBW : Hid (Below w.heap.size w W) := by rw [hW]; exact (Below.refl _ _).alloc (Nat.le_refl _) _
          clear hW hpc hbt hr
          obtain ⟨k, f, m, t, hs, bb, hhs, htl⟩ := case_tl s.data.toList
          have HTL := (show Hid _ from htl)
          have HHS := (show Hid _ from hhs)
          clear htl hhs
          obtain ⟨S1, hS1⟩ : ∃ S1 : ByteArray, S1 = ⟨#[71, 69, 84, 32, 47, 32, 72, 84, 84, 80, 47, 49, 46, 49, 13, 10, 72, 79, 83, 84, 58, 97, 13, 10]⟩ ++ nm ++ ⟨#[58]⟩ ++ p ++ s ++ p ++ ⟨#[13, 10, 13, 10]⟩ := ⟨_, rfl⟩
          have hz1 := sz1 hS1 hnz
          have hp1 := case1 hS1 HNM.out HP.out (by omega) H13.out
          obtain ⟨W1, cap1, hc1, K1'⟩ := parse_text S1 W (by omega) (HM.out.1.below HBW.out (Nat.le_refl _)) (HM.out.2.below HBW.out (Nat.le_refl _))
          rw [hp1, hz1] at K1'
          rw [hz1, hS1] at hc1
          have K1 := (show Hid _ from K1')
          clear K1' hp1 hz1 hS1
          go_wp2_with fail
          clear hc1
          refine Calls.mono K1.out ?_
          rintro e w1 ⟨T1, rfl, ht1, hb1⟩
          obtain ⟨u1, a1, c1, b1, e1, cl1, co1, rfl, hd1, hy1⟩ := HTL.out _ _ _ _ ht1
          have HB1 : Hid (Below w.heap.size w w1) := HBW.out.trans (hb1.mono HBW.out.size)
          have H1 := (show Hid (Hdrs w1 a1 hs ∧ Bytes w1 b1 bb) from ⟨hd1, hy1⟩)
          simp only [Tl.v]
          clear ht1 hb1 hd1 hy1 K1 HBW
          go_upto_region 13 with fail
          obtain ⟨WA, hWA⟩ : ∃ WA, WA = w1.alloc (.cells #[.int .i64 k, .int .i64 u1, .string ⟨m.toArray⟩, .string ⟨t.toArray⟩, .slice a1 hs.length c1, .slice b1 bb.length e1, .int .i64 f, .bool cl1, .bool co1] 28) := ⟨_, rfl⟩
          rw [← hWA]
          obtain ⟨N, hN⟩ : ∃ N, N = w1.heap.size := ⟨_, rfl⟩
          rw [← hN]
          have HBA : Hid (Below w.heap.size w WA) := by rw [hWA]; exact HB1.out.alloc HB1.out.size _
          have HNA : Hid (WA.heap[N]? = some (.cells #[.int .i64 k, .int .i64 u1, .string ⟨m.toArray⟩, .string ⟨t.toArray⟩, .slice a1 hs.length c1, .slice b1 bb.length e1, .int .i64 f, .bool cl1, .bool co1] 28 (0, 0))) := by rw [hWA, hN]; exact heap_alloc_new w1 _
          have H1A : Hid (Hdrs WA a1 hs ∧ Bytes WA b1 bb) := by
            have hb : Below w1.heap.size w1 WA := by rw [hWA]; exact (Below.refl _ _).alloc (Nat.le_refl _) _
            exact ⟨H1.out.1.below hb (Nat.le_refl _), H1.out.2.below hb (Nat.le_refl _)⟩
          clear hWA hN
          obtain ⟨S2, hS2⟩ : ∃ S2 : ByteArray, S2 = ⟨#[71, 69, 84, 32, 47, 32, 72, 84, 84, 80, 47, 49, 46, 49, 13, 10, 104, 111, 115, 116, 58, 32, 97, 13, 10, 120, 45, 97, 109, 122, 45, 109, 101, 116, 97, 45, 97, 58, 32]⟩ ++ s ++ ⟨#[13, 10, 13, 10]⟩ := ⟨_, rfl⟩
          have hz2 := sz2 hS2
          have hp2 := case2 hS2 (by omega) H13.out
          obtain ⟨W2, cap2, hc2, K2'⟩ := parse_text S2 WA (by omega) (HM.out.1.below HBA.out (Nat.le_refl _)) (HM.out.2.below HBA.out (Nat.le_refl _))
          rw [hp2, hz2] at K2'
          rw [hz2, hS2] at hc2
          have K2 := (show Hid _ from K2')
          clear K2' hp2 hz2 hS2
          go_wp2_with fail
          clear hc2
          refine Calls.mono K2.out ?_
          rintro e w2 ⟨T2, rfl, ht2, hb2⟩
          obtain ⟨u2, a2, c2, b2, e2, cl2, co2, rfl, hd2, hy2⟩ := HTL.out _ _ _ _ ht2
          have HB2 : Hid (Below w.heap.size w w2 ∧ Below WA.heap.size WA w2) := ⟨HBA.out.trans (hb2.mono HBA.out.size), hb2⟩
          have H2 := (show Hid (Hdrs w2 a2 hs ∧ Bytes w2 b2 bb) from ⟨hd2, hy2⟩)
          simp only [Tl.v]
          clear ht2 hb2 hd2 hy2 K2
          go_upto_region 14 with fail
          obtain ⟨WB, hWB⟩ : ∃ WB, WB = w2.alloc (.cells #[.int .i64 k, .int .i64 u2, .string ⟨m.toArray⟩, .string ⟨t.toArray⟩, .slice a2 hs.length c2, .slice b2 bb.length e2, .int .i64 f, .bool cl2, .bool co2] 28) := ⟨_, rfl⟩
          rw [← hWB]
          obtain ⟨M, hM⟩ : ∃ M, M = w2.heap.size := ⟨_, rfl⟩
          rw [← hM]
          have HBB : Hid (Below w.heap.size w WB) := by rw [hWB]; exact HB2.out.1.alloc HB2.out.1.size _
          have hbb : Below w2.heap.size w2 WB := by rw [hWB]; exact (Below.refl _ _).alloc (Nat.le_refl _) _
          have n2 : WB.heap[M]? = some (.cells #[.int .i64 k, .int .i64 u2, .string ⟨m.toArray⟩, .string ⟨t.toArray⟩, .slice a2 hs.length c2, .slice b2 bb.length e2, .int .i64 f, .bool cl2, .bool co2] 28 (0, 0)) := by rw [hWB, hM]; exact heap_alloc_new w2 _
          have n1 : WB.heap[N]? = some (.cells #[.int .i64 k, .int .i64 u1, .string ⟨m.toArray⟩, .string ⟨t.toArray⟩, .slice a1 hs.length c1, .slice b1 bb.length e1, .int .i64 f, .bool cl1, .bool co1] 28 (0, 0)) := by
            have h1 := (HB2.out.2.block N (blk_lt HNA.out)).trans HNA.out
            exact (hbb.block N (blk_lt h1)).trans h1
          have hbA : Below WA.heap.size WA WB := HB2.out.2.trans (hbb.mono HB2.out.2.size)
          have SM := (show Hid _ from same_any m t hs bb a1 a2 c1 c2 b1 b2 e1 e2 WB (H1A.out.1.below hbA (Nat.le_refl _)) (H2.out.1.below hbb (Nat.le_refl _)) (H1A.out.2.below hbA (Nat.le_refl _)) (H2.out.2.below hbb (Nat.le_refl _)) HHS.out)
          clear hWB hM hbb hbA
          obtain ⟨c0, -, c2, c3, c4, c5, c6, -, -⟩ := nine_of n1
          obtain ⟨d0, -, d2, d3, d4, d5, d6, -, -⟩ := nine_of n2
          have HNN := (show Hid _ from And.intro n1 n2)
          clear n1 n2
          unfold rqV at SM
          go_wp2_with fail
          refine Calls.mono SM.out ?_
          rintro e w8 ⟨rfl, hb8⟩
          have AW4 := (show Hid _ from AW.out w8 (HBB.out.trans (hb8.mono HBB.out.size)))
          have n1 := (hb8.block N (blk_lt HNN.out.1)).trans HNN.out.1
          have n2 := (hb8.block M (blk_lt HNN.out.2)).trans HNN.out.2
          obtain ⟨-, -, -, -, -, -, p6, -, -⟩ := nine_of n1
          obtain ⟨-, -, -, -, -, -, q6, -, -⟩ := nine_of n2
          clear n1 n2 hb8 c0 c3 c4 c5 c6 d0 d2 d3 d4 d5 d6
          go_wp2_with (go_at_call 9; refine Calls.mono AW4.out ?_; rintro e w9 ⟨rfl, hb9⟩)
          go_ret
          exact ⟨rfl, hb9⟩
        · go_upto_region 11 with fail
          obtain ⟨nm, hnm⟩ : ∃ nm : ByteArray, nm = ⟨#[88, 45, 65, 109, 122, 45, 77, 69, 84, 65, 45, 97]⟩ := ⟨_, rfl⟩
          rw [← hnm]
          have HNM : Hid (nm.data.toList = nmA ∨ nm.data.toList = nmU) := Or.inr (by rw [hnm]; rfl)
          have hnz : nm.size = 12 := by rw [hnm]; rfl
          clear hnm
          go_upto_region 12 with fail
          obtain ⟨W, hW⟩ : ∃ W, W = w.alloc (.cells #[.string ⟨#[]⟩, .string ⟨#[32]⟩, .string ⟨#[9, 32]⟩, .string ⟨#[32, 32, 9]⟩] 9) := ⟨_, rfl⟩
          rw [← hW]
          have HBW : Hid (Below w.heap.size w W) := by rw [hW]; exact (Below.refl _ _).alloc (Nat.le_refl _) _
          clear hW hpc hbt hr
          obtain ⟨k, f, m, t, hs, bb, hhs, htl⟩ := case_tl s.data.toList
          have HTL := (show Hid _ from htl)
          have HHS := (show Hid _ from hhs)
          clear htl hhs
          obtain ⟨S1, hS1⟩ : ∃ S1 : ByteArray, S1 = ⟨#[71, 69, 84, 32, 47, 32, 72, 84, 84, 80, 47, 49, 46, 49, 13, 10, 72, 79, 83, 84, 58, 97, 13, 10]⟩ ++ nm ++ ⟨#[58]⟩ ++ p ++ s ++ p ++ ⟨#[13, 10, 13, 10]⟩ := ⟨_, rfl⟩
          have hz1 := sz1 hS1 hnz
          have hp1 := case1 hS1 HNM.out HP.out (by omega) H13.out
          obtain ⟨W1, cap1, hc1, K1'⟩ := parse_text S1 W (by omega) (HM.out.1.below HBW.out (Nat.le_refl _)) (HM.out.2.below HBW.out (Nat.le_refl _))
          rw [hp1, hz1] at K1'
          rw [hz1, hS1] at hc1
          have K1 := (show Hid _ from K1')
          clear K1' hp1 hz1 hS1
          go_wp2_with fail
          clear hc1
          refine Calls.mono K1.out ?_
          rintro e w1 ⟨T1, rfl, ht1, hb1⟩
          obtain ⟨u1, a1, c1, b1, e1, cl1, co1, rfl, hd1, hy1⟩ := HTL.out _ _ _ _ ht1
          have HB1 : Hid (Below w.heap.size w w1) := HBW.out.trans (hb1.mono HBW.out.size)
          have H1 := (show Hid (Hdrs w1 a1 hs ∧ Bytes w1 b1 bb) from ⟨hd1, hy1⟩)
          simp only [Tl.v]
          clear ht1 hb1 hd1 hy1 K1 HBW
          go_upto_region 13 with fail
          obtain ⟨WA, hWA⟩ : ∃ WA, WA = w1.alloc (.cells #[.int .i64 k, .int .i64 u1, .string ⟨m.toArray⟩, .string ⟨t.toArray⟩, .slice a1 hs.length c1, .slice b1 bb.length e1, .int .i64 f, .bool cl1, .bool co1] 28) := ⟨_, rfl⟩
          rw [← hWA]
          obtain ⟨N, hN⟩ : ∃ N, N = w1.heap.size := ⟨_, rfl⟩
          rw [← hN]
          have HBA : Hid (Below w.heap.size w WA) := by rw [hWA]; exact HB1.out.alloc HB1.out.size _
          have HNA : Hid (WA.heap[N]? = some (.cells #[.int .i64 k, .int .i64 u1, .string ⟨m.toArray⟩, .string ⟨t.toArray⟩, .slice a1 hs.length c1, .slice b1 bb.length e1, .int .i64 f, .bool cl1, .bool co1] 28 (0, 0))) := by rw [hWA, hN]; exact heap_alloc_new w1 _
          have H1A : Hid (Hdrs WA a1 hs ∧ Bytes WA b1 bb) := by
            have hb : Below w1.heap.size w1 WA := by rw [hWA]; exact (Below.refl _ _).alloc (Nat.le_refl _) _
            exact ⟨H1.out.1.below hb (Nat.le_refl _), H1.out.2.below hb (Nat.le_refl _)⟩
          clear hWA hN
          obtain ⟨S2, hS2⟩ : ∃ S2 : ByteArray, S2 = ⟨#[71, 69, 84, 32, 47, 32, 72, 84, 84, 80, 47, 49, 46, 49, 13, 10, 104, 111, 115, 116, 58, 32, 97, 13, 10, 120, 45, 97, 109, 122, 45, 109, 101, 116, 97, 45, 97, 58, 32]⟩ ++ s ++ ⟨#[13, 10, 13, 10]⟩ := ⟨_, rfl⟩
          have hz2 := sz2 hS2
          have hp2 := case2 hS2 (by omega) H13.out
          obtain ⟨W2, cap2, hc2, K2'⟩ := parse_text S2 WA (by omega) (HM.out.1.below HBA.out (Nat.le_refl _)) (HM.out.2.below HBA.out (Nat.le_refl _))
          rw [hp2, hz2] at K2'
          rw [hz2, hS2] at hc2
          have K2 := (show Hid _ from K2')
          clear K2' hp2 hz2 hS2
          go_wp2_with fail
          clear hc2
          refine Calls.mono K2.out ?_
          rintro e w2 ⟨T2, rfl, ht2, hb2⟩
          obtain ⟨u2, a2, c2, b2, e2, cl2, co2, rfl, hd2, hy2⟩ := HTL.out _ _ _ _ ht2
          have HB2 : Hid (Below w.heap.size w w2 ∧ Below WA.heap.size WA w2) := ⟨HBA.out.trans (hb2.mono HBA.out.size), hb2⟩
          have H2 := (show Hid (Hdrs w2 a2 hs ∧ Bytes w2 b2 bb) from ⟨hd2, hy2⟩)
          simp only [Tl.v]
          clear ht2 hb2 hd2 hy2 K2
          go_upto_region 14 with fail
          obtain ⟨WB, hWB⟩ : ∃ WB, WB = w2.alloc (.cells #[.int .i64 k, .int .i64 u2, .string ⟨m.toArray⟩, .string ⟨t.toArray⟩, .slice a2 hs.length c2, .slice b2 bb.length e2, .int .i64 f, .bool cl2, .bool co2] 28) := ⟨_, rfl⟩
          rw [← hWB]
          obtain ⟨M, hM⟩ : ∃ M, M = w2.heap.size := ⟨_, rfl⟩
          rw [← hM]
          have HBB : Hid (Below w.heap.size w WB) := by rw [hWB]; exact HB2.out.1.alloc HB2.out.1.size _
          have hbb : Below w2.heap.size w2 WB := by rw [hWB]; exact (Below.refl _ _).alloc (Nat.le_refl _) _
          have n2 : WB.heap[M]? = some (.cells #[.int .i64 k, .int .i64 u2, .string ⟨m.toArray⟩, .string ⟨t.toArray⟩, .slice a2 hs.length c2, .slice b2 bb.length e2, .int .i64 f, .bool cl2, .bool co2] 28 (0, 0)) := by rw [hWB, hM]; exact heap_alloc_new w2 _
          have n1 : WB.heap[N]? = some (.cells #[.int .i64 k, .int .i64 u1, .string ⟨m.toArray⟩, .string ⟨t.toArray⟩, .slice a1 hs.length c1, .slice b1 bb.length e1, .int .i64 f, .bool cl1, .bool co1] 28 (0, 0)) := by
            have h1 := (HB2.out.2.block N (blk_lt HNA.out)).trans HNA.out
            exact (hbb.block N (blk_lt h1)).trans h1
          have hbA : Below WA.heap.size WA WB := HB2.out.2.trans (hbb.mono HB2.out.2.size)
          have SM := (show Hid _ from same_any m t hs bb a1 a2 c1 c2 b1 b2 e1 e2 WB (H1A.out.1.below hbA (Nat.le_refl _)) (H2.out.1.below hbb (Nat.le_refl _)) (H1A.out.2.below hbA (Nat.le_refl _)) (H2.out.2.below hbb (Nat.le_refl _)) HHS.out)
          clear hWB hM hbb hbA
          obtain ⟨c0, -, c2, c3, c4, c5, c6, -, -⟩ := nine_of n1
          obtain ⟨d0, -, d2, d3, d4, d5, d6, -, -⟩ := nine_of n2
          have HNN := (show Hid _ from And.intro n1 n2)
          clear n1 n2
          unfold rqV at SM
          go_wp2_with fail
          refine Calls.mono SM.out ?_
          rintro e w8 ⟨rfl, hb8⟩
          have AW4 := (show Hid _ from AW.out w8 (HBB.out.trans (hb8.mono HBB.out.size)))
          have n1 := (hb8.block N (blk_lt HNN.out.1)).trans HNN.out.1
          have n2 := (hb8.block M (blk_lt HNN.out.2)).trans HNN.out.2
          obtain ⟨-, -, -, -, -, -, p6, -, -⟩ := nine_of n1
          obtain ⟨-, -, -, -, -, -, q6, -, -⟩ := nine_of n2
          clear n1 n2 hb8 c0 c3 c4 c5 c6 d0 d2 d3 d4 d5 d6
          go_wp2_with (go_at_call 9; refine Calls.mono AW4.out ?_; rintro e w9 ⟨rfl, hb9⟩)
          go_ret
          exact ⟨rfl, hb9⟩
end Go.Proofs.YtmodmeabjhaklabGreatDoor
