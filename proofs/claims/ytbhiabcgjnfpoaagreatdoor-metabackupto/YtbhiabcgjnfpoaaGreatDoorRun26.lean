/-
  The document's Four, Pack and Put64 by their contracts.
-/
import Derived.Test.YtbhiabcgjnfpoaaGreatDoorRun14
import Derived.Test.YtbhiabcgjnfpoaaGreatDoorRun22
import Derived.Test.YtbhiabcgjnfpoaaGreatDoorRun05
namespace Go.Proofs.YtbhiabcgjnfpoaaGreatDoor.En
open Go.RowKit

theorem cell_list_new (w : World) (cs : List Value) (t : TypeId) : ∀ j u, cs[j]? = some u → (w.alloc (.cells cs.toArray t)).cell? ((⟨w.heap.size, 0, none⟩ : Addr).add j) = some u := by
  intro j u hj
  rw [Addr.add_lit, World.cell?_alloc_mark]
  simpa using hj
theorem be4_cells (n : Nat) (hn : n < 4294967296) : bcs (be n 4) = [.int .u8 ((n : Int) / 16777216), .int .u8 ((n : Int) / 65536 % 256), .int .u8 ((n : Int) / 256 % 256), .int .u8 ((n : Int) % 256)] := by
  have e : (n : Int) / 16777216 = (n : Int) / 16777216 % 256 := by omega
  rw [e]
  simp only [bcs, be, List.map_cons, List.map_nil, UInt8.toNat_ofNat']
  simp

set_option maxHeartbeats 400000 in
theorem four_any (n : Nat) (w : World) (hn : n < 4294967296) :
    Calls Tryz.prog 90 #[.int .u32 (n : Int)] w fun e w' => e = .returned (.slice (some ⟨w.heap.size, 0, none⟩) 4 4) ∧ (∀ j u, (bcs (be n 4))[j]? = some u → w'.cell? ((⟨w.heap.size, 0, none⟩ : Addr).add j) = some u) ∧ Below w.heap.size w w' := by
  go_enter Tryz.func90, Tryz.ntmps90
  go_wp2
  go_ret
  refine ⟨rfl, ?_, (Below.refl _ _).alloc (Nat.le_refl _) _⟩
  rw [be4_cells n hn]
  exact cell_list_new w _ 5

set_option maxHeartbeats 800000 in
theorem refPack_any (a : Option Addr) (L : List ByteArray) (cap : Nat) (w : World) (hr : tot L ≤ 8388608) (hs : Strs w a L) :
    Calls Tryz.prog 40 #[.slice a L.length cap] w fun e w' => ∃ v', e = .returned v' ∧ Own w' w.heap.size v' (packL L) ∧ Below w.heap.size w w' := by
  obtain ⟨i0, hi, hz0, hz1, hz2⟩ := info_parts info5
  have hll : L.length ≤ tot L := by
    clear hr hs
    induction L with
    | nil => simp [tot]
    | cons x r ih => simp only [List.length_cons, tot]; omega
  go_enter Tryz.func40, Tryz.ntmps40
  go_wp2
  go_loopw [3, 4] (fun v i wr => ∃ k : Nat, k ≤ L.length ∧ i = .int .i64 k ∧ Own wr w.heap.size v (packL (L.take k)) ∧ Below w.heap.size w wr)
    (fun _ i _ => L.length - (intOf i).toNat)
  case atStart => exact ⟨0, Nat.zero_le _, rfl, World.ownsRow_nil _ _ _ _, Below.refl _ _⟩
  case round =>
    obtain ⟨k, hk, rfl, hown, hnx⟩ := hrel
    have hsz := hnx.size
    have htk := tot_take L k
    by_cases hlt : k < L.length
    · obtain ⟨b, off, rfl, hbl, hcs⟩ := hs.at hlt
      have hcell : wr.cell? ⟨b, off + k, none⟩ = some (.string L[k]) := (hnx.cell (p := ⟨b, off + k, none⟩) hbl).trans (hcs k hlt)
      have HS : Hid (tot (L.take (k + 1)) = tot (L.take k) + (4 + L[k].size)) := tot_snoc L k hlt
      have ht2 : tot (L.take k) + (4 + L[k].size) ≤ tot L := by rw [← HS.out]; exact tot_take L (k + 1)
      go_wp2_with fail
      refine (four_any L[k].size _ (by omega)).mono ?_
      rintro e w1 ⟨rfl, hcells, hb1⟩
      have hz1' := hb1.size
      have hown1 : w1.ownsRow w.heap.size 5 1 u3 (packL (L.take k)).length (bcs (packL (L.take k))) := by
        have hlt2 := World.ownsRow.lt hown
        obtain ⟨q0, ⟨q1, q2⟩ | ⟨g, c', cur, q1, q2, q3, q4⟩⟩ := hown
        · exact ⟨q0, .inl ⟨q1, q2⟩⟩
        · refine ⟨q0, .inr ⟨g, c', cur, q1, q2, ?_, q4⟩⟩
          rw [hb1.block g (hlt2 g (by rw [q1]; rfl)).2]
          exact q3
      have hcell1 : w1.cell? ⟨b, off + k, none⟩ = some (.string L[k]) := (hb1.cell (p := ⟨b, off + k, none⟩) (by show b < _; omega)).trans hcell
      go_wp2_with (at_builtin; refine wpList_append_own _ rfl (.tmp 11) (.tmp 18) 76 rfl w.heap.size 5 i0 (.int .u8 0) 1 1 Tryz.underlying76 hi hz0 hz1 hz2 rfl (by decide) _ _ _ rfl hown1 ⟨wr.heap.size, 0, none⟩ 4 4 (bcs (be L[k].size 4)) rfl ?d0 ?d1 ?d2 ?d3 ?d4 ?d5 ?_)
      case d0 => rw [bcs_length, be_length]
      case d1 => exact hcells
      case d2 => exact bcs_one _
      case d3 => rw [packL_length]; unfold maxLen; omega
      case d4 => rw [packL_length]; omega
      case d5 => omega
      intro v2 w2 hown2 hgrow2 _
      have hcell2 : w2.cell? ⟨b, off + k, none⟩ = some (.string L[k]) := hgrow2.cell hcell1 (by
        intro hh
        have := (World.ownsRow.lt hown1 b hh.symm).1
        omega)
      have hsz2 := hgrow2.size
      have hB2 : Below w.heap.size w w2 := (hnx.trans (hb1.mono hsz)).grown hgrow2 (by omega) (fun j hj => (World.ownsRow.lt hown1 j hj).1)
      clear hown hown1 hcells hcell hcell1 hgrow2
      go_wp2_with (at_builtin; refine Lib.wpList_append_own_string _ rfl (.tmp 20) (.tmp 24) 76 9 rfl w.heap.size 5 i0 Tryz.underlying76 Tryz.underlying9 hi hz0 hz1 hz2 _ _ _ rfl hown2 L[k] rfl ?c1 ?c2 ?c3 ?_)
      case c1 => simp only [packL_length]; unfold maxLen; omega
      case c2 => simp only [packL_length]; omega
      case c3 => omega
      intro v3 w3 hown3 hgrow3 _
      have R : Own w3 w.heap.size v3 (packL (L.take (k + 1))) := by
        have e : packL (L.take (k + 1)) = packL (L.take k) ++ be L[k].size 4 ++ L[k].data.toList := by rw [packL_snoc L k hlt, packOne, List.append_assoc]
        have e2 : (packL (L.take k) ++ be L[k].size 4 ++ L[k].data.toList).length = (packL (L.take k)).length + 4 + L[k].size := by rw [List.length_append, List.length_append, be_length]; simp
        unfold Own
        rw [e, e2, bcs_append, bcs_append, List.append_assoc]
        exact hown3
      have hB3 : Below w.heap.size w w3 := hB2.grown hgrow3 (by omega) (fun j hj => (World.ownsRow.lt hown2 j hj).1)
      clear hown3 hgrow3 hown2 hB2
      go_wp2
      go_roundw
      case rel => exact ⟨k + 1, by omega, by go_num, R, hB3⟩
      case measure => simp [intOf]; omega
    · have hkl : k = L.length := by omega
      subst hkl
      rw [List.take_length] at hown
      go_wp2
      go_ret
      exact ⟨_, rfl, hown, hnx⟩

theorem be_mod (n : Nat) : be (n % 4294967296) 4 = be n 4 := by
  have h : ∀ m k : Nat, k < 4 → UInt8.ofNat (m % 4294967296 / 2 ^ (8 * k)) = UInt8.ofNat (m / 2 ^ (8 * k)) := by
    intro m k hk
    apply UInt8.toNat_inj.1
    rw [UInt8.toNat_ofNat', UInt8.toNat_ofNat']
    match k, hk with
    | 0, _ => simp
    | 1, _ => simp; omega
    | 2, _ => simp; omega
    | 3, _ => simp; omega
  simp only [be, h n 0 (by omega), h n 1 (by omega), h n 2 (by omega), h n 3 (by omega)]
theorem be_8 (n : Nat) : be n 8 = be (n / 4294967296) 4 ++ be n 4 := by
  simp only [be, List.cons_append, List.nil_append, Nat.div_div_eq_div_mul]

theorem own_later {w w1 : World} {base B : Nat} {v : Value} {l : List UInt8} (h : Own w base v l) (hb : Below B w w1) (hB : w.heap.size ≤ B) : Own w1 base v l := by
  have hlt2 := World.ownsRow.lt h
  obtain ⟨q0, ⟨q1, q2⟩ | ⟨g, c', cur, q1, q2, q3, q4⟩⟩ := h
  · exact ⟨q0, .inl ⟨q1, q2⟩⟩
  · refine ⟨q0, .inr ⟨g, c', cur, q1, q2, ?_, q4⟩⟩
    rw [hb.block g (by have := (hlt2 g (by rw [q1]; rfl)).2; omega)]
    exact q3

end Go.Proofs.YtbhiabcgjnfpoaaGreatDoor.En
/-
  The document's lists of headers and of tags.
-/
namespace Go.Proofs.YtbhiabcgjnfpoaaGreatDoor
open Go.RowKit

set_option maxRecDepth 20000 in
set_option maxHeartbeats 2000000 in
theorem refHeaders_any (a : Option Addr) (L : List (ByteArray × ByteArray)) (cap : Nat) (w : World) (hp : Prs w a L) (hn : L.length ≤ 1048576) :
    Calls Tryz.prog 46 #[.slice a L.length cap] w fun e w' => ∃ v, e = .returned v ∧ En.OwnS w' w.heap.size v (tx L.length :: prF L) ∧ Below w.heap.size w w' := by
  obtain ⟨i0, hi, hz0, hz1, hz2⟩ := info_parts En.info9
  have HT := (show Hid (Calls Tryz.prog 37 #[.int .i64 (L.length : Int)] w fun e w' => e = .returned (.string (tx L.length)) ∧ w = w') from En.refText_any _ w (by omega) (by omega))
  have HO := (show Hid (∀ W, w.heap.size ≤ W.heap.size → _) from fun W h => own_built W w.heap.size h [tx L.length] (by simp))
  have HP : Hid (Prs w a L) := hp
  generalize tx L.length = tn at *
  clear hp
  go_enter Tryz.func46, Tryz.ntmps46
  go_wp2_with fail
  refine HT.out.mono ?_
  rintro e w1 ⟨rfl, rfl⟩
  have ho1 := HO.out w (Nat.le_refl _)
  have H1 : Hid (En.OwnS (w.alloc (.cells #[.string tn] 9)) w.heap.size (.slice (some ⟨w.heap.size, 0, none⟩) 1 1) [tn] ∧ Below w.heap.size w (w.alloc (.cells #[.string tn] 9))) := ⟨ho1, bel_alloc (Below.refl _ w) _⟩
  clear ho1 HO HT
  go_wp2_with fail
  go_loopw [3, 4] (fun v i wr => ∃ k : Nat, k ≤ L.length ∧ i = .int .i64 k ∧ En.OwnS wr w.heap.size v (tn :: prF (L.take k)) ∧ Below w.heap.size w wr) (fun _ i _ => L.length - (intOf i).toNat)
  case atStart => exact ⟨0, Nat.zero_le _, rfl, H1.out.1, H1.out.2⟩
  case round =>
    obtain ⟨k, hk, rfl, hown, hnx⟩ := hrel
    by_cases hlt : k < L.length
    · obtain ⟨b, off, rfl, hbl, hcs⟩ := HP.out.at hlt
      obtain ⟨q0, q1⟩ := hcs k hlt
      have hc0 := (hnx.cell (p := ⟨b, off + k * 2, none⟩) hbl).trans q0
      have hc1 := (hnx.cell (p := ⟨b, off + k * 2 + 1, none⟩) hbl).trans q1
      have hz := hnx.size
      have HS : Hid (prF (L.take (k + 1)) = prF (L.take k) ++ [L[k].1, L[k].2]) := prF_snoc hlt
      have hpl : (prF (L.take k)).length ≤ 2097152 := by rw [prF_len, List.length_take]; omega
      have hlow := World.ownsRow.lt hown
      have HN : Hid (∀ j, u3.ownBlock = some j → w.heap.size ≤ j ∧ b ≠ j) := fun j hj => ⟨(hlow j hj).1, by have := (hlow j hj).1; omega⟩
      have hkI : (k : Int) < (L.length : Int) := by omega
      have HOw : Hid (wr.ownsRow w.heap.size 9 1 u3 (tn :: prF (L.take k)).length ((tn :: prF (L.take k)).map Value.string)) := hown
      have hln : (tn :: prF (L.take k)).length ≤ 2097153 := by simp; omega
      have HX : Hid (Below w.heap.size w wr ∧ b < w.heap.size) := ⟨hnx, hbl⟩
      generalize L[k].1 = x at *
      generalize L[k].2 = y at *
      generalize hG : (tn :: prF (L.take k)) = G at *
      have HG : Hid (tn :: prF (L.take k) = G) := hG
      have HCl : Hid (wr.cell? ⟨b, off + k * 2, none⟩ = some (.string x) ∧ wr.cell? ⟨b, off + k * 2 + 1, none⟩ = some (.string y)) := ⟨hc0, hc1⟩
      have HCd : Hid (∀ o, (wr.alloc o).drew.cell? ⟨b, off + k * 2, none⟩ = some (.string x) ∧ (wr.alloc o).drew.cell? ⟨b, off + k * 2 + 1, none⟩ = some (.string y)) := fun o => by
        have hbb : Below wr.heap.size wr (wr.alloc o).drew := (bel_alloc (Below.refl _ wr) o).drew
        exact ⟨(hbb.cell (p := ⟨b, off + k * 2, none⟩) (by show b < _; omega)).trans hc0, (hbb.cell (p := ⟨b, off + k * 2 + 1, none⟩) (by show b < _; omega)).trans hc1⟩
      clear hcs q0 q1 hown hnx hlow hpl hG hbl
      go_wp2_with fail
      go_region_held3 (fun w' => w'.cell? ⟨b, off + k * 2, none⟩ = some (.string x) ∧ w'.cell? ⟨b, off + k * 2 + 1, none⟩ = some (.string y)) (first | exact ⟨s0, s1⟩ | (go_keep))
        (first
          | (refine step_append_own rfl (.tmp 15) (.tmp 26) 65 rfl w.heap.size 9 i0 (.string ⟨#[]⟩) 1 16 Tryz.underlying65 hi hz0 hz1 hz2 rfl (by decide) _ _ _ rfl (World.ownsRow.drew (World.ownsRow.alloc HOw.out _)) ⟨wr.heap.size, 0, none⟩ 2 2 [.string x, .string y] rfl rfl (cell_two_new wr _ _ _) (by intro u hu; simp at hu; rcases hu with rfl | rfl <;> rfl) (by unfold maxLen; omega) (by omega) (by simp; omega) ?_; intro v1 w1 hown1 hgrow1; have s0 := World.grownBy.cell hgrow1 (a := ⟨b, off + k * 2, none⟩) (v := .string x) (HCd.out _).1 (fun e => (HN.out b e.symm).2 rfl); have s1 := World.grownBy.cell hgrow1 (a := ⟨b, off + k * 2 + 1, none⟩) (v := .string y) (HCd.out _).2 (fun e => (HN.out b e.symm).2 rfl)))
      all_goals
        have HR : Hid (En.OwnS w1 w.heap.size v1 (tn :: prF (L.take (k + 1)))) := by
          show En.OwnS _ _ _ _
          rw [HS.out, ← List.cons_append, HG.out]
          unfold En.OwnS
          rw [List.length_append, List.map_append]
          exact hown1
        have hB1 : Below w.heap.size w w1 := ((HX.out.1.alloc hz _).drew).grown hgrow1 (by simp; omega) (fun j hj => (HN.out j hj).1)
        clear hown1 hgrow1 HCd HCl
        go_wp2
        go_roundw
        case rel => exact ⟨k + 1, by omega, by go_num, HR.out, hB1⟩
        case measure => simp [intOf]; omega
    · obtain rfl : k = L.length := by omega
      rw [List.take_length] at hown
      go_wp2
      go_ret
      exact ⟨_, rfl, hown, hnx⟩
set_option maxRecDepth 20000 in
set_option maxHeartbeats 2000000 in
theorem refTags_any (a : Option Addr) (L : List (ByteArray × ByteArray)) (cap : Nat) (w : World) (hp : Prs w a L) (hn : L.length ≤ 1048576) :
    Calls Tryz.prog 39 #[.slice a L.length cap] w fun e w' => ∃ v, e = .returned v ∧ En.OwnS w' w.heap.size v (tx L.length :: prF L) ∧ Below w.heap.size w w' := by
  obtain ⟨i0, hi, hz0, hz1, hz2⟩ := info_parts En.info9
  have HT := (show Hid (Calls Tryz.prog 37 #[.int .i64 (L.length : Int)] w fun e w' => e = .returned (.string (tx L.length)) ∧ w = w') from En.refText_any _ w (by omega) (by omega))
  have HO := (show Hid (∀ W, w.heap.size ≤ W.heap.size → _) from fun W h => own_built W w.heap.size h [tx L.length] (by simp))
  have HP : Hid (Prs w a L) := hp
  generalize tx L.length = tn at *
  clear hp
  go_enter Tryz.func39, Tryz.ntmps39
  go_wp2_with fail
  refine HT.out.mono ?_
  rintro e w1 ⟨rfl, rfl⟩
  have ho1 := HO.out w (Nat.le_refl _)
  have H1 : Hid (En.OwnS (w.alloc (.cells #[.string tn] 9)) w.heap.size (.slice (some ⟨w.heap.size, 0, none⟩) 1 1) [tn] ∧ Below w.heap.size w (w.alloc (.cells #[.string tn] 9))) := ⟨ho1, bel_alloc (Below.refl _ w) _⟩
  clear ho1 HO HT
  go_wp2_with fail
  go_loopw [3, 4] (fun v i wr => ∃ k : Nat, k ≤ L.length ∧ i = .int .i64 k ∧ En.OwnS wr w.heap.size v (tn :: prF (L.take k)) ∧ Below w.heap.size w wr) (fun _ i _ => L.length - (intOf i).toNat)
  case atStart => exact ⟨0, Nat.zero_le _, rfl, H1.out.1, H1.out.2⟩
  case round =>
    obtain ⟨k, hk, rfl, hown, hnx⟩ := hrel
    by_cases hlt : k < L.length
    · obtain ⟨b, off, rfl, hbl, hcs⟩ := HP.out.at hlt
      obtain ⟨q0, q1⟩ := hcs k hlt
      have hc0 := (hnx.cell (p := ⟨b, off + k * 2, none⟩) hbl).trans q0
      have hc1 := (hnx.cell (p := ⟨b, off + k * 2 + 1, none⟩) hbl).trans q1
      have hz := hnx.size
      have HS : Hid (prF (L.take (k + 1)) = prF (L.take k) ++ [L[k].1, L[k].2]) := prF_snoc hlt
      have hpl : (prF (L.take k)).length ≤ 2097152 := by rw [prF_len, List.length_take]; omega
      have hlow := World.ownsRow.lt hown
      have HN : Hid (∀ j, u3.ownBlock = some j → w.heap.size ≤ j ∧ b ≠ j) := fun j hj => ⟨(hlow j hj).1, by have := (hlow j hj).1; omega⟩
      have hkI : (k : Int) < (L.length : Int) := by omega
      have HOw : Hid (wr.ownsRow w.heap.size 9 1 u3 (tn :: prF (L.take k)).length ((tn :: prF (L.take k)).map Value.string)) := hown
      have hln : (tn :: prF (L.take k)).length ≤ 2097153 := by simp; omega
      have HX : Hid (Below w.heap.size w wr ∧ b < w.heap.size) := ⟨hnx, hbl⟩
      generalize L[k].1 = x at *
      generalize L[k].2 = y at *
      generalize hG : (tn :: prF (L.take k)) = G at *
      have HG : Hid (tn :: prF (L.take k) = G) := hG
      have HCl : Hid (wr.cell? ⟨b, off + k * 2, none⟩ = some (.string x) ∧ wr.cell? ⟨b, off + k * 2 + 1, none⟩ = some (.string y)) := ⟨hc0, hc1⟩
      have HCd : Hid (∀ o, (wr.alloc o).drew.cell? ⟨b, off + k * 2, none⟩ = some (.string x) ∧ (wr.alloc o).drew.cell? ⟨b, off + k * 2 + 1, none⟩ = some (.string y)) := fun o => by
        have hbb : Below wr.heap.size wr (wr.alloc o).drew := (bel_alloc (Below.refl _ wr) o).drew
        exact ⟨(hbb.cell (p := ⟨b, off + k * 2, none⟩) (by show b < _; omega)).trans hc0, (hbb.cell (p := ⟨b, off + k * 2 + 1, none⟩) (by show b < _; omega)).trans hc1⟩
      clear hcs q0 q1 hown hnx hlow hpl hG hbl
      go_wp2_with fail
      go_region_held3 (fun w' => w'.cell? ⟨b, off + k * 2, none⟩ = some (.string x) ∧ w'.cell? ⟨b, off + k * 2 + 1, none⟩ = some (.string y)) (first | exact ⟨s0, s1⟩ | (go_keep))
        (first
          | (refine step_append_own rfl (.tmp 15) (.tmp 26) 65 rfl w.heap.size 9 i0 (.string ⟨#[]⟩) 1 16 Tryz.underlying65 hi hz0 hz1 hz2 rfl (by decide) _ _ _ rfl (World.ownsRow.drew (World.ownsRow.alloc HOw.out _)) ⟨wr.heap.size, 0, none⟩ 2 2 [.string x, .string y] rfl rfl (cell_two_new wr _ _ _) (by intro u hu; simp at hu; rcases hu with rfl | rfl <;> rfl) (by unfold maxLen; omega) (by omega) (by simp; omega) ?_; intro v1 w1 hown1 hgrow1; have s0 := World.grownBy.cell hgrow1 (a := ⟨b, off + k * 2, none⟩) (v := .string x) (HCd.out _).1 (fun e => (HN.out b e.symm).2 rfl); have s1 := World.grownBy.cell hgrow1 (a := ⟨b, off + k * 2 + 1, none⟩) (v := .string y) (HCd.out _).2 (fun e => (HN.out b e.symm).2 rfl)))
      all_goals
        have HR : Hid (En.OwnS w1 w.heap.size v1 (tn :: prF (L.take (k + 1)))) := by
          show En.OwnS _ _ _ _
          rw [HS.out, ← List.cons_append, HG.out]
          unfold En.OwnS
          rw [List.length_append, List.map_append]
          exact hown1
        have hB1 : Below w.heap.size w w1 := ((HX.out.1.alloc hz _).drew).grown hgrow1 (by simp; omega) (fun j hj => (HN.out j hj).1)
        clear hown1 hgrow1 HCd HCl
        go_wp2
        go_roundw
        case rel => exact ⟨k + 1, by omega, by go_num, HR.out, hB1⟩
        case measure => simp [intOf]; omega
    · obtain rfl : k = L.length := by omega
      rw [List.take_length] at hown
      go_wp2
      go_ret
      exact ⟨_, rfl, hown, hnx⟩

end Go.Proofs.YtbhiabcgjnfpoaaGreatDoor
