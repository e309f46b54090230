/-
  Keys of the map: what reads them, the document's side.
-/
import Derived.Test.YtaagnckppdaljaaDoorKeyR
import Derived.Test.YtaagnckppdaljaaDoorLawNames
import Derived.Test.YtaagnckppdaljaaDoorEnRefUnhex
import Derived.Laws.Rows
namespace Go.Proofs.YtaagnckppdaljaaDoor
open Go.RowKit

set_option maxHeartbeats 1000000 in
theorem refGet_any (s : ByteArray) (w : World) (hs : s.size ≤ 140737488351232) :
    Calls Tryd.prog 43 #[.string s] w fun e w' => e = .returned (.tuple #[.int .i64 (gn s.data.toList : Nat), .bool (gnOk s.data.toList)]) ∧ Below w.heap.size w w' := by
  obtain ⟨W1, cap, hcv, hbs, hb⟩ := conv_new s w
  have hl : s.data.toList.length ≤ 140737488351232 := by simpa using hs
  have HG : Hid (Calls Tryd.prog 64 #[.slice (some ⟨w.heap.size, 0, none⟩) s.data.toList.length cap] W1 fun e w' => e = .returned (.tuple #[.int .u64 (En.g64 s.data.toList : Nat), .bool (En.g64Ok s.data.toList)]) ∧ W1 = w') := En.refGet64_any _ _ _ _ hl hbs
  clear hbs hs
  cases h1 : En.g64Ok s.data.toList
  · have HN := (show Hid (gnOk s.data.toList = false ∧ gn s.data.toList = 0) from gn_no1 h1)
    rw [h1] at HG
    clear h1
    generalize En.g64 s.data.toList = g at *
    go_enter Tryd.func43, Tryd.ntmps43
    go_wp2_with fail
    refine HG.out.mono ?_
    rintro e w1 ⟨rfl, rfl⟩
    go_wp2
    go_ret2
    exact ⟨ret_ib2 (by rw [HN.out.2]; rfl) HN.out.1.symm, hb⟩
  · by_cases h2 : En.g64 s.data.toList ≤ 9223372036854775807
    · have HN := (show Hid (gnOk s.data.toList = true ∧ gn s.data.toList = En.g64 s.data.toList) from gn_yes h1 h2)
      rw [h1] at HG
      clear h1
      generalize En.g64 s.data.toList = g at *
      have h3 : ¬ ((g : Int) > 9223372036854775807) := by omega
      go_enter Tryd.func43, Tryd.ntmps43
      go_wp2_with fail
      refine HG.out.mono ?_
      rintro e w1 ⟨rfl, rfl⟩
      go_wp2
      go_ret2
      exact ⟨ret_ib2 (by rw [HN.out.2]) HN.out.1.symm, hb⟩
    · have HN := (show Hid (gnOk s.data.toList = false ∧ gn s.data.toList = 0) from gn_no2 h2)
      rw [h1] at HG
      clear h1
      generalize En.g64 s.data.toList = g at *
      have h3 : (g : Int) > 9223372036854775807 := by omega
      go_enter Tryd.func43, Tryd.ntmps43
      go_wp2_with fail
      refine HG.out.mono ?_
      rintro e w1 ⟨rfl, rfl⟩
      go_wp2
      go_ret2
      exact ⟨ret_ib2 (by rw [HN.out.2]; rfl) HN.out.1.symm, hb⟩

theorem refSeq_any (s : ByteArray) (w : World) (hs : s.size ≤ 140737488351232) :
    Calls Tryd.prog 27 #[.string s] w fun e w' => e = .returned (.tuple #[.int .i64 (sqN s.data.toList : Nat), .bool (sqOk s.data.toList)]) ∧ Below w.heap.size w w' := by
  have HU : Hid (Calls Tryd.prog 45 #[.string s] w fun e w' => ∃ v, e = .returned (.tuple #[v, .bool (En.uhOk s.data.toList)]) ∧ En.Own w' w.heap.size v (En.uhL s.data.toList) ∧ Below w.heap.size w w') := En.refUnhex_any s w hs
  have hl : s.data.toList.length = s.size := by simp
  cases h : En.uhOk s.data.toList
  · have HN := (show Hid (sqOk s.data.toList = false ∧ sqN s.data.toList = 0) from sq_no h)
    rw [h] at HU
    clear h hl
    go_enter Tryd.func27, Tryd.ntmps27
    go_wp2_with fail
    refine HU.out.mono ?_
    rintro e w1 ⟨v, rfl, ho, hb⟩
    go_wp2
    go_ret2
    exact ⟨ret_ib2 (by rw [HN.out.2]; rfl) HN.out.1.symm, hb⟩
  · have HN := (show Hid (sqOk s.data.toList = gnOk (En.uhL s.data.toList) ∧ sqN s.data.toList = gn (En.uhL s.data.toList)) from sq_yes h)
    have HG : Hid (∀ W, Calls Tryd.prog 43 #[.string ⟨(En.uhL s.data.toList).toArray⟩] W fun e w' => e = .returned (.tuple #[.int .i64 (gn (En.uhL s.data.toList) : Nat), .bool (gnOk (En.uhL s.data.toList))]) ∧ Below W.heap.size W w') := fun W => refGet_any ⟨(En.uhL s.data.toList).toArray⟩ W (by have := uhL_len s.data.toList; simp [ByteArray.size]; omega)
    rw [h] at HU
    clear h hl
    go_enter Tryd.func27, Tryd.ntmps27
    go_wp2_with fail
    refine HU.out.mono ?_
    rintro e w1 ⟨v, rfl, ho, hb⟩
    obtain ⟨a, cap, rfl, hbs⟩ := ho.bytes
    have hcv := En.convert_bytes w1 a cap _ hbs
    clear ho hbs
    go_wp2_with fail
    refine (HG.out _).mono ?_
    rintro e w2 ⟨rfl, hb2⟩
    have B2 := step_below hb hb2 (Nat.le_refl _)
    clear hb hb2
    go_wp2
    go_ret2
    exact ⟨ret_ib2 (by rw [HN.out.2]) HN.out.1.symm, B2⟩

theorem begins_any (c : UInt8) (s : ByteArray) (w : World) (hs : s.size ≤ 140737488351232) :
    Calls Tryd.prog 38 #[.string s, .string ⟨#[c]⟩] w fun e w' => e = .returned (.bool (Lib.hasPrefix s.data.toList [c])) ∧ w = w' := by
  have hl : s.data.toList.length = s.size := by simp
  by_cases h0 : 1 ≤ s.size
  · have h0' : (1 : Int) ≤ (s.size : Int) := by omega
    have HE : Hid (((s.extract 0 1).toList == [c]) = Lib.hasPrefix s.data.toList [c]) := by
      show _ = _
      rw [bytes_toList, ext_take]
      cases hx : s.data.toList with
      | nil => rw [hx] at hl; simp at hl; omega
      | cons a r =>
        rw [Bool.eq_iff_iff]
        simp [Lib.hasPrefix, List.isPrefixOf]
        exact ⟨Eq.symm, Eq.symm⟩
    clear hl
    go_enter Tryd.func38, Tryd.ntmps38
    go_wp2
    all_goals
      go_ret
      exact ⟨ret_bool HE.out, rfl⟩
  · have h0' : ¬ ((1 : Int) ≤ (s.size : Int)) := by omega
    have HE : Hid (Lib.hasPrefix s.data.toList [c] = false) := by
      show _ = _
      have : s.data.toList = [] := List.eq_nil_of_length_eq_zero (by omega)
      rw [this]
      rfl
    clear hl
    go_enter Tryd.func38, Tryd.ntmps38
    go_wp2
    go_ret
    exact ⟨ret_bool HE.out.symm, rfl⟩

/-- No 0 ahead of k. -/
def nzK (l : List UInt8) (k : Nat) : Prop := nz (l.take k)
theorem nzK_step {l : List UInt8} {k : Nat} (h : nzK l k) (hk : k < l.length) (h0 : l[k] ≠ 0) : nzK l (k + 1) := by
  unfold nzK nz at *
  rw [List.take_succ_eq_append_getElem hk]
  simp only [List.mem_append, List.mem_singleton, not_or]
  exact ⟨h, fun e => h0 e.symm⟩
theorem nzK_hit {l : List UInt8} {k : Nat} (h : nzK l k) (hk : k < l.length) (h0 : l[k] = 0) : bz l = l.take k ∧ az l = l.drop (k + 1) ∧ hzb l = true := by
  have e : l = l.take k ++ 0 :: l.drop (k + 1) := by
    have := List.drop_eq_getElem_cons hk
    rw [h0] at this
    rw [← this, List.take_append_drop]
  generalize hA : l.take k = A at *
  generalize hB : l.drop (k + 1) = B at *
  have hn : nz A := by unfold nzK at h; rw [hA] at h; exact h
  rw [e]
  exact ⟨bz_of hn, az_of hn, hzb_of _ _⟩
theorem nzK_end {l : List UInt8} (h : nzK l l.length) : bz l = l ∧ az l = [] ∧ hzb l = false := by
  unfold nzK at h
  rw [List.take_length] at h
  have hf : hzb l = false := by
    rw [← Bool.not_eq_true]
    intro ht
    rw [hzb_split ht] at h
    exact h (by simp)
  exact ⟨hzb_no hf, by unfold az; rw [hf]; rfl, hf⟩
theorem ret_cut3 {a b c d : ByteArray} {p q : Bool} (h : a = b) (g : c = d) (k : p = q) : Ending.returned (.tuple #[.string a, .string c, .bool p]) = .returned (.tuple #[.string b, .string d, .bool q]) := by rw [h, g, k]

set_option maxHeartbeats 1000000 in
theorem refCut_any (s : ByteArray) (w : World) (hs : s.size ≤ 140737488351232) :
    Calls Tryd.prog 61 #[.string s, .int .u8 0] w fun e w' => e = .returned (.tuple #[.string ⟨(bz s.data.toList).toArray⟩, .string ⟨(az s.data.toList).toArray⟩, .bool (hzb s.data.toList)]) ∧ Below w.heap.size w w' := by
  have hl : s.data.toList.length = s.size := by simp
  have HL : Hid (s.data.toList.length = s.size) := hl
  clear hl
  go_enter Tryd.func61, Tryd.ntmps61
  go_wp2
  go_loop [7] (fun i => ∃ k : Nat, k ≤ s.size ∧ i = .int .i64 k ∧ nzK s.data.toList k) (fun i => s.size - (intOf i).toNat)
  case atStart => exact ⟨0, Nat.zero_le _, rfl, by unfold nzK nz; simp⟩
  case round =>
    obtain ⟨k, hk, rfl, hf⟩ := hrel
    have HF : Hid (nzK s.data.toList k) := hf
    clear hf
    by_cases hlt : k < s.size
    · have hg : s.data.toList[k]'(by rw [HL.out]; exact hlt) = s[k] := rfl
      by_cases h0 : s[k] = 0
      · have HH : Hid (bz s.data.toList = s.data.toList.take k ∧ az s.data.toList = s.data.toList.drop (k + 1) ∧ hzb s.data.toList = true) := nzK_hit HF.out (by rw [HL.out]; exact hlt) (hg.trans h0)
        have hz : ((s[k].toNat : Int) == 0) = true := by rw [h0]; rfl
        have hk1 : (k : Int) + 1 ≤ (s.size : Int) := by omega
        have hk2 : k + 1 ≤ s.size := by omega
        clear hg h0 HF
        go_wp2_with fail
        go_quiet (fail)
        go_wp2
        go_ret3
        exact ⟨ret_cut3 (by rw [HH.out.1]; exact ext_take s k) (by rw [HH.out.2.1]; exact ext_drop s (k + 1)) HH.out.2.2.symm, below_drewN _ _ _⟩
      · have HN := (show Hid (nzK s.data.toList (k + 1)) from nzK_step HF.out (by rw [HL.out]; exact hlt) (fun e => h0 (hg.symm.trans e)))
        have hz : ((s[k].toNat : Int) == 0) = false := by
          have : s[k].toNat ≠ 0 := fun e => h0 (UInt8.toNat_inj.1 (by rw [e]; rfl))
          simp
          exact this
        clear hg h0 HF
        go_wp2
        go_round
        case rel => exact ⟨k + 1, by omega, by go_num, HN.out⟩
        case measure => simp [intOf]; omega
    · obtain rfl : k = s.size := by omega
      have HE : Hid (bz s.data.toList = s.data.toList ∧ az s.data.toList = [] ∧ hzb s.data.toList = false) := nzK_end (by rw [HL.out]; exact HF.out)
      clear HF
      go_wp2
      go_ret3
      exact ⟨ret_cut3 (by rw [HE.out.1]) (by rw [HE.out.2.1]) HE.out.2.2.symm, Below.refl _ _⟩
end Go.Proofs.YtaagnckppdaljaaDoor
