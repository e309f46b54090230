/-
  The document's ParseUpload, ParseObject and ParsePart.
-/
import Derived.Test.YtaagnckppdaljaaDoorKeyE
import Derived.Deep.CutBlock
namespace Go.Proofs.YtaagnckppdaljaaDoor
open Go.RowKit

set_option maxHeartbeats 1000000 in
theorem refParseUpload_any (s : ByteArray) (w : World) (hs : s.size ≤ 140737488351232) :
    Calls Tryd.prog 23 #[.string s] w fun e w' => e = .returned (plN 85 s.data.toList) ∧ Below w.heap.size w w' := by
  have HP : Hid (∀ W, Calls Tryd.prog 41 #[.string s, .string ⟨#[85]⟩] W fun e w' => e = .returned (plN 85 s.data.toList) ∧ Below W.heap.size W w') := fun W => refLong_any 85 s W hs
  unfold plN plV at HP ⊢
  generalize pn 85 s.data.toList = o at *
  cases o with
  | none =>
    simp only at HP ⊢
    go_enter Tryd.func23, Tryd.ntmps23
    go_wp2_with fail
    refine (HP.out _).mono ?_
    rintro e w2 ⟨rfl, hb⟩
    have hbx := box5_stays hb
    have HB := (show Hid (Below w.heap.size w w2) from alloc_below hb)
    have HBx := (show Hid _ from hbx)
    have c0 := cell_blk hbx 0
    have c1 := cell_blk hbx 1
    have c2 := cell_blk hbx 2
    have c3 := cell_blk hbx 3
    have c4 := cell_blk hbx 4
    have f0 := frozen_blk hbx 0
    have f1 := frozen_blk hbx 1
    have f2 := frozen_blk hbx 2
    have f3 := frozen_blk hbx 3
    have f4 := frozen_blk hbx 4
    simp only [List.getElem?_toArray] at c0 c1 c2 c3 c4
    clear hb hbx
    go_wp2
    (try simp only [Exit.inBlock, Exit.then])
    refine bodyPost_ret (box5_ret rfl _ _ (box5_set HBx.out _ _ _ _ _) rfl) rfl ⟨?_, box5_below HB.out (Nat.le_refl _) _ _ _ _ _⟩
    rfl
  | some r =>
    obtain ⟨b, k, n⟩ := r
    simp only at HP ⊢
    go_enter Tryd.func23, Tryd.ntmps23
    go_wp2_with fail
    refine (HP.out _).mono ?_
    rintro e w2 ⟨rfl, hb⟩
    have hbx := box5_stays hb
    have HB := (show Hid (Below w.heap.size w w2) from alloc_below hb)
    have HBx := (show Hid _ from hbx)
    have c0 := cell_blk hbx 0
    have c1 := cell_blk hbx 1
    have c2 := cell_blk hbx 2
    have c3 := cell_blk hbx 3
    have c4 := cell_blk hbx 4
    have f0 := frozen_blk hbx 0
    have f1 := frozen_blk hbx 1
    have f2 := frozen_blk hbx 2
    have f3 := frozen_blk hbx 3
    have f4 := frozen_blk hbx 4
    simp only [List.getElem?_toArray] at c0 c1 c2 c3 c4
    clear hb hbx
    go_wp2
    (try simp only [Exit.inBlock, Exit.then])
    refine bodyPost_ret (box5_ret rfl _ _ (box5_set HBx.out _ _ _ _ _) rfl) rfl ⟨?_, box5_below HB.out (Nat.le_refl _) _ _ _ _ _⟩
    rfl

/-- What the document's ParseObject tells. -/
noncomputable def plO (l : List UInt8) : Value :=
  match pn 79 l with
  | some (b, k, n) => plV b k (9223372036854775807 - n) 0 true
  | none => plV [] [] 0 0 false
theorem box_load31 {w : World} {g : Nat} {x0 x1 x2 x3 x4 : Value} (h : w.heap[g]? = some (.cells #[x0, x1, x2, x3, x4] 31 (0, 0))) : (loadVar 31 ⟨g, 0, none⟩).run Tryd.prog w = .ok (.agg #[x0, x1, x2, x3, x4]) w :=
  run_loadVar_row (P := Tryd.prog) w g 31 31 _ (0, 0) _ h Tryd.underlying31 rfl size31

set_option maxHeartbeats 1000000 in
theorem refParseObject_any (s : ByteArray) (w : World) (hs : s.size ≤ 140737488351232) :
    Calls Tryd.prog 21 #[.string s] w fun e w' => e = .returned (plO s.data.toList) ∧ Below w.heap.size w w' := by
  have HP : Hid (∀ W, Calls Tryd.prog 41 #[.string s, .string ⟨#[79]⟩] W fun e w' => e = .returned (plN 79 s.data.toList) ∧ Below W.heap.size W w') := fun W => refLong_any 79 s W hs
  unfold plN plV at HP
  unfold plO plV
  cases hpn : pn 79 s.data.toList with
  | none =>
    rw [hpn] at HP
    simp only at HP ⊢
    clear hpn
    go_enter Tryd.func21, Tryd.ntmps21
    go_wp2_with fail
    refine (HP.out _).mono ?_
    rintro e w2 ⟨rfl, hb⟩
    have hbx := box5_stays hb
    have hB2 := alloc_below hb
    have hlt : w.heap.size < w2.heap.size := (Array.getElem?_eq_some_iff.1 hbx).1
    go_upto_region 2 with fail
    obtain ⟨w3, hw3⟩ : ∃ w3, w3 = w2.alloc (.cells #[.string ⟨#[]⟩, .string ⟨#[]⟩, .int .i64 0, .int .i64 0, .bool false] 31) := ⟨_, rfl⟩
    rw [← hw3]
    obtain ⟨p, hp⟩ : ∃ p, p = w2.heap.size := ⟨_, rfl⟩
    obtain ⟨g, hg⟩ : ∃ g, g = w.heap.size := ⟨_, rfl⟩
    rw [← hp, ← hg]
    have hb3 : w3.heap[g]? = some (.cells #[.string ⟨#[]⟩, .string ⟨#[]⟩, .int .i64 0, .int .i64 0, .bool false] 31 (0, 0)) := by rw [hw3, hg, heap_alloc_old w2 _ hlt]; exact hbx
    have hq3 : w3.heap[p]? = some (.cells #[.string ⟨#[]⟩, .string ⟨#[]⟩, .int .i64 0, .int .i64 0, .bool false] 31 (0, 0)) := by rw [hw3, hp]; exact heap_alloc_new w2 _
    have HB := (show Hid (Below w.heap.size w w3) by show Below _ _ _; rw [hw3]; exact hB2.alloc hB2.size _)
    have HG : Hid (w.heap.size ≤ g) := by show _ ≤ _; omega
    have HBx := (show Hid _ from hb3)
    have c0 := cell_blk hb3 0
    have c1 := cell_blk hb3 1
    have c2 := cell_blk hb3 2
    have c3 := cell_blk hb3 3
    have c4 := cell_blk hb3 4
    have f0 := frozen_blk hb3 0
    have f1 := frozen_blk hb3 1
    have f2 := frozen_blk hb3 2
    have f3 := frozen_blk hb3 3
    have f4 := frozen_blk hb3 4
    simp only [List.getElem?_toArray] at c0 c1 c2 c3 c4
    have qc0 := cell_blk hq3 0
    have qc1 := cell_blk hq3 1
    have qc2 := cell_blk hq3 2
    have qc3 := cell_blk hq3 3
    have qc4 := cell_blk hq3 4
    simp only [List.getElem?_toArray] at qc0 qc1 qc2 qc3 qc4
    have hld := box_load31 hq3
    clear hb hbx hB2 hlt hw3 hp hg hb3 hq3
    go_wp2
    (try simp only [Exit.inBlock, Exit.then])
    refine bodyPost_ret (box5_ret rfl _ _ (box5_set HBx.out _ _ _ _ _) rfl) rfl ⟨?_, box5_below HB.out HG.out _ _ _ _ _⟩
    rfl
  | some r =>
    obtain ⟨b, k, n⟩ := r
    rw [hpn] at HP
    simp only at HP ⊢
    have hn : n ≤ 9223372036854775807 := (pn_some hpn).2.2.2
    obtain ⟨m, hm⟩ : ∃ m, m = 9223372036854775807 - n := ⟨_, rfl⟩
    have HM : Hid ((m : Int) = 9223372036854775807 - (n : Int)) := by show _ = _; omega
    rw [← hm]
    clear hpn hm
    go_enter Tryd.func21, Tryd.ntmps21
    go_wp2_with fail
    refine (HP.out _).mono ?_
    rintro e w2 ⟨rfl, hb⟩
    have hbx := box5_stays hb
    have hB2 := alloc_below hb
    have hlt : w.heap.size < w2.heap.size := (Array.getElem?_eq_some_iff.1 hbx).1
    go_upto_region 2 with fail
    obtain ⟨w3, hw3⟩ : ∃ w3, w3 = w2.alloc (.cells #[.string ⟨b.toArray⟩, .string ⟨k.toArray⟩, .int .i64 (n : Int), .int .i64 0, .bool true] 31) := ⟨_, rfl⟩
    rw [← hw3]
    obtain ⟨p, hp⟩ : ∃ p, p = w2.heap.size := ⟨_, rfl⟩
    obtain ⟨g, hg⟩ : ∃ g, g = w.heap.size := ⟨_, rfl⟩
    rw [← hp, ← hg]
    have hb3 : w3.heap[g]? = some (.cells #[.string ⟨#[]⟩, .string ⟨#[]⟩, .int .i64 0, .int .i64 0, .bool false] 31 (0, 0)) := by rw [hw3, hg, heap_alloc_old w2 _ hlt]; exact hbx
    have hq3 : w3.heap[p]? = some (.cells #[.string ⟨b.toArray⟩, .string ⟨k.toArray⟩, .int .i64 (n : Int), .int .i64 0, .bool true] 31 (0, 0)) := by rw [hw3, hp]; exact heap_alloc_new w2 _
    have HB := (show Hid (Below w.heap.size w w3) by show Below _ _ _; rw [hw3]; exact hB2.alloc hB2.size _)
    have HG : Hid (w.heap.size ≤ g ∧ w.heap.size ≤ p ∧ g ≠ p) := by show _ ≤ _ ∧ _ ≤ _ ∧ _ ≠ _; omega
    have HQ := (show Hid (w3.heap[p]? = some (.cells #[.string ⟨b.toArray⟩, .string ⟨k.toArray⟩, .int .i64 (n : Int), .int .i64 0, .bool true] 31 (0, 0))) from hq3)
    have HG3 := (show Hid (w3.heap[g]? = some (.cells #[.string ⟨#[]⟩, .string ⟨#[]⟩, .int .i64 0, .int .i64 0, .bool false] 31 (0, 0))) from hb3)
    have qc0 := cell_blk hq3 0
    have qc1 := cell_blk hq3 1
    have qc2 := cell_blk hq3 2
    have qc3 := cell_blk hq3 3
    have qc4 := cell_blk hq3 4
    have qf0 := frozen_blk hq3 0
    have qf1 := frozen_blk hq3 1
    have qf2 := frozen_blk hq3 2
    have qf3 := frozen_blk hq3 3
    have qf4 := frozen_blk hq3 4
    simp only [List.getElem?_toArray] at qc0 qc1 qc2 qc3 qc4
    clear hb hbx hB2 hlt hw3 hp hg hb3 hq3
    go_upto_region 4 with fail
    obtain ⟨w4, hw4⟩ : ∃ w4, w4 = w3.setCell ⟨p, 2, none⟩ (.int .i64 (9223372036854775807 - (n : Int))) := ⟨_, rfl⟩
    rw [← hw4]
    have hq4 : w4.heap[p]? = some (.cells #[.string ⟨b.toArray⟩, .string ⟨k.toArray⟩, .int .i64 (9223372036854775807 - (n : Int)), .int .i64 0, .bool true] 31 (0, 0)) := by
      rw [hw4, set_blk HQ.out 2]
      rfl
    have hb4 : w4.heap[g]? = some (.cells #[.string ⟨#[]⟩, .string ⟨#[]⟩, .int .i64 0, .int .i64 0, .bool false] 31 (0, 0)) := by
      rw [hw4, Below.heap_setCell _ _ _ _ HG.out.2.2]
      exact HG3.out
    have HB4 := (show Hid (Below w.heap.size w w4) by show Below _ _ _; rw [hw4]; exact HB.out.setCell HG.out.2.1 _)
    have HBx := (show Hid _ from hb4)
    have hld := box_load31 hq4
    clear qc0 qc1 qc2 qc3 qc4 qf0 qf1 qf2 qf3 qf4
    have c0 := cell_blk hb4 0
    have c1 := cell_blk hb4 1
    have c2 := cell_blk hb4 2
    have c3 := cell_blk hb4 3
    have c4 := cell_blk hb4 4
    have f0 := frozen_blk hb4 0
    have f1 := frozen_blk hb4 1
    have f2 := frozen_blk hb4 2
    have f3 := frozen_blk hb4 3
    have f4 := frozen_blk hb4 4
    simp only [List.getElem?_toArray] at c0 c1 c2 c3 c4
    have qc0 := cell_blk hq4 0
    have qc1 := cell_blk hq4 1
    have qc2 := cell_blk hq4 2
    have qc3 := cell_blk hq4 3
    have qc4 := cell_blk hq4 4
    simp only [List.getElem?_toArray] at qc0 qc1 qc2 qc3 qc4
    clear hw4 hq4 hb4 HQ HG3 HB
    go_wp2
    (try simp only [Exit.inBlock, Exit.then])
    refine bodyPost_ret (box5_ret rfl _ _ (box5_set HBx.out _ _ _ _ _) rfl) rfl ⟨?_, box5_below HB4.out HG.out.1 _ _ _ _ _⟩
    rw [HM.out]
    rfl

theorem pt_head16 {T : List UInt8} {x : UInt8} (h : x ≠ 80) : pt (x :: T) = (0, 0, false) := pt_of (by
  rw [← Bool.not_eq_true]
  intro h2
  obtain ⟨U, hU⟩ := (pre_one 80 _).1 h2
  rw [List.cons.injEq] at hU
  exact h hU.1)
theorem pt_size {l : List UInt8} (h : l.length ≠ 17) : pt l = (0, 0, false) := by
  unfold pt
  rw [decide_eq_false h]
  simp
theorem ptV_eq {s n : Int} {ok : Bool} {r : Nat × Nat × Bool} (h1 : s = (r.1 : Int)) (h2 : n = (r.2.1 : Int)) (h3 : ok = r.2.2) :
    Ending.returned (.agg #[.string ⟨#[]⟩, .string ⟨#[]⟩, .int .i64 s, .int .i64 n, .bool ok]) = .returned (plV [] [] r.1 r.2.1 r.2.2) := by rw [h1, h2, h3]; rfl

set_option maxHeartbeats 2000000 in
theorem refParsePart_any (s : ByteArray) (w : World) :
    Calls Tryd.prog 25 #[.string s] w fun e w' => e = .returned (plV [] [] (pt s.data.toList).1 (pt s.data.toList).2.1 (pt s.data.toList).2.2) ∧ Below w.heap.size w w' := by
  have hl : s.data.toList.length = s.size := by simp
  by_cases h17 : s.size = 17
  · have hz : ((s.size : Int) != 17) = false := by simp; omega
    have hp0 : 0 < s.size := by omega
    by_cases h80 : s[0] = 80
    · have hn80 : ((s[0].toNat : Int) != 80) = false := by rw [h80]; rfl
      obtain ⟨T, hT⟩ : ∃ T, s.data.toList = 80 :: T := by
        cases hx : s.data.toList with
        | nil => rw [hx] at hl; simp at hl; omega
        | cons a r =>
          refine ⟨r, ?_⟩
          have h1 : s.data.toList[0]'(by omega) = s[0] := rfl
          have h2 : s.data.toList[0]'(by omega) = a := by simp only [hx]; rfl
          rw [show a = 80 from h2.symm.trans (h1.trans h80)]
      have hTl : T.length = 16 := by rw [hT] at hl; simp at hl; omega
      have hA : (s.extract 1 9).data.toList = T.take 8 := by
        rw [extract_piece, hT]
        simp [pieceL]
      have hB : (s.extract 9 s.size).data.toList = T.drop 8 := by rw [extract_drop, hT]; rfl
      have HG : Hid (∀ W, Calls Tryd.prog 43 #[.string (s.extract 1 9)] W fun e w' => e = .returned (.tuple #[.int .i64 (gn (T.take 8) : Nat), .bool (gnOk (T.take 8))]) ∧ Below W.heap.size W w') := fun W => by
        have := refGet_any (s.extract 1 9) W (by simp; omega)
        rw [hA] at this
        exact this
      have HH : Hid (∀ W, Calls Tryd.prog 43 #[.string (s.extract 9 s.size)] W fun e w' => e = .returned (.tuple #[.int .i64 (gn (T.drop 8) : Nat), .bool (gnOk (T.drop 8))]) ∧ Below W.heap.size W w') := fun W => by
        have := refGet_any (s.extract 9 s.size) W (by simp; omega)
        rw [hB] at this
        exact this
      have HN := (show Hid (pt (80 :: T) = if gnOk (T.take 8) && gnOk (T.drop 8) then (gn (T.take 8), gn (T.drop 8), true) else (0, 0, false)) from pt_cons hTl)
      rw [hT]
      generalize gnOk (T.take 8) = q1 at *
      generalize gnOk (T.drop 8) = q2 at *
      generalize gn (T.take 8) = n1 at *
      generalize gn (T.drop 8) = n2 at *
      have h1 : (9 : Int) ≤ (s.size : Int) := by omega
      have h2 : 9 ≤ s.size := by omega
      clear hA hB hT hTl hl h17 h80
      go_enter Tryd.func25, Tryd.ntmps25
      go_wp2_with fail
      refine (HG.out _).mono ?_
      rintro e w2 ⟨rfl, hb2⟩
      go_wp2_with fail
      refine (HH.out _).mono ?_
      rintro e w3 ⟨rfl, hb3⟩
      have hb := step_below hb2 hb3 (Nat.le_refl _)
      have hbx := box5_stays hb
      have HB := (show Hid (Below w.heap.size w w3) from alloc_below hb)
      have HBx := (show Hid _ from hbx)
      have c0 := cell_blk hbx 0
      have c1 := cell_blk hbx 1
      have c2 := cell_blk hbx 2
      have c3 := cell_blk hbx 3
      have c4 := cell_blk hbx 4
      have f0 := frozen_blk hbx 0
      have f1 := frozen_blk hbx 1
      have f2 := frozen_blk hbx 2
      have f3 := frozen_blk hbx 3
      have f4 := frozen_blk hbx 4
      simp only [List.getElem?_toArray] at c0 c1 c2 c3 c4
      clear hb2 hb3 hb hbx
      cases q1
      · go_wp2
        (try simp only [Exit.inBlock, Exit.then])
        refine bodyPost_ret (box5_ret rfl _ _ (box5_set HBx.out _ _ _ _ _) rfl) rfl ⟨?_, box5_below HB.out (Nat.le_refl _) _ _ _ _ _⟩
        rw [HN.out]
        rfl
      · cases q2
        · go_wp2
          (try simp only [Exit.inBlock, Exit.then])
          refine bodyPost_ret (box5_ret rfl _ _ (box5_set HBx.out _ _ _ _ _) rfl) rfl ⟨?_, box5_below HB.out (Nat.le_refl _) _ _ _ _ _⟩
          rw [HN.out]
          rfl
        · go_wp2
          (try simp only [Exit.inBlock, Exit.then])
          refine bodyPost_ret (box5_ret rfl _ _ (box5_set HBx.out _ _ _ _ _) rfl) rfl ⟨?_, box5_below HB.out (Nat.le_refl _) _ _ _ _ _⟩
          rw [HN.out]
          rfl
    · have hn80 : ((s[0].toNat : Int) != 80) = true := by
        have : s[0].toNat ≠ 80 := fun e => h80 (UInt8.toNat_inj.1 (by rw [e]; rfl))
        simp
        omega
      have HN : Hid (pt s.data.toList = (0, 0, false)) := by
        show _ = _
        cases hx : s.data.toList with
        | nil => rw [hx] at hl; simp at hl; omega
        | cons a r =>
          refine pt_head16 ?_
          intro e
          have h1 : s.data.toList[0]'(by omega) = s[0] := rfl
          have h2 : s.data.toList[0]'(by omega) = a := by simp only [hx]; rfl
          exact h80 (h1.symm.trans (h2.trans e))
      clear hl h17 h80
      go_enter Tryd.func25, Tryd.ntmps25
      go_wp2
      (try simp only [Exit.inBlock, Exit.then])
      refine bodyPost_ret (box5_ret rfl _ _ (heap_alloc_new w _) rfl) rfl ⟨?_, (Below.refl _ w).alloc (Nat.le_refl _) _⟩
      rw [HN.out]
      rfl
  · have hz : ((s.size : Int) != 17) = true := by simp; omega
    have HN : Hid (pt s.data.toList = (0, 0, false)) := pt_size (by omega)
    clear hl h17
    go_enter Tryd.func25, Tryd.ntmps25
    go_wp2
    (try simp only [Exit.inBlock, Exit.then])
    refine bodyPost_ret (box5_ret rfl _ _ (heap_alloc_new w _) rfl) rfl ⟨?_, (Below.refl _ w).alloc (Nat.le_refl _) _⟩
    rw [HN.out]
    rfl
end Go.Proofs.YtaagnckppdaljaaDoor
