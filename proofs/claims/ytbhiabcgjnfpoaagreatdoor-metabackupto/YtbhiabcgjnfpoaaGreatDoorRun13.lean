/-
  meta's keys: what reads them, the code's side.
-/
import Derived.Test.YtbhiabcgjnfpoaaGreatDoorRun11
import Derived.Test.YtbhiabcgjnfpoaaGreatDoorRun12
import Derived.Deep.QuietTactic
import Derived.BigQuiet
namespace Go.Proofs.YtbhiabcgjnfpoaaGreatDoor
open Go.RowKit

theorem results_tmp4 {fn : Func} {t u v x : Tmp} (h : fn.results = #[.tmp t, .tmp u, .tmp v, .tmp x]) (tmps : Array Value) (P : Program) (w : World) :
    (results fn tmps).run P w = .ok (.tuple #[tmps.getD t undef, tmps.getD u undef, tmps.getD v undef, tmps.getD x undef]) w := by
  simp [results, h]

theorem gn_yes {l : List UInt8} (h1 : En.g64Ok l = true) (h2 : En.g64 l ≤ 9223372036854775807) : gnOk l = true ∧ gn l = En.g64 l := by
  have : gnOk l = true := by unfold gnOk; rw [h1]; simpa using h2
  exact ⟨this, by unfold gn; rw [if_pos this]⟩
theorem gn_no1 {l : List UInt8} (h1 : En.g64Ok l = false) : gnOk l = false ∧ gn l = 0 := by
  have : gnOk l = false := by unfold gnOk; rw [h1]; rfl
  exact ⟨this, by unfold gn; rw [this]; rfl⟩
theorem gn_no2 {l : List UInt8} (h2 : ¬ En.g64 l ≤ 9223372036854775807) : gnOk l = false ∧ gn l = 0 := by
  have : gnOk l = false := by unfold gnOk; rw [decide_eq_false h2, Bool.and_false]
  exact ⟨this, by unfold gn; rw [this]; rfl⟩
theorem ret_ib2 {a b : Int} {p q : Bool} (h : a = b) (g : p = q) : Ending.returned (.tuple #[.int .i64 a, .bool p]) = .returned (.tuple #[.int .i64 b, .bool q]) := by rw [h, g]

set_option maxRecDepth 20000 in
set_option maxHeartbeats 1000000 in
theorem getNumber_any (s : ByteArray) (w : World) (hs : s.size ≤ 140737488351232) :
    Calls Tryz.prog 76 #[.string s] w fun e w' => e = .returned (.tuple #[.int .i64 (gn s.data.toList : Nat), .bool (gnOk s.data.toList)]) ∧ Below w.heap.size w w' := by
  obtain ⟨W1, cap, hcv, hbs, hb⟩ := conv_new s w
  have hl : s.data.toList.length ≤ 140737488351232 := by simpa using hs
  have HG : Hid (Calls Tryz.prog 108 #[.slice (some ⟨w.heap.size, 0, none⟩) s.data.toList.length cap] W1 fun e w' => e = .returned (.tuple #[.int .u64 (En.g64 s.data.toList : Nat), .bool (En.g64Ok s.data.toList)]) ∧ W1 = w') := En.get64_any _ _ _ _ hl hbs
  clear hbs hs
  cases h1 : En.g64Ok s.data.toList
  · have HN := (show Hid (gnOk s.data.toList = false ∧ gn s.data.toList = 0) from gn_no1 h1)
    rw [h1] at HG
    clear h1
    generalize En.g64 s.data.toList = g at *
    go_enter Tryz.func76, Tryz.ntmps76
    go_wp2_with fail
    refine HG.out.mono ?_
    rintro e w1 ⟨rfl, rfl⟩
    go_wp2
    go_ret2
    exact ⟨ret_ib2 (by rw [HN.out.2]; rfl) HN.out.1.symm, hb⟩
  · by_cases h2 : En.g64 s.data.toList ≤ 9223372036854775807
    · have HN := (show Hid (gnOk s.data.toList = true ∧ gn s.data.toList = En.g64 s.data.toList) from gn_yes h1 h2)
      rw [h1] at HG
      clear h1
      generalize En.g64 s.data.toList = g at *
      have h3 : ¬ ((g : Int) > 9223372036854775807) := by omega
      go_enter Tryz.func76, Tryz.ntmps76
      go_wp2_with fail
      refine HG.out.mono ?_
      rintro e w1 ⟨rfl, rfl⟩
      go_wp2
      go_ret2
      exact ⟨ret_ib2 (by rw [HN.out.2]) HN.out.1.symm, hb⟩
    · have HN := (show Hid (gnOk s.data.toList = false ∧ gn s.data.toList = 0) from gn_no2 h2)
      rw [h1] at HG
      clear h1
      generalize En.g64 s.data.toList = g at *
      have h3 : (g : Int) > 9223372036854775807 := by omega
      go_enter Tryz.func76, Tryz.ntmps76
      go_wp2_with fail
      refine HG.out.mono ?_
      rintro e w1 ⟨rfl, rfl⟩
      go_wp2
      go_ret2
      exact ⟨ret_ib2 (by rw [HN.out.2]; rfl) HN.out.1.symm, hb⟩

theorem bytes_toList (s : ByteArray) : s.toList = s.data.toList := Lib.toList_data s

set_option maxRecDepth 20000 in
set_option maxHeartbeats 1000000 in
theorem index0_any (s : ByteArray) (w : World) :
    Calls Tryz.prog 134 #[.string s, .string ⟨#[0]⟩] w fun e w' => e = .returned (.int .i64 (Lib.indexByte s.data.toList 0)) ∧ w = w' := by
  have HI : Hid (∀ W, Calls Tryz.prog 143 #[.string s, .int .u8 0] W fun e w' => e = .returned (.int .i64 (Lib.indexByte s.data.toList 0)) ∧ w' = W) := fun W => stringslite_IndexByte s 0 W
  cases he : (([0] : List UInt8) == s.toList)
  · generalize Lib.indexByte s.data.toList 0 = x at *
    go_enter Tryz.func134, Tryz.ntmps134
    go_wp2_with (go_at_call 143; refine (HI.out _).mono ?_; rintro e w' ⟨rfl, rfl⟩)
    go_ret
    exact ⟨rfl, rfl⟩
  · have HX : Hid (Lib.indexByte s.data.toList 0 = 0) := by
      show _ = _
      rw [beq_iff_eq, bytes_toList] at he
      rw [← he]
      rfl
    generalize Lib.indexByte s.data.toList 0 = x at *
    go_enter Tryz.func134, Tryz.ntmps134
    go_wp2_with (go_at_call 143; refine (HI.out _).mono ?_; rintro e w' ⟨rfl, rfl⟩)
    go_ret
    exact ⟨by rw [HX.out]; rfl, rfl⟩

theorem below_drewN (B : Nat) (w : World) (n : Nat) : Below B w (w.drewN n) := ⟨rfl, rfl, rfl, Nat.le_refl _, fun _ _ => rfl⟩
theorem ret_cut {a b c d : ByteArray} {p : Bool} (h : a = b) (g : c = d) : Ending.returned (.tuple #[.string a, .string c, .bool p]) = .returned (.tuple #[.string b, .string d, .bool p]) := by rw [h, g]
theorem ext_take (s : ByteArray) (k : Nat) : s.extract 0 k = ⟨(s.data.toList.take k).toArray⟩ := ba_of (by
  simp only [ByteArray.data_extract, Array.toList_extract, List.extract_eq_take_drop]
  simp)
theorem ext_drop (s : ByteArray) (k : Nat) : s.extract k s.size = ⟨(s.data.toList.drop k).toArray⟩ := ba_of (extract_drop s k)

set_option maxRecDepth 20000 in
set_option maxHeartbeats 1000000 in
theorem cut0_any (s : ByteArray) (w : World) (hs : s.size ≤ 562949953421312) :
    Calls Tryz.prog 124 #[.string s, .string ⟨#[0]⟩] w fun e w' => e = .returned (.tuple #[.string ⟨(bz s.data.toList).toArray⟩, .string ⟨(az s.data.toList).toArray⟩, .bool (hzb s.data.toList)]) ∧ Below w.heap.size w w' := by
  have HI : Hid (∀ W, Calls Tryz.prog 134 #[.string s, .string ⟨#[0]⟩] W fun e w' => e = .returned (.int .i64 (Lib.indexByte s.data.toList 0)) ∧ W = w') := fun W => index0_any s W
  have hl : s.data.toList.length = s.size := by simp
  cases h : hzb s.data.toList
  · rw [idx0, h] at HI
    have HB : Hid (bz s.data.toList = s.data.toList ∧ az s.data.toList = []) := ⟨hzb_no h, by unfold az; rw [h]; rfl⟩
    clear h hl
    go_enter Tryz.func124, Tryz.ntmps124
    go_wp2_with (go_at_call 134; refine (HI.out _).mono ?_; rintro e w' ⟨rfl, rfl⟩)
    go_ret3
    refine ⟨ret_cut ?_ ?_, Below.refl _ _⟩
    · rw [HB.out.1]
    · rw [HB.out.2]
  · rw [idx0, h, if_pos rfl] at HI
    have h1 := bz_lt h
    have HB : Hid (bz s.data.toList = s.data.toList.take (bz s.data.toList).length ∧ az s.data.toList = s.data.toList.drop ((bz s.data.toList).length + 1)) := ⟨bz_take _, by unfold az; rw [h]; rfl⟩
    obtain ⟨j, hj⟩ : ∃ j, (bz s.data.toList).length = j := ⟨_, rfl⟩
    rw [hj] at HI h1 HB
    have hjs : j + 1 ≤ s.size := by omega
    have hjI : (j : Int) + 1 ≤ (s.size : Int) := by omega
    clear h hl hj h1
    go_enter Tryz.func124, Tryz.ntmps124
    go_wp2_with fail
    refine (HI.out _).mono ?_
    rintro e w' ⟨rfl, rfl⟩
    go_wp2_with fail
    go_quiet (fail)
    go_wp2
    go_ret3
    refine ⟨ret_cut ?_ ?_, below_drewN _ _ _⟩
    · rw [HB.out.1]; exact ext_take s j
    · rw [HB.out.2]; exact ext_drop s (j + 1)
theorem strCut_any (s : ByteArray) (w : World) (hs : s.size ≤ 562949953421312) :
    Calls Tryz.prog 113 #[.string s, .string ⟨#[0]⟩] w fun e w' => e = .returned (.tuple #[.string ⟨(bz s.data.toList).toArray⟩, .string ⟨(az s.data.toList).toArray⟩, .bool (hzb s.data.toList)]) ∧ Below w.heap.size w w' := by
  have HI : Hid (∀ W, Calls Tryz.prog 124 #[.string s, .string ⟨#[0]⟩] W fun e w' => e = .returned (.tuple #[.string ⟨(bz s.data.toList).toArray⟩, .string ⟨(az s.data.toList).toArray⟩, .bool (hzb s.data.toList)]) ∧ Below W.heap.size W w') := fun W => cut0_any s W hs
  go_enter Tryz.func113, Tryz.ntmps113
  go_wp2_with fail
  refine (HI.out _).mono ?_
  rintro e w' ⟨rfl, hb⟩
  go_wp2
  go_ret3
  exact ⟨rfl, hb⟩

/-- What a call that parses tells. -/
noncomputable def pnV (c : UInt8) (l : List UInt8) : Value :=
  match pn c l with
  | some (b, k, n) => .tuple #[.string ⟨b.toArray⟩, .string ⟨k.toArray⟩, .int .i64 (n : Nat), .bool true]
  | none => .tuple #[.string ⟨#[]⟩, .string ⟨#[]⟩, .int .i64 0, .bool false]
theorem pnV_no {c : UInt8} {l : List UInt8} (h : ∀ b k n, ¬ NK c l b k n) : Ending.returned (.tuple #[.string ⟨#[]⟩, .string ⟨#[]⟩, .int .i64 0, .bool false]) = .returned (pnV c l) := by
  unfold pnV
  rw [pn_no h]
theorem pnV_yes {c : UInt8} {l b k : List UInt8} {n : Nat} (h : NK c l b k n) : Ending.returned (.tuple #[.string ⟨b.toArray⟩, .string ⟨k.toArray⟩, .int .i64 (n : Nat), .bool true]) = .returned (pnV c l) := by
  unfold pnV
  rw [pn_yes h]

set_option maxHeartbeats 2000000 in
theorem parseNamed_any (c : UInt8) (s : ByteArray) (w : World) (hs : s.size ≤ 562949953421312) (hm : Mx w) :
    Calls Tryz.prog 81 #[.string ⟨#[c]⟩, .string s] w fun e w' => e = .returned (pnV c s.data.toList) ∧ Below w.heap.size w w' := by
  have HP : Hid (∀ W, Calls Tryz.prog 75 #[.string s, .string ⟨#[c]⟩] W fun e w' => e = .returned (.tuple #[.string ⟨(Lib.trimPrefix s.data.toList [c]).toArray⟩, .bool (Lib.hasPrefix s.data.toList [c])]) ∧ w' = W) := fun W => strings_CutPrefix s ⟨#[c]⟩ W
  have hl : s.data.toList.length = s.size := by simp
  cases hp : Lib.hasPrefix s.data.toList [c]
  · have HN := (show Hid (∀ b k n, ¬ NK c s.data.toList b k n) from cd_kind c hp)
    rw [hp] at HP
    clear hp hl hm
    go_enter Tryz.func81, Tryz.ntmps81
    go_wp2_with fail
    refine (HP.out _).mono ?_
    rintro e w1 ⟨rfl, rfl⟩
    go_wp2
    (try simp only [Exit.inBlock, Exit.then])
    refine bodyPost_ret (results_tmp4 rfl _ _ _) rfl ?_
    exact ⟨pnV_no HN.out, Below.refl _ _⟩
  · obtain ⟨T, hT⟩ := (pre_one c _).1 hp
    rw [hp, hT, trim_one] at HP
    rw [hT]
    rw [hT, List.length_cons] at hl
    clear hp hT
    obtain ⟨t, ht⟩ : ∃ t : ByteArray, t = ⟨T.toArray⟩ := ⟨_, rfl⟩
    have htl : t.data.toList = T := by rw [ht]
    have hts : t.size = T.length := ba_len htl
    rw [← ht] at HP
    by_cases h8 : T.length < 8
    · have HN := (show Hid (∀ b k n, ¬ NK c (c :: T) b k n) from cd_short c h8)
      have h8' : (t.size : Int) < 8 := by omega
      clear hl ht htl hts h8 hm
      go_enter Tryz.func81, Tryz.ntmps81
      go_wp2_with fail
      refine (HP.out _).mono ?_
      rintro e w1 ⟨rfl, rfl⟩
      go_wp2
      (try simp only [Exit.inBlock, Exit.then])
      refine bodyPost_ret (results_tmp4 rfl _ _ _) rfl ?_
      exact ⟨pnV_no HN.out, Below.refl _ _⟩
    · obtain ⟨e8, he8⟩ : ∃ j : Nat, t.size = j + 8 := ⟨t.size - 8, by omega⟩
      have hA : (t.extract e8 t.size).data.toList = cdN T := by rw [extract_drop, htl]; unfold cdN; rw [show T.length - 8 = e8 by omega]
      have hB : (t.extract 0 e8).data.toList = cdP T := by rw [ext_take, htl]; unfold cdP; rw [show T.length - 8 = e8 by omega]
      have sA : (t.extract e8 t.size).size ≤ 140737488351232 := by simp; omega
      have sB : (t.extract 0 e8).size ≤ 562949953421312 := by simp; omega
      have HG : Hid (∀ W, Calls Tryz.prog 76 #[.string (t.extract e8 t.size)] W fun e w' => e = .returned (.tuple #[.int .i64 (gn (cdN T) : Nat), .bool (gnOk (cdN T))]) ∧ Below W.heap.size W w') := fun W => by
        have := getNumber_any (t.extract e8 t.size) W sA
        rw [hA] at this
        exact this
      have HS : Hid (∀ W, Calls Tryz.prog 112 #[.string (t.extract 0 e8), .string ⟨#[0]⟩] W fun e w' => e = .returned (.tuple #[.string ⟨(cdQ T).toArray⟩, .bool (Lib.hasSuffix (cdP T) [0])]) ∧ w' = W) := fun W => by
        have := strings_CutSuffix (t.extract 0 e8) ⟨#[0]⟩ W (by omega)
        rw [hB] at this
        exact this
      have hq : (cdQ T).length ≤ T.length := by
        unfold cdQ Lib.trimSuffix cdP
        split <;> simp <;> omega
      have HC : Hid (∀ W, Calls Tryz.prog 113 #[.string ⟨(cdQ T).toArray⟩, .string ⟨#[0]⟩] W fun e w' => e = .returned (.tuple #[.string ⟨(bz (cdQ T)).toArray⟩, .string ⟨(az (cdQ T)).toArray⟩, .bool (hzb (cdQ T))]) ∧ Below W.heap.size W w') := fun W => strCut_any ⟨(cdQ T).toArray⟩ W (by simp [ByteArray.size]; omega)
      have hbl := bz_len (cdQ T)
      have hal := az_len (cdQ T)
      have HBk : Hid (∀ W, Mx W → Calls Tryz.prog 114 #[.string ⟨(bz (cdQ T)).toArray⟩] W fun e w' => e = .returned (.bool (bucketB (bz (cdQ T)))) ∧ Below W.heap.size W w') := fun W h => bucket_any ⟨(bz (cdQ T)).toArray⟩ W (by simp [ByteArray.size]; unfold maxLen; omega) h
      have HK : Hid (∀ W, Calls Tryz.prog 115 #[.string ⟨(az (cdQ T)).toArray⟩] W fun e w' => e = .returned (.bool (keyB (az (cdQ T)))) ∧ Below W.heap.size W w') := fun W => key_any ⟨(az (cdQ T)).toArray⟩ W (by simp [ByteArray.size]; unfold maxLen; omega)
      have HY : Hid (cdOk T = true → NK c (c :: T) (bz (cdQ T)) (az (cdQ T)) (gn (cdN T))) := cd_yes c
      have HN : Hid (cdOk T = false → ∀ b k n, ¬ NK c (c :: T) b k n) := cd_no c
      have HO : Hid (cdOk T = (gnOk (cdN T) && (Lib.hasSuffix (cdP T) [0] && (hzb (cdQ T) && (bucketB (bz (cdQ T)) && keyB (az (cdQ T))))))) := rfl
      generalize gnOk (cdN T) = q1 at *
      generalize Lib.hasSuffix (cdP T) [0] = q2 at *
      generalize hzb (cdQ T) = q3 at *
      generalize bucketB (bz (cdQ T)) = q4 at *
      generalize keyB (az (cdQ T)) = q5 at *
      generalize bz (cdQ T) = B at *
      generalize az (cdQ T) = A at *
      generalize cdQ T = Q at *
      generalize gn (cdN T) = n at *
      have h8a : ¬ ((t.size : Int) < 8) := by omega
      have h8b : (t.size : Int) - 8 = (e8 : Int) := by omega
      have h8c : (e8 : Int) ≤ (t.size : Int) := by omega
      have h8d : e8 ≤ t.size := by omega
      have htb : t.size ≤ 562949953421312 := by omega
      clear hA hB sA sB hq hbl hal hl ht htl hts h8 he8
      go_enter Tryz.func81, Tryz.ntmps81
      go_wp2_with fail
      refine (HP.out _).mono ?_
      rintro e w1 ⟨rfl, rfl⟩
      go_wp2_with fail
      refine (HG.out _).mono ?_
      rintro e w2 ⟨rfl, hb2⟩
      go_wp2_with fail
      refine (HS.out _).mono ?_
      rintro e w3 ⟨rfl, rfl⟩
      go_wp2_with fail
      refine (HC.out _).mono ?_
      rintro e w4 ⟨rfl, hb4⟩
      have B4 := step_below hb2 hb4 (Nat.le_refl _)
      clear hb2 hb4
      cases q1
      · go_wp2
        (try simp only [Exit.inBlock, Exit.then])
        refine bodyPost_ret (results_tmp4 rfl _ _ _) rfl ?_
        exact ⟨pnV_no (HN.out (by rw [HO.out]; rfl)), B4⟩
      · cases q2
        · go_wp2
          (try simp only [Exit.inBlock, Exit.then])
          refine bodyPost_ret (results_tmp4 rfl _ _ _) rfl ?_
          exact ⟨pnV_no (HN.out (by rw [HO.out]; rfl)), B4⟩
        · cases q3
          · go_wp2
            (try simp only [Exit.inBlock, Exit.then])
            refine bodyPost_ret (results_tmp4 rfl _ _ _) rfl ?_
            exact ⟨pnV_no (HN.out (by rw [HO.out]; rfl)), B4⟩
          · go_wp2_with fail
            refine (HBk.out _ (hm.below B4 (Nat.le_refl _))).mono ?_
            rintro e w5 ⟨rfl, hb5⟩
            have B5 := step_below B4 hb5 (Nat.le_refl _)
            clear B4 hb5
            cases q4
            · go_wp2
              (try simp only [Exit.inBlock, Exit.then])
              refine bodyPost_ret (results_tmp4 rfl _ _ _) rfl ?_
              exact ⟨pnV_no (HN.out (by rw [HO.out]; rfl)), B5⟩
            · go_wp2_with fail
              refine (HK.out _).mono ?_
              rintro e w6 ⟨rfl, hb6⟩
              have B6 := step_below B5 hb6 (Nat.le_refl _)
              clear B5 hb6
              cases q5
              · go_wp2
                (try simp only [Exit.inBlock, Exit.then])
                refine bodyPost_ret (results_tmp4 rfl _ _ _) rfl ?_
                exact ⟨pnV_no (HN.out (by rw [HO.out]; rfl)), B6⟩
              · go_wp2
                (try simp only [Exit.inBlock, Exit.then])
                refine bodyPost_ret (results_tmp4 rfl _ _ _) rfl ?_
                exact ⟨pnV_yes (HY.out (by rw [HO.out]; rfl)), B6⟩

/-- What ParseObject tells: the numbers turned round. -/
noncomputable def poV (l : List UInt8) : Value :=
  match pn 79 l with
  | some (b, k, n) => .tuple #[.string ⟨b.toArray⟩, .string ⟨k.toArray⟩, .int .i64 ((9223372036854775807 - n : Nat) : Int), .bool true]
  | none => .tuple #[.string ⟨#[]⟩, .string ⟨#[]⟩, .int .i64 0, .bool false]
theorem ret4 {a b : ByteArray} {x y : Int} {q : Bool} (h : x = y) : Ending.returned (.tuple #[.string a, .string b, .int .i64 x, .bool q]) = .returned (.tuple #[.string a, .string b, .int .i64 y, .bool q]) := by rw [h]

theorem parseObject_any (s : ByteArray) (w : World) (hs : s.size ≤ 562949953421312) (hm : Mx w) :
    Calls Tryz.prog 27 #[.string s] w fun e w' => e = .returned (poV s.data.toList) ∧ Below w.heap.size w w' := by
  have HP : Hid (Calls Tryz.prog 81 #[.string ⟨#[79]⟩, .string s] w fun e w' => e = .returned (pnV 79 s.data.toList) ∧ Below w.heap.size w w') := parseNamed_any 79 s w hs hm
  clear hm
  unfold pnV at HP
  unfold poV
  cases hpn : pn 79 s.data.toList with
  | none =>
    rw [hpn] at HP
    simp only at HP ⊢
    clear hpn
    go_enter Tryz.func27, Tryz.ntmps27
    go_wp2_with fail
    refine HP.out.mono ?_
    rintro e w1 ⟨rfl, hb⟩
    go_wp2
    (try simp only [Exit.inBlock, Exit.then])
    refine bodyPost_ret (results_tmp4 rfl _ _ _) rfl ?_
    exact ⟨rfl, hb⟩
  | some r =>
    obtain ⟨b, k, n⟩ := r
    rw [hpn] at HP
    simp only at HP ⊢
    have hn : n ≤ 9223372036854775807 := (pn_some hpn).2.2.2
    obtain ⟨m, hm⟩ : ∃ m, m = 9223372036854775807 - n := ⟨_, rfl⟩
    have HB : Hid (∀ W, Calls Tryz.prog 82 #[.int .i64 (n : Int)] W fun e w' => e = .returned (.int .i64 (m : Int)) ∧ W = w') := fun W => newestFirst_any n m W (show n + m = 9223372036854775807 by omega)
    rw [← hm]
    clear hpn hm
    go_enter Tryz.func27, Tryz.ntmps27
    go_wp2_with fail
    refine HP.out.mono ?_
    rintro e w1 ⟨rfl, hb⟩
    go_wp2_with fail
    refine (HB.out _).mono ?_
    rintro e w1 ⟨rfl, rfl⟩
    go_wp2
    (try simp only [Exit.inBlock, Exit.then])
    refine bodyPost_ret (results_tmp4 rfl _ _ _) rfl ?_
    exact ⟨rfl, hb⟩

theorem bk_of {l : List UInt8} (h : Lib.hasPrefix l [66] = false) : bkOk l = false ∧ bkV l = [] := by
  have : bkOk l = false := by unfold bkOk; rw [h]; rfl
  exact ⟨this, by unfold bkV; rw [this]; rfl⟩
theorem bk_cons (T : List UInt8) : bkOk (66 :: T) = bucketB T := by
  unfold bkOk
  rw [(pre_one 66 _).2 ⟨T, rfl⟩]
  rfl
theorem bkV_yes {T : List UInt8} (h : bucketB T = true) : bkV (66 :: T) = T := by
  unfold bkV
  rw [bk_cons, h]
  rfl
theorem bkV_no {T : List UInt8} (h : bucketB T = false) : bkV (66 :: T) = [] := by
  unfold bkV
  rw [bk_cons, h]
  rfl

theorem pt_of {l : List UInt8} (h : Lib.hasPrefix l [80] = false) : pt l = (0, 0, false) := by
  unfold pt
  rw [h]
  rfl
theorem pt_len {T : List UInt8} (h : T.length ≠ 16) : pt (80 :: T) = (0, 0, false) := by
  unfold pt
  rw [if_neg]
  simp
  intro _ h2
  exact absurd h2 h
theorem pt_cons {T : List UInt8} (h : T.length = 16) : pt (80 :: T) = if gnOk (T.take 8) && gnOk (T.drop 8) then (gn (T.take 8), gn (T.drop 8), true) else (0, 0, false) := by
  unfold pt
  rw [(pre_one 80 _).2 ⟨T, rfl⟩, List.length_cons, h]
  rfl
theorem ret_pt {a b c d : Int} {p q : Bool} (h : a = b) (g : c = d) (k : p = q) : Ending.returned (.tuple #[.int .i64 a, .int .i64 c, .bool p]) = .returned (.tuple #[.int .i64 b, .int .i64 d, .bool q]) := by rw [h, g, k]

set_option maxRecDepth 20000 in
set_option maxHeartbeats 1000000 in
theorem parsePart_any (s : ByteArray) (w : World) :
    Calls Tryz.prog 23 #[.string s] w fun e w' => e = .returned (.tuple #[.int .i64 ((pt s.data.toList).1 : Nat), .int .i64 ((pt s.data.toList).2.1 : Nat), .bool (pt s.data.toList).2.2]) ∧ Below w.heap.size w w' := by
  have HP : Hid (∀ W, Calls Tryz.prog 75 #[.string s, .string ⟨#[80]⟩] W fun e w' => e = .returned (.tuple #[.string ⟨(Lib.trimPrefix s.data.toList [80]).toArray⟩, .bool (Lib.hasPrefix s.data.toList [80])]) ∧ w' = W) := fun W => strings_CutPrefix s ⟨#[80]⟩ W
  cases hp : Lib.hasPrefix s.data.toList [80]
  · have HN := (show Hid (pt s.data.toList = (0, 0, false)) from pt_of hp)
    rw [hp] at HP
    clear hp
    go_enter Tryz.func23, Tryz.ntmps23
    go_wp2_with fail
    refine (HP.out _).mono ?_
    rintro e w1 ⟨rfl, rfl⟩
    go_wp2
    go_ret3
    exact ⟨ret_pt (by rw [HN.out]; rfl) (by rw [HN.out]; rfl) (by rw [HN.out]), Below.refl _ _⟩
  · obtain ⟨T, hT⟩ := (pre_one 80 _).1 hp
    rw [hp, hT, trim_one] at HP
    rw [hT]
    clear hp hT
    obtain ⟨t, ht⟩ : ∃ t : ByteArray, t = ⟨T.toArray⟩ := ⟨_, rfl⟩
    have htl : t.data.toList = T := by rw [ht]
    have hts : t.size = T.length := ba_len htl
    rw [← ht] at HP
    by_cases h16 : T.length = 16
    · have hA : (t.extract 0 8).data.toList = T.take 8 := by rw [ext_take, htl]
      have hB : (t.extract 8 t.size).data.toList = T.drop 8 := by rw [extract_drop, htl]
      have HG : Hid (∀ W, Calls Tryz.prog 76 #[.string (t.extract 0 8)] W fun e w' => e = .returned (.tuple #[.int .i64 (gn (T.take 8) : Nat), .bool (gnOk (T.take 8))]) ∧ Below W.heap.size W w') := fun W => by
        have := getNumber_any (t.extract 0 8) W (by simp; omega)
        rw [hA] at this
        exact this
      have HH : Hid (∀ W, Calls Tryz.prog 76 #[.string (t.extract 8 t.size)] W fun e w' => e = .returned (.tuple #[.int .i64 (gn (T.drop 8) : Nat), .bool (gnOk (T.drop 8))]) ∧ Below W.heap.size W w') := fun W => by
        have := getNumber_any (t.extract 8 t.size) W (by simp; omega)
        rw [hB] at this
        exact this
      have HN := (show Hid (pt (80 :: T) = if gnOk (T.take 8) && gnOk (T.drop 8) then (gn (T.take 8), gn (T.drop 8), true) else (0, 0, false)) from pt_cons h16)
      generalize gnOk (T.take 8) = q1 at *
      generalize gnOk (T.drop 8) = q2 at *
      generalize gn (T.take 8) = n1 at *
      generalize gn (T.drop 8) = n2 at *
      have hz : ((t.size : Int) != 16) = false := by simp; omega
      have h1 : (8 : Int) ≤ (t.size : Int) := by omega
      have h2 : 8 ≤ t.size := by omega
      clear hA hB ht htl hts h16
      go_enter Tryz.func23, Tryz.ntmps23
      go_wp2_with fail
      refine (HP.out _).mono ?_
      rintro e w1 ⟨rfl, rfl⟩
      go_wp2_with fail
      refine (HG.out _).mono ?_
      rintro e w2 ⟨rfl, hb2⟩
      go_wp2_with fail
      refine (HH.out _).mono ?_
      rintro e w3 ⟨rfl, hb3⟩
      have B3 := step_below hb2 hb3 (Nat.le_refl _)
      clear hb2 hb3
      cases q1
      · go_wp2
        go_ret3
        exact ⟨ret_pt (by rw [HN.out]; rfl) (by rw [HN.out]; rfl) (by rw [HN.out]; rfl), B3⟩
      · cases q2
        · go_wp2
          go_ret3
          exact ⟨ret_pt (by rw [HN.out]; rfl) (by rw [HN.out]; rfl) (by rw [HN.out]; rfl), B3⟩
        · go_wp2
          go_ret3
          exact ⟨ret_pt (by rw [HN.out]; rfl) (by rw [HN.out]; rfl) (by rw [HN.out]; rfl), B3⟩
    · have HN := (show Hid (pt (80 :: T) = (0, 0, false)) from pt_len h16)
      have hz : ((t.size : Int) != 16) = true := by simp; omega
      clear ht htl hts h16
      go_enter Tryz.func23, Tryz.ntmps23
      go_wp2_with fail
      refine (HP.out _).mono ?_
      rintro e w1 ⟨rfl, rfl⟩
      go_wp2
      go_ret3
      exact ⟨ret_pt (by rw [HN.out]; rfl) (by rw [HN.out]; rfl) (by rw [HN.out]), Below.refl _ _⟩

theorem sq_no {l : List UInt8} (h : En.uhOk l = false) : sqOk l = false ∧ sqN l = 0 := by
  unfold sqOk sqN
  rw [h]
  exact ⟨rfl, rfl⟩
theorem sq_yes {l : List UInt8} (h : En.uhOk l = true) : sqOk l = gnOk (En.uhL l) ∧ sqN l = gn (En.uhL l) := by
  unfold sqOk sqN
  rw [h]
  exact ⟨rfl, rfl⟩
theorem uhL_len (l : List UInt8) : (En.uhL l).length ≤ l.length := by
  unfold En.uhL
  split
  · rw [En.prs_length]; omega
  · simp

theorem seq_any (s : ByteArray) (w : World) (hs : s.size ≤ 140737488351232) :
    Calls Tryz.prog 25 #[.string s] w fun e w' => e = .returned (.tuple #[.int .i64 (sqN s.data.toList : Nat), .bool (sqOk s.data.toList)]) ∧ Below w.heap.size w w' := by
  have HU : Hid (Calls Tryz.prog 79 #[.string s] w fun e w' => ∃ v, e = .returned (.tuple #[v, .bool (En.uhOk s.data.toList)]) ∧ En.Own w' w.heap.size v (En.uhL s.data.toList) ∧ Below w.heap.size w w') := En.unhex_any s w hs
  have hl : s.data.toList.length = s.size := by simp
  cases h : En.uhOk s.data.toList
  · have HN := (show Hid (sqOk s.data.toList = false ∧ sqN s.data.toList = 0) from sq_no h)
    rw [h] at HU
    clear h hl
    go_enter Tryz.func25, Tryz.ntmps25
    go_wp2_with fail
    refine HU.out.mono ?_
    rintro e w1 ⟨v, rfl, ho, hb⟩
    go_wp2
    go_ret2
    exact ⟨ret_ib2 (by rw [HN.out.2]; rfl) HN.out.1.symm, hb⟩
  · have HN := (show Hid (sqOk s.data.toList = gnOk (En.uhL s.data.toList) ∧ sqN s.data.toList = gn (En.uhL s.data.toList)) from sq_yes h)
    have HG : Hid (∀ W, Calls Tryz.prog 76 #[.string ⟨(En.uhL s.data.toList).toArray⟩] W fun e w' => e = .returned (.tuple #[.int .i64 (gn (En.uhL s.data.toList) : Nat), .bool (gnOk (En.uhL s.data.toList))]) ∧ Below W.heap.size W w') := fun W => getNumber_any ⟨(En.uhL s.data.toList).toArray⟩ W (by have := uhL_len s.data.toList; simp [ByteArray.size]; omega)
    rw [h] at HU
    clear h hl
    go_enter Tryz.func25, Tryz.ntmps25
    go_wp2_with fail
    refine HU.out.mono ?_
    rintro e w1 ⟨v, rfl, ho, hb⟩
    obtain ⟨a, cap, rfl, hbs⟩ := ho.bytes
    have hcv := En.convert_bytes w1 a cap _ hbs
    clear ho hbs
    go_wp2_with fail
    refine (HG.out _).mono ?_
    rintro e w2 ⟨rfl, hb2⟩
    have B2 := step_below hb hb2 (Nat.le_refl _)
    clear hb hb2
    go_wp2
    go_ret2
    exact ⟨ret_ib2 (by rw [HN.out.2]) HN.out.1.symm, B2⟩
end Go.Proofs.YtbhiabcgjnfpoaaGreatDoor
/-
  What the document fixes, once; the walk of the statement MetaKeys.
-/
namespace Go.Proofs.YtbhiabcgjnfpoaaGreatDoor
open Go.RowKit

theorem abc_bucket : bucketB [97, 98, 99] = true := by decide +kernel
theorem xy_key : keyB [120, 47, 121] = true := by decide +kernel
theorem ff_hex : En.hexL (En.be 255 8) = [48, 48, 48, 48, 48, 48, 48, 48, 48, 48, 48, 48, 48, 48, 102, 102] := by decide +kernel
theorem awake_po (m : Nat) (hm : 7 + m = 9223372036854775807) : poV (nk 79 [97, 98, 99] [120, 47, 121] m) = .tuple #[.string ⟨#[97, 98, 99]⟩, .string ⟨#[120, 47, 121]⟩, .int .i64 7, .bool true] := by
  unfold poV
  rw [pn_yes ⟨rfl, abc_bucket, xy_key, by omega⟩]
  simp only
  rw [show 9223372036854775807 - m = 7 by omega]
  rfl
theorem nk_len (c : UInt8) (b k : List UInt8) (n : Nat) : (nk c b k n).length = b.length + k.length + 11 := by
  simp [nk, En.be_length]
  omega

set_option maxRecDepth 20000 in
set_option maxHeartbeats 1000000 in
theorem awake_any (w : World) (hm : Mx w) :
    Calls Tryz.prog 14 #[] w fun e w' => e = .returned (.bool true) ∧ Below w.heap.size w w' := by
  obtain ⟨m, hm7⟩ : ∃ m : Nat, 7 + m = 9223372036854775807 := ⟨9223372036854775800, rfl⟩
  have HA : Hid (∀ W, Calls Tryz.prog 28 #[.string ⟨#[97, 98, 99]⟩, .string ⟨#[120, 47, 121]⟩, .int .i64 7] W fun e w' => e = .returned (.string ⟨(nk 79 [97, 98, 99] [120, 47, 121] m).toArray⟩) ∧ Below W.heap.size W w') := fun W => objectKey_any ⟨#[97, 98, 99]⟩ ⟨#[120, 47, 121]⟩ 7 7 m W (by decide) (by decide) rfl hm7
  have HB : Hid (∀ W, Mx W → Calls Tryz.prog 27 #[.string ⟨(nk 79 [97, 98, 99] [120, 47, 121] m).toArray⟩] W fun e w' => e = .returned (.tuple #[.string ⟨#[97, 98, 99]⟩, .string ⟨#[120, 47, 121]⟩, .int .i64 7, .bool true]) ∧ Below W.heap.size W w') := fun W h => by
    have := parseObject_any ⟨(nk 79 [97, 98, 99] [120, 47, 121] m).toArray⟩ W (by simp [ByteArray.size, nk_len]) h
    rw [show (⟨(nk 79 [97, 98, 99] [120, 47, 121] m).toArray⟩ : ByteArray).data.toList = nk 79 [97, 98, 99] [120, 47, 121] m from rfl, awake_po m hm7] at this
    exact this
  have HC : Hid (∀ W, Calls Tryz.prog 25 #[.string ⟨#[48, 48, 48, 48, 48, 48, 48, 48, 48, 48, 48, 48, 48, 48, 102, 102]⟩] W fun e w' => e = .returned (.tuple #[.int .i64 255, .bool true]) ∧ Below W.heap.size W w') := fun W => by
    have := seq_any ⟨#[48, 48, 48, 48, 48, 48, 48, 48, 48, 48, 48, 48, 48, 48, 102, 102]⟩ W (by decide)
    rw [show (⟨#[48, 48, 48, 48, 48, 48, 48, 48, 48, 48, 48, 48, 48, 48, 102, 102]⟩ : ByteArray).data.toList = En.hexL (En.be 255 8) from ff_hex.symm, (sq_id (n := 255) (by omega)).1, (sq_id (n := 255) (by omega)).2] at this
    exact this
  have HD : Hid (∀ W, Calls Tryz.prog 26 #[.int .i64 255] W fun e w' => e = .returned (.string ⟨#[48, 48, 48, 48, 48, 48, 48, 48, 48, 48, 48, 48, 48, 48, 102, 102]⟩) ∧ Below W.heap.size W w') := fun W => by
    have := id_any 255 255 W rfl (by omega)
    rw [ff_hex] at this
    exact this
  have HE : Hid (∀ W, Calls Tryz.prog 47 #[.string ⟨#[97, 98, 99]⟩] W fun e w' => e = .returned (.string ⟨#[66, 97, 98, 99]⟩) ∧ W = w') := fun W => bucketKey_any ⟨#[97, 98, 99]⟩ W (by decide)
  clear hm7
  go_enter Tryz.func14, Tryz.ntmps14
  go_wp2_with fail
  refine (HA.out _).mono ?_
  rintro e w1 ⟨rfl, B1⟩
  go_wp2_with fail
  refine (HB.out _ (hm.below B1 (Nat.le_refl _))).mono ?_
  rintro e w2 ⟨rfl, hb2⟩
  have B2 := step_below B1 hb2 (Nat.le_refl _)
  clear B1 hb2
  go_wp2_with fail
  refine (HC.out _).mono ?_
  rintro e w3 ⟨rfl, hb3⟩
  have B3 := step_below B2 hb3 (Nat.le_refl _)
  clear B2 hb3
  go_wp2_with fail
  refine (HD.out _).mono ?_
  rintro e w4 ⟨rfl, hb4⟩
  have B4 := step_below B3 hb4 (Nat.le_refl _)
  clear B3 hb4
  go_wp2_with fail
  refine (HE.out _).mono ?_
  rintro e w5 ⟨rfl, rfl⟩
  go_wp2
  go_ret
  exact ⟨rfl, B4⟩
end Go.Proofs.YtbhiabcgjnfpoaaGreatDoor
