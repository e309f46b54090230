/-
  meta's keys: what reads them, the code's side.
-/
import Derived.Test.YtaagnckppdaljaaDoorKeyP
import Derived.Test.YtaagnckppdaljaaDoorKeyW
import Derived.Deep.QuietTactic
import Derived.BigQuiet
namespace Go.Proofs.YtaagnckppdaljaaDoor
open Go.RowKit

theorem results_tmp4 {fn : Func} {t u v x : Tmp} (h : fn.results = #[.tmp t, .tmp u, .tmp v, .tmp x]) (tmps : Array Value) (P : Program) (w : World) :
    (results fn tmps).run P w = .ok (.tuple #[tmps.getD t undef, tmps.getD u undef, tmps.getD v undef, tmps.getD x undef]) w := by
  simp [results, h]

theorem gn_yes {l : List UInt8} (h1 : En.g64Ok l = true) (h2 : En.g64 l ≤ 9223372036854775807) : gnOk l = true ∧ gn l = En.g64 l := by
  have : gnOk l = true := by unfold gnOk; rw [h1]; simpa using h2
  exact ⟨this, by unfold gn; rw [if_pos this]⟩
theorem gn_no1 {l : List UInt8} (h1 : En.g64Ok l = false) : gnOk l = false ∧ gn l = 0 := by
  have : gnOk l = false := by unfold gnOk; rw [h1]; rfl
  exact ⟨this, by unfold gn; rw [this]; rfl⟩
theorem gn_no2 {l : List UInt8} (h2 : ¬ En.g64 l ≤ 9223372036854775807) : gnOk l = false ∧ gn l = 0 := by
  have : gnOk l = false := by unfold gnOk; rw [decide_eq_false h2, Bool.and_false]
  exact ⟨this, by unfold gn; rw [this]; rfl⟩
theorem ret_ib2 {a b : Int} {p q : Bool} (h : a = b) (g : p = q) : Ending.returned (.tuple #[.int .i64 a, .bool p]) = .returned (.tuple #[.int .i64 b, .bool q]) := by rw [h, g]

set_option maxHeartbeats 1000000 in
theorem getNumber_any (s : ByteArray) (w : World) (hs : s.size ≤ 140737488351232) :
    Calls Tryd.prog 42 #[.string s] w fun e w' => e = .returned (.tuple #[.int .i64 (gn s.data.toList : Nat), .bool (gnOk s.data.toList)]) ∧ Below w.heap.size w w' := by
  obtain ⟨W1, cap, hcv, hbs, hb⟩ := conv_new s w
  have hl : s.data.toList.length ≤ 140737488351232 := by simpa using hs
  have HG : Hid (Calls Tryd.prog 63 #[.slice (some ⟨w.heap.size, 0, none⟩) s.data.toList.length cap] W1 fun e w' => e = .returned (.tuple #[.int .u64 (En.g64 s.data.toList : Nat), .bool (En.g64Ok s.data.toList)]) ∧ W1 = w') := En.get64_any _ _ _ _ hl hbs
  clear hbs hs
  cases h1 : En.g64Ok s.data.toList
  · have HN := (show Hid (gnOk s.data.toList = false ∧ gn s.data.toList = 0) from gn_no1 h1)
    rw [h1] at HG
    clear h1
    generalize En.g64 s.data.toList = g at *
    go_enter Tryd.func42, Tryd.ntmps42
    go_wp2_with fail
    refine HG.out.mono ?_
    rintro e w1 ⟨rfl, rfl⟩
    go_wp2
    go_ret2
    exact ⟨ret_ib2 (by rw [HN.out.2]; rfl) HN.out.1.symm, hb⟩
  · by_cases h2 : En.g64 s.data.toList ≤ 9223372036854775807
    · have HN := (show Hid (gnOk s.data.toList = true ∧ gn s.data.toList = En.g64 s.data.toList) from gn_yes h1 h2)
      rw [h1] at HG
      clear h1
      generalize En.g64 s.data.toList = g at *
      have h3 : ¬ ((g : Int) > 9223372036854775807) := by omega
      go_enter Tryd.func42, Tryd.ntmps42
      go_wp2_with fail
      refine HG.out.mono ?_
      rintro e w1 ⟨rfl, rfl⟩
      go_wp2
      go_ret2
      exact ⟨ret_ib2 (by rw [HN.out.2]) HN.out.1.symm, hb⟩
    · have HN := (show Hid (gnOk s.data.toList = false ∧ gn s.data.toList = 0) from gn_no2 h2)
      rw [h1] at HG
      clear h1
      generalize En.g64 s.data.toList = g at *
      have h3 : (g : Int) > 9223372036854775807 := by omega
      go_enter Tryd.func42, Tryd.ntmps42
      go_wp2_with fail
      refine HG.out.mono ?_
      rintro e w1 ⟨rfl, rfl⟩
      go_wp2
      go_ret2
      exact ⟨ret_ib2 (by rw [HN.out.2]; rfl) HN.out.1.symm, hb⟩

theorem bytes_toList (s : ByteArray) : s.toList = s.data.toList := Lib.toList_data s

set_option maxHeartbeats 1000000 in
theorem index0_any (s : ByteArray) (w : World) :
    Calls Tryd.prog 79 #[.string s, .string ⟨#[0]⟩] w fun e w' => e = .returned (.int .i64 (Lib.indexByte s.data.toList 0)) ∧ w = w' := by
  have HI : Hid (∀ W, Calls Tryd.prog 84 #[.string s, .int .u8 0] W fun e w' => e = .returned (.int .i64 (Lib.indexByte s.data.toList 0)) ∧ w' = W) := fun W => stringslite_IndexByte s 0 W
  cases he : (([0] : List UInt8) == s.toList)
  · generalize Lib.indexByte s.data.toList 0 = x at *
    go_enter Tryd.func79, Tryd.ntmps79
    go_wp2_with (go_at_call 84; refine (HI.out _).mono ?_; rintro e w' ⟨rfl, rfl⟩)
    go_ret
    exact ⟨rfl, rfl⟩
  · have HX : Hid (Lib.indexByte s.data.toList 0 = 0) := by
      show _ = _
      rw [beq_iff_eq, bytes_toList] at he
      rw [← he]
      rfl
    generalize Lib.indexByte s.data.toList 0 = x at *
    go_enter Tryd.func79, Tryd.ntmps79
    go_wp2_with (go_at_call 84; refine (HI.out _).mono ?_; rintro e w' ⟨rfl, rfl⟩)
    go_ret
    exact ⟨by rw [HX.out]; rfl, rfl⟩

theorem below_drewN (B : Nat) (w : World) (n : Nat) : Below B w (w.drewN n) := ⟨rfl, rfl, rfl, Nat.le_refl _, fun _ _ => rfl⟩
theorem ret_cut {a b c d : ByteArray} {p : Bool} (h : a = b) (g : c = d) : Ending.returned (.tuple #[.string a, .string c, .bool p]) = .returned (.tuple #[.string b, .string d, .bool p]) := by rw [h, g]
theorem ext_take (s : ByteArray) (k : Nat) : s.extract 0 k = ⟨(s.data.toList.take k).toArray⟩ := ba_of (by
  simp only [ByteArray.data_extract, Array.toList_extract, List.extract_eq_take_drop]
  simp)
theorem ext_drop (s : ByteArray) (k : Nat) : s.extract k s.size = ⟨(s.data.toList.drop k).toArray⟩ := ba_of (extract_drop s k)

set_option maxHeartbeats 1000000 in
theorem cut0_any (s : ByteArray) (w : World) (hs : s.size ≤ 562949953421312) :
    Calls Tryd.prog 73 #[.string s, .string ⟨#[0]⟩] w fun e w' => e = .returned (.tuple #[.string ⟨(bz s.data.toList).toArray⟩, .string ⟨(az s.data.toList).toArray⟩, .bool (hzb s.data.toList)]) ∧ Below w.heap.size w w' := by
  have HI : Hid (∀ W, Calls Tryd.prog 79 #[.string s, .string ⟨#[0]⟩] W fun e w' => e = .returned (.int .i64 (Lib.indexByte s.data.toList 0)) ∧ W = w') := fun W => index0_any s W
  have hl : s.data.toList.length = s.size := by simp
  cases h : hzb s.data.toList
  · rw [idx0, h] at HI
    have HB : Hid (bz s.data.toList = s.data.toList ∧ az s.data.toList = []) := ⟨hzb_no h, by unfold az; rw [h]; rfl⟩
    clear h hl
    go_enter Tryd.func73, Tryd.ntmps73
    go_wp2_with (go_at_call 79; refine (HI.out _).mono ?_; rintro e w' ⟨rfl, rfl⟩)
    go_ret3
    refine ⟨ret_cut ?_ ?_, Below.refl _ _⟩
    · rw [HB.out.1]
    · rw [HB.out.2]
  · rw [idx0, h, if_pos rfl] at HI
    have h1 := bz_lt h
    have HB : Hid (bz s.data.toList = s.data.toList.take (bz s.data.toList).length ∧ az s.data.toList = s.data.toList.drop ((bz s.data.toList).length + 1)) := ⟨bz_take _, by unfold az; rw [h]; rfl⟩
    obtain ⟨j, hj⟩ : ∃ j, (bz s.data.toList).length = j := ⟨_, rfl⟩
    rw [hj] at HI h1 HB
    have hjs : j + 1 ≤ s.size := by omega
    have hjI : (j : Int) + 1 ≤ (s.size : Int) := by omega
    clear h hl hj h1
    go_enter Tryd.func73, Tryd.ntmps73
    go_wp2_with fail
    refine (HI.out _).mono ?_
    rintro e w' ⟨rfl, rfl⟩
    go_wp2_with fail
    go_quiet (fail)
    go_wp2
    go_ret3
    refine ⟨ret_cut ?_ ?_, below_drewN _ _ _⟩
    · rw [HB.out.1]; exact ext_take s j
    · rw [HB.out.2]; exact ext_drop s (j + 1)
theorem strCut_any (s : ByteArray) (w : World) (hs : s.size ≤ 562949953421312) :
    Calls Tryd.prog 59 #[.string s, .string ⟨#[0]⟩] w fun e w' => e = .returned (.tuple #[.string ⟨(bz s.data.toList).toArray⟩, .string ⟨(az s.data.toList).toArray⟩, .bool (hzb s.data.toList)]) ∧ Below w.heap.size w w' := by
  have HI : Hid (∀ W, Calls Tryd.prog 73 #[.string s, .string ⟨#[0]⟩] W fun e w' => e = .returned (.tuple #[.string ⟨(bz s.data.toList).toArray⟩, .string ⟨(az s.data.toList).toArray⟩, .bool (hzb s.data.toList)]) ∧ Below W.heap.size W w') := fun W => cut0_any s W hs
  go_enter Tryd.func59, Tryd.ntmps59
  go_wp2_with fail
  refine (HI.out _).mono ?_
  rintro e w' ⟨rfl, hb⟩
  go_wp2
  go_ret3
  exact ⟨rfl, hb⟩

/-- What a call that parses tells. -/
noncomputable def pnV (c : UInt8) (l : List UInt8) : Value :=
  match pn c l with
  | some (b, k, n) => .tuple #[.string ⟨b.toArray⟩, .string ⟨k.toArray⟩, .int .i64 (n : Nat), .bool true]
  | none => .tuple #[.string ⟨#[]⟩, .string ⟨#[]⟩, .int .i64 0, .bool false]
theorem pnV_no {c : UInt8} {l : List UInt8} (h : ∀ b k n, ¬ NK c l b k n) : Ending.returned (.tuple #[.string ⟨#[]⟩, .string ⟨#[]⟩, .int .i64 0, .bool false]) = .returned (pnV c l) := by
  unfold pnV
  rw [pn_no h]
theorem pnV_yes {c : UInt8} {l b k : List UInt8} {n : Nat} (h : NK c l b k n) : Ending.returned (.tuple #[.string ⟨b.toArray⟩, .string ⟨k.toArray⟩, .int .i64 (n : Nat), .bool true]) = .returned (pnV c l) := by
  unfold pnV
  rw [pn_yes h]

set_option maxHeartbeats 2000000 in
theorem parseNamed_any (c : UInt8) (s : ByteArray) (w : World) (hs : s.size ≤ 562949953421312) (hm : Mx w) :
    Calls Tryd.prog 40 #[.string ⟨#[c]⟩, .string s] w fun e w' => e = .returned (pnV c s.data.toList) ∧ Below w.heap.size w w' := by
  have HP : Hid (∀ W, Calls Tryd.prog 36 #[.string s, .string ⟨#[c]⟩] W fun e w' => e = .returned (.tuple #[.string ⟨(Lib.trimPrefix s.data.toList [c]).toArray⟩, .bool (Lib.hasPrefix s.data.toList [c])]) ∧ w' = W) := fun W => strings_CutPrefix s ⟨#[c]⟩ W
  have hl : s.data.toList.length = s.size := by simp
  cases hp : Lib.hasPrefix s.data.toList [c]
  · have HN := (show Hid (∀ b k n, ¬ NK c s.data.toList b k n) from cd_kind c hp)
    rw [hp] at HP
    clear hp hl hm
    go_enter Tryd.func40, Tryd.ntmps40
    go_wp2_with fail
    refine (HP.out _).mono ?_
    rintro e w1 ⟨rfl, rfl⟩
    go_wp2
    (try simp only [Exit.inBlock, Exit.then])
    refine bodyPost_ret (results_tmp4 rfl _ _ _) rfl ?_
    exact ⟨pnV_no HN.out, Below.refl _ _⟩
  · obtain ⟨T, hT⟩ := (pre_one c _).1 hp
    rw [hp, hT, trim_one] at HP
    rw [hT]
    rw [hT, List.length_cons] at hl
    clear hp hT
    obtain ⟨t, ht⟩ : ∃ t : ByteArray, t = ⟨T.toArray⟩ := ⟨_, rfl⟩
    have htl : t.data.toList = T := by rw [ht]
    have hts : t.size = T.length := ba_len htl
    rw [← ht] at HP
    by_cases h8 : T.length < 8
    · have HN := (show Hid (∀ b k n, ¬ NK c (c :: T) b k n) from cd_short c h8)
      have h8' : (t.size : Int) < 8 := by omega
      clear hl ht htl hts h8 hm
      go_enter Tryd.func40, Tryd.ntmps40
      go_wp2_with fail
      refine (HP.out _).mono ?_
      rintro e w1 ⟨rfl, rfl⟩
      go_wp2
      (try simp only [Exit.inBlock, Exit.then])
      refine bodyPost_ret (results_tmp4 rfl _ _ _) rfl ?_
      exact ⟨pnV_no HN.out, Below.refl _ _⟩
    · obtain ⟨e8, he8⟩ : ∃ j : Nat, t.size = j + 8 := ⟨t.size - 8, by omega⟩
      have hA : (t.extract e8 t.size).data.toList = cdN T := by rw [extract_drop, htl]; unfold cdN; rw [show T.length - 8 = e8 by omega]
      have hB : (t.extract 0 e8).data.toList = cdP T := by rw [ext_take, htl]; unfold cdP; rw [show T.length - 8 = e8 by omega]
      have sA : (t.extract e8 t.size).size ≤ 140737488351232 := by simp; omega
      have sB : (t.extract 0 e8).size ≤ 562949953421312 := by simp; omega
      have HG : Hid (∀ W, Calls Tryd.prog 42 #[.string (t.extract e8 t.size)] W fun e w' => e = .returned (.tuple #[.int .i64 (gn (cdN T) : Nat), .bool (gnOk (cdN T))]) ∧ Below W.heap.size W w') := fun W => by
        have := getNumber_any (t.extract e8 t.size) W sA
        rw [hA] at this
        exact this
      have HS : Hid (∀ W, Calls Tryd.prog 58 #[.string (t.extract 0 e8), .string ⟨#[0]⟩] W fun e w' => e = .returned (.tuple #[.string ⟨(cdQ T).toArray⟩, .bool (Lib.hasSuffix (cdP T) [0])]) ∧ w' = W) := fun W => by
        have := strings_CutSuffix (t.extract 0 e8) ⟨#[0]⟩ W (by omega)
        rw [hB] at this
        exact this
      have hq : (cdQ T).length ≤ T.length := by
        unfold cdQ Lib.trimSuffix cdP
        split <;> simp <;> omega
      have HC : Hid (∀ W, Calls Tryd.prog 59 #[.string ⟨(cdQ T).toArray⟩, .string ⟨#[0]⟩] W fun e w' => e = .returned (.tuple #[.string ⟨(bz (cdQ T)).toArray⟩, .string ⟨(az (cdQ T)).toArray⟩, .bool (hzb (cdQ T))]) ∧ Below W.heap.size W w') := fun W => strCut_any ⟨(cdQ T).toArray⟩ W (by simp [ByteArray.size]; omega)
      have hbl := bz_len (cdQ T)
      have hal := az_len (cdQ T)
      have HBk : Hid (∀ W, Mx W → Calls Tryd.prog 37 #[.string ⟨(bz (cdQ T)).toArray⟩] W fun e w' => e = .returned (.bool (bucketB (bz (cdQ T)))) ∧ Below W.heap.size W w') := fun W h => bucket_any ⟨(bz (cdQ T)).toArray⟩ W (by simp [ByteArray.size]; unfold maxLen; omega) h
      have HK : Hid (∀ W, Calls Tryd.prog 60 #[.string ⟨(az (cdQ T)).toArray⟩] W fun e w' => e = .returned (.bool (keyB (az (cdQ T)))) ∧ Below W.heap.size W w') := fun W => key_any ⟨(az (cdQ T)).toArray⟩ W (by simp [ByteArray.size]; unfold maxLen; omega)
      have HY : Hid (cdOk T = true → NK c (c :: T) (bz (cdQ T)) (az (cdQ T)) (gn (cdN T))) := cd_yes c
      have HN : Hid (cdOk T = false → ∀ b k n, ¬ NK c (c :: T) b k n) := cd_no c
      have HO : Hid (cdOk T = (gnOk (cdN T) && (Lib.hasSuffix (cdP T) [0] && (hzb (cdQ T) && (bucketB (bz (cdQ T)) && keyB (az (cdQ T))))))) := rfl
      generalize gnOk (cdN T) = q1 at *
      generalize Lib.hasSuffix (cdP T) [0] = q2 at *
      generalize hzb (cdQ T) = q3 at *
      generalize bucketB (bz (cdQ T)) = q4 at *
      generalize keyB (az (cdQ T)) = q5 at *
      generalize bz (cdQ T) = B at *
      generalize az (cdQ T) = A at *
      generalize cdQ T = Q at *
      generalize gn (cdN T) = n at *
      have h8a : ¬ ((t.size : Int) < 8) := by omega
      have h8b : (t.size : Int) - 8 = (e8 : Int) := by omega
      have h8c : (e8 : Int) ≤ (t.size : Int) := by omega
      have h8d : e8 ≤ t.size := by omega
      have htb : t.size ≤ 562949953421312 := by omega
      clear hA hB sA sB hq hbl hal hl ht htl hts h8 he8
      go_enter Tryd.func40, Tryd.ntmps40
      go_wp2_with fail
      refine (HP.out _).mono ?_
      rintro e w1 ⟨rfl, rfl⟩
      go_wp2_with fail
      refine (HG.out _).mono ?_
      rintro e w2 ⟨rfl, hb2⟩
      go_wp2_with fail
      refine (HS.out _).mono ?_
      rintro e w3 ⟨rfl, rfl⟩
      go_wp2_with fail
      refine (HC.out _).mono ?_
      rintro e w4 ⟨rfl, hb4⟩
      have B4 := step_below hb2 hb4 (Nat.le_refl _)
      clear hb2 hb4
      cases q1
      · go_wp2
        (try simp only [Exit.inBlock, Exit.then])
        refine bodyPost_ret (results_tmp4 rfl _ _ _) rfl ?_
        exact ⟨pnV_no (HN.out (by rw [HO.out]; rfl)), B4⟩
      · cases q2
        · go_wp2
          (try simp only [Exit.inBlock, Exit.then])
          refine bodyPost_ret (results_tmp4 rfl _ _ _) rfl ?_
          exact ⟨pnV_no (HN.out (by rw [HO.out]; rfl)), B4⟩
        · cases q3
          · go_wp2
            (try simp only [Exit.inBlock, Exit.then])
            refine bodyPost_ret (results_tmp4 rfl _ _ _) rfl ?_
            exact ⟨pnV_no (HN.out (by rw [HO.out]; rfl)), B4⟩
          · go_wp2_with fail
            refine (HBk.out _ (hm.below B4 (Nat.le_refl _))).mono ?_
            rintro e w5 ⟨rfl, hb5⟩
            have B5 := step_below B4 hb5 (Nat.le_refl _)
            clear B4 hb5
            cases q4
            · go_wp2
              (try simp only [Exit.inBlock, Exit.then])
              refine bodyPost_ret (results_tmp4 rfl _ _ _) rfl ?_
              exact ⟨pnV_no (HN.out (by rw [HO.out]; rfl)), B5⟩
            · go_wp2_with fail
              refine (HK.out _).mono ?_
              rintro e w6 ⟨rfl, hb6⟩
              have B6 := step_below B5 hb6 (Nat.le_refl _)
              clear B5 hb6
              cases q5
              · go_wp2
                (try simp only [Exit.inBlock, Exit.then])
                refine bodyPost_ret (results_tmp4 rfl _ _ _) rfl ?_
                exact ⟨pnV_no (HN.out (by rw [HO.out]; rfl)), B6⟩
              · go_wp2
                (try simp only [Exit.inBlock, Exit.then])
                refine bodyPost_ret (results_tmp4 rfl _ _ _) rfl ?_
                exact ⟨pnV_yes (HY.out (by rw [HO.out]; rfl)), B6⟩

theorem parseUpload_any (s : ByteArray) (w : World) (hs : s.size ≤ 562949953421312) (hm : Mx w) :
    Calls Tryd.prog 22 #[.string s] w fun e w' => e = .returned (pnV 85 s.data.toList) ∧ Below w.heap.size w w' := by
  have HP : Hid (Calls Tryd.prog 40 #[.string ⟨#[85]⟩, .string s] w fun e w' => e = .returned (pnV 85 s.data.toList) ∧ Below w.heap.size w w') := parseNamed_any 85 s w hs hm
  clear hm
  unfold pnV at HP ⊢
  generalize pn 85 s.data.toList = o at *
  cases o with
  | none =>
    simp only at HP ⊢
    go_enter Tryd.func22, Tryd.ntmps22
    go_wp2_with fail
    refine HP.out.mono ?_
    rintro e w1 ⟨rfl, hb⟩
    go_wp2
    (try simp only [Exit.inBlock, Exit.then])
    refine bodyPost_ret (results_tmp4 rfl _ _ _) rfl ?_
    exact ⟨rfl, hb⟩
  | some r =>
    obtain ⟨b, k, n⟩ := r
    simp only at HP ⊢
    go_enter Tryd.func22, Tryd.ntmps22
    go_wp2_with fail
    refine HP.out.mono ?_
    rintro e w1 ⟨rfl, hb⟩
    go_wp2
    (try simp only [Exit.inBlock, Exit.then])
    refine bodyPost_ret (results_tmp4 rfl _ _ _) rfl ?_
    exact ⟨rfl, hb⟩

/-- What ParseObject tells: the numbers turned round. -/
noncomputable def poV (l : List UInt8) : Value :=
  match pn 79 l with
  | some (b, k, n) => .tuple #[.string ⟨b.toArray⟩, .string ⟨k.toArray⟩, .int .i64 ((9223372036854775807 - n : Nat) : Int), .bool true]
  | none => .tuple #[.string ⟨#[]⟩, .string ⟨#[]⟩, .int .i64 0, .bool false]
theorem ret4 {a b : ByteArray} {x y : Int} {q : Bool} (h : x = y) : Ending.returned (.tuple #[.string a, .string b, .int .i64 x, .bool q]) = .returned (.tuple #[.string a, .string b, .int .i64 y, .bool q]) := by rw [h]

theorem parseObject_any (s : ByteArray) (w : World) (hs : s.size ≤ 562949953421312) (hm : Mx w) :
    Calls Tryd.prog 20 #[.string s] w fun e w' => e = .returned (poV s.data.toList) ∧ Below w.heap.size w w' := by
  have HP : Hid (Calls Tryd.prog 40 #[.string ⟨#[79]⟩, .string s] w fun e w' => e = .returned (pnV 79 s.data.toList) ∧ Below w.heap.size w w') := parseNamed_any 79 s w hs hm
  clear hm
  unfold pnV at HP
  unfold poV
  cases hpn : pn 79 s.data.toList with
  | none =>
    rw [hpn] at HP
    simp only at HP ⊢
    clear hpn
    go_enter Tryd.func20, Tryd.ntmps20
    go_wp2_with fail
    refine HP.out.mono ?_
    rintro e w1 ⟨rfl, hb⟩
    go_wp2
    (try simp only [Exit.inBlock, Exit.then])
    refine bodyPost_ret (results_tmp4 rfl _ _ _) rfl ?_
    exact ⟨rfl, hb⟩
  | some r =>
    obtain ⟨b, k, n⟩ := r
    rw [hpn] at HP
    simp only at HP ⊢
    have hn : n ≤ 9223372036854775807 := (pn_some hpn).2.2.2
    obtain ⟨m, hm⟩ : ∃ m, m = 9223372036854775807 - n := ⟨_, rfl⟩
    have HB : Hid (∀ W, Calls Tryd.prog 29 #[.int .i64 (n : Int)] W fun e w' => e = .returned (.int .i64 (m : Int)) ∧ W = w') := fun W => newestFirst_any n m W (show n + m = 9223372036854775807 by omega)
    rw [← hm]
    clear hpn hm
    go_enter Tryd.func20, Tryd.ntmps20
    go_wp2_with fail
    refine HP.out.mono ?_
    rintro e w1 ⟨rfl, hb⟩
    go_wp2_with fail
    refine (HB.out _).mono ?_
    rintro e w1 ⟨rfl, rfl⟩
    go_wp2
    (try simp only [Exit.inBlock, Exit.then])
    refine bodyPost_ret (results_tmp4 rfl _ _ _) rfl ?_
    exact ⟨rfl, hb⟩

theorem bk_of {l : List UInt8} (h : Lib.hasPrefix l [66] = false) : bkOk l = false ∧ bkV l = [] := by
  have : bkOk l = false := by unfold bkOk; rw [h]; rfl
  exact ⟨this, by unfold bkV; rw [this]; rfl⟩
theorem bk_cons (T : List UInt8) : bkOk (66 :: T) = bucketB T := by
  unfold bkOk
  rw [(pre_one 66 _).2 ⟨T, rfl⟩]
  rfl
theorem bkV_yes {T : List UInt8} (h : bucketB T = true) : bkV (66 :: T) = T := by
  unfold bkV
  rw [bk_cons, h]
  rfl
theorem bkV_no {T : List UInt8} (h : bucketB T = false) : bkV (66 :: T) = [] := by
  unfold bkV
  rw [bk_cons, h]
  rfl

theorem parseBucket_any (s : ByteArray) (w : World) (hs : s.size ≤ 562949953421312) (hm : Mx w) :
    Calls Tryd.prog 18 #[.string s] w fun e w' => e = .returned (.tuple #[.string ⟨(bkV s.data.toList).toArray⟩, .bool (bkOk s.data.toList)]) ∧ Below w.heap.size w w' := by
  have HP : Hid (∀ W, Calls Tryd.prog 36 #[.string s, .string ⟨#[66]⟩] W fun e w' => e = .returned (.tuple #[.string ⟨(Lib.trimPrefix s.data.toList [66]).toArray⟩, .bool (Lib.hasPrefix s.data.toList [66])]) ∧ w' = W) := fun W => strings_CutPrefix s ⟨#[66]⟩ W
  have hl : s.data.toList.length = s.size := by simp
  cases hp : Lib.hasPrefix s.data.toList [66]
  · have HN := (show Hid (bkOk s.data.toList = false ∧ bkV s.data.toList = []) from bk_of hp)
    rw [hp] at HP
    clear hp hl hm
    go_enter Tryd.func18, Tryd.ntmps18
    go_wp2_with fail
    refine (HP.out _).mono ?_
    rintro e w1 ⟨rfl, rfl⟩
    go_wp2
    go_ret2
    exact ⟨ret_sb (by rw [HN.out.2]) HN.out.1.symm, Below.refl _ _⟩
  · obtain ⟨T, hT⟩ := (pre_one 66 _).1 hp
    rw [hp, hT, trim_one] at HP
    rw [hT]
    rw [hT, List.length_cons] at hl
    have HBk : Hid (Calls Tryd.prog 37 #[.string ⟨T.toArray⟩] w fun e w' => e = .returned (.bool (bucketB T)) ∧ Below w.heap.size w w') := bucket_any ⟨T.toArray⟩ w (by simp [ByteArray.size]; unfold maxLen; omega) hm
    clear hp hT hl hm
    cases hb : bucketB T
    · have HN := (show Hid (bkOk (66 :: T) = false ∧ bkV (66 :: T) = []) from ⟨by rw [bk_cons]; exact hb, bkV_no hb⟩)
      rw [hb] at HBk
      clear hb
      go_enter Tryd.func18, Tryd.ntmps18
      go_wp2_with fail
      refine (HP.out _).mono ?_
      rintro e w1 ⟨rfl, rfl⟩
      go_wp2_with fail
      refine HBk.out.mono ?_
      rintro e w2 ⟨rfl, hb⟩
      go_wp2
      go_ret2
      exact ⟨ret_sb (by rw [HN.out.2]) HN.out.1.symm, hb⟩
    · have HN := (show Hid (bkOk (66 :: T) = true ∧ bkV (66 :: T) = T) from ⟨by rw [bk_cons]; exact hb, bkV_yes hb⟩)
      rw [hb] at HBk
      clear hb
      go_enter Tryd.func18, Tryd.ntmps18
      go_wp2_with fail
      refine (HP.out _).mono ?_
      rintro e w1 ⟨rfl, rfl⟩
      go_wp2_with fail
      refine HBk.out.mono ?_
      rintro e w2 ⟨rfl, hb⟩
      go_wp2
      go_ret2
      exact ⟨ret_sb (by rw [HN.out.2]) HN.out.1.symm, hb⟩

theorem pt_of {l : List UInt8} (h : Lib.hasPrefix l [80] = false) : pt l = (0, 0, false) := by
  unfold pt
  rw [h]
  rfl
theorem pt_len {T : List UInt8} (h : T.length ≠ 16) : pt (80 :: T) = (0, 0, false) := by
  unfold pt
  rw [if_neg]
  simp
  intro _ h2
  exact absurd h2 h
theorem pt_cons {T : List UInt8} (h : T.length = 16) : pt (80 :: T) = if gnOk (T.take 8) && gnOk (T.drop 8) then (gn (T.take 8), gn (T.drop 8), true) else (0, 0, false) := by
  unfold pt
  rw [(pre_one 80 _).2 ⟨T, rfl⟩, List.length_cons, h]
  rfl
theorem ret_pt {a b c d : Int} {p q : Bool} (h : a = b) (g : c = d) (k : p = q) : Ending.returned (.tuple #[.int .i64 a, .int .i64 c, .bool p]) = .returned (.tuple #[.int .i64 b, .int .i64 d, .bool q]) := by rw [h, g, k]

set_option maxHeartbeats 1000000 in
theorem parsePart_any (s : ByteArray) (w : World) :
    Calls Tryd.prog 24 #[.string s] w fun e w' => e = .returned (.tuple #[.int .i64 ((pt s.data.toList).1 : Nat), .int .i64 ((pt s.data.toList).2.1 : Nat), .bool (pt s.data.toList).2.2]) ∧ Below w.heap.size w w' := by
  have HP : Hid (∀ W, Calls Tryd.prog 36 #[.string s, .string ⟨#[80]⟩] W fun e w' => e = .returned (.tuple #[.string ⟨(Lib.trimPrefix s.data.toList [80]).toArray⟩, .bool (Lib.hasPrefix s.data.toList [80])]) ∧ w' = W) := fun W => strings_CutPrefix s ⟨#[80]⟩ W
  cases hp : Lib.hasPrefix s.data.toList [80]
  · have HN := (show Hid (pt s.data.toList = (0, 0, false)) from pt_of hp)
    rw [hp] at HP
    clear hp
    go_enter Tryd.func24, Tryd.ntmps24
    go_wp2_with fail
    refine (HP.out _).mono ?_
    rintro e w1 ⟨rfl, rfl⟩
    go_wp2
    go_ret3
    exact ⟨ret_pt (by rw [HN.out]; rfl) (by rw [HN.out]; rfl) (by rw [HN.out]), Below.refl _ _⟩
  · obtain ⟨T, hT⟩ := (pre_one 80 _).1 hp
    rw [hp, hT, trim_one] at HP
    rw [hT]
    clear hp hT
    obtain ⟨t, ht⟩ : ∃ t : ByteArray, t = ⟨T.toArray⟩ := ⟨_, rfl⟩
    have htl : t.data.toList = T := by rw [ht]
    have hts : t.size = T.length := ba_len htl
    rw [← ht] at HP
    by_cases h16 : T.length = 16
    · have hA : (t.extract 0 8).data.toList = T.take 8 := by rw [ext_take, htl]
      have hB : (t.extract 8 t.size).data.toList = T.drop 8 := by rw [extract_drop, htl]
      have HG : Hid (∀ W, Calls Tryd.prog 42 #[.string (t.extract 0 8)] W fun e w' => e = .returned (.tuple #[.int .i64 (gn (T.take 8) : Nat), .bool (gnOk (T.take 8))]) ∧ Below W.heap.size W w') := fun W => by
        have := getNumber_any (t.extract 0 8) W (by simp; omega)
        rw [hA] at this
        exact this
      have HH : Hid (∀ W, Calls Tryd.prog 42 #[.string (t.extract 8 t.size)] W fun e w' => e = .returned (.tuple #[.int .i64 (gn (T.drop 8) : Nat), .bool (gnOk (T.drop 8))]) ∧ Below W.heap.size W w') := fun W => by
        have := getNumber_any (t.extract 8 t.size) W (by simp; omega)
        rw [hB] at this
        exact this
      have HN := (show Hid (pt (80 :: T) = if gnOk (T.take 8) && gnOk (T.drop 8) then (gn (T.take 8), gn (T.drop 8), true) else (0, 0, false)) from pt_cons h16)
      generalize gnOk (T.take 8) = q1 at *
      generalize gnOk (T.drop 8) = q2 at *
      generalize gn (T.take 8) = n1 at *
      generalize gn (T.drop 8) = n2 at *
      have hz : ((t.size : Int) != 16) = false := by simp; omega
      have h1 : (8 : Int) ≤ (t.size : Int) := by omega
      have h2 : 8 ≤ t.size := by omega
      clear hA hB ht htl hts h16
      go_enter Tryd.func24, Tryd.ntmps24
      go_wp2_with fail
      refine (HP.out _).mono ?_
      rintro e w1 ⟨rfl, rfl⟩
      go_wp2_with fail
      refine (HG.out _).mono ?_
      rintro e w2 ⟨rfl, hb2⟩
      go_wp2_with fail
      refine (HH.out _).mono ?_
      rintro e w3 ⟨rfl, hb3⟩
      have B3 := step_below hb2 hb3 (Nat.le_refl _)
      clear hb2 hb3
      cases q1
      · go_wp2
        go_ret3
        exact ⟨ret_pt (by rw [HN.out]; rfl) (by rw [HN.out]; rfl) (by rw [HN.out]; rfl), B3⟩
      · cases q2
        · go_wp2
          go_ret3
          exact ⟨ret_pt (by rw [HN.out]; rfl) (by rw [HN.out]; rfl) (by rw [HN.out]; rfl), B3⟩
        · go_wp2
          go_ret3
          exact ⟨ret_pt (by rw [HN.out]; rfl) (by rw [HN.out]; rfl) (by rw [HN.out]; rfl), B3⟩
    · have HN := (show Hid (pt (80 :: T) = (0, 0, false)) from pt_len h16)
      have hz : ((t.size : Int) != 16) = true := by simp; omega
      clear ht htl hts h16
      go_enter Tryd.func24, Tryd.ntmps24
      go_wp2_with fail
      refine (HP.out _).mono ?_
      rintro e w1 ⟨rfl, rfl⟩
      go_wp2
      go_ret3
      exact ⟨ret_pt (by rw [HN.out]; rfl) (by rw [HN.out]; rfl) (by rw [HN.out]), Below.refl _ _⟩

theorem sq_no {l : List UInt8} (h : En.uhOk l = false) : sqOk l = false ∧ sqN l = 0 := by
  unfold sqOk sqN
  rw [h]
  exact ⟨rfl, rfl⟩
theorem sq_yes {l : List UInt8} (h : En.uhOk l = true) : sqOk l = gnOk (En.uhL l) ∧ sqN l = gn (En.uhL l) := by
  unfold sqOk sqN
  rw [h]
  exact ⟨rfl, rfl⟩
theorem uhL_len (l : List UInt8) : (En.uhL l).length ≤ l.length := by
  unfold En.uhL
  split
  · rw [En.prs_length]; omega
  · simp

theorem seq_any (s : ByteArray) (w : World) (hs : s.size ≤ 140737488351232) :
    Calls Tryd.prog 26 #[.string s] w fun e w' => e = .returned (.tuple #[.int .i64 (sqN s.data.toList : Nat), .bool (sqOk s.data.toList)]) ∧ Below w.heap.size w w' := by
  have HU : Hid (Calls Tryd.prog 44 #[.string s] w fun e w' => ∃ v, e = .returned (.tuple #[v, .bool (En.uhOk s.data.toList)]) ∧ En.Own w' w.heap.size v (En.uhL s.data.toList) ∧ Below w.heap.size w w') := En.unhex_any s w hs
  have hl : s.data.toList.length = s.size := by simp
  cases h : En.uhOk s.data.toList
  · have HN := (show Hid (sqOk s.data.toList = false ∧ sqN s.data.toList = 0) from sq_no h)
    rw [h] at HU
    clear h hl
    go_enter Tryd.func26, Tryd.ntmps26
    go_wp2_with fail
    refine HU.out.mono ?_
    rintro e w1 ⟨v, rfl, ho, hb⟩
    go_wp2
    go_ret2
    exact ⟨ret_ib2 (by rw [HN.out.2]; rfl) HN.out.1.symm, hb⟩
  · have HN := (show Hid (sqOk s.data.toList = gnOk (En.uhL s.data.toList) ∧ sqN s.data.toList = gn (En.uhL s.data.toList)) from sq_yes h)
    have HG : Hid (∀ W, Calls Tryd.prog 42 #[.string ⟨(En.uhL s.data.toList).toArray⟩] W fun e w' => e = .returned (.tuple #[.int .i64 (gn (En.uhL s.data.toList) : Nat), .bool (gnOk (En.uhL s.data.toList))]) ∧ Below W.heap.size W w') := fun W => getNumber_any ⟨(En.uhL s.data.toList).toArray⟩ W (by have := uhL_len s.data.toList; simp [ByteArray.size]; omega)
    rw [h] at HU
    clear h hl
    go_enter Tryd.func26, Tryd.ntmps26
    go_wp2_with fail
    refine HU.out.mono ?_
    rintro e w1 ⟨v, rfl, ho, hb⟩
    obtain ⟨a, cap, rfl, hbs⟩ := ho.bytes
    have hcv := En.convert_bytes w1 a cap _ hbs
    clear ho hbs
    go_wp2_with fail
    refine (HG.out _).mono ?_
    rintro e w2 ⟨rfl, hb2⟩
    have B2 := step_below hb hb2 (Nat.le_refl _)
    clear hb hb2
    go_wp2
    go_ret2
    exact ⟨ret_ib2 (by rw [HN.out.2]) HN.out.1.symm, B2⟩
end Go.Proofs.YtaagnckppdaljaaDoor
