/-
  Keys of the map: what reads them, the document's side: what is told in a struct.
-/
import Derived.Test.YtaagnckppdaljaaDoorKeyD
namespace Go.Proofs.YtaagnckppdaljaaDoor
open Go.RowKit

def plV (b k : List UInt8) (s n : Nat) (ok : Bool) : Value := .agg #[.string ⟨b.toArray⟩, .string ⟨k.toArray⟩, .int .i64 (s : Int), .int .i64 (n : Int), .bool ok]
abbrev plC (b k : ByteArray) (s n : Int) (ok : Bool) : Array Value := #[.string b, .string k, .int .i64 s, .int .i64 n, .bool ok]

theorem cell_blk {w : World} {g : Nat} {c : Array Value} {t : TypeId} (h : w.heap[g]? = some (.cells c t (0, 0))) (j : Nat) : w.cell? ⟨g, j, none⟩ = c[j]? := by simp [World.cell?, h]
theorem frozen_blk {w : World} {g : Nat} {c : Array Value} {t : TypeId} (h : w.heap[g]? = some (.cells c t (0, 0))) (j : Nat) : w.frozen? ⟨g, j, none⟩ = false := by
  simp only [World.frozen?, h]
  rw [Bool.and_eq_false_iff]
  right
  exact decide_eq_false (by omega)
theorem set_blk {w : World} {g : Nat} {c : Array Value} {t : TypeId} (h : w.heap[g]? = some (.cells c t (0, 0))) (j : Nat) (u : Value) : (w.setCell ⟨g, j, none⟩ u).heap[g]? = some (.cells (c.setIfInBounds j u) t (0, 0)) := by
  simp only [World.setCell, Array.getElem?_modify]
  rw [if_pos trivial, h]
  simp
theorem box5_set {w : World} {g : Nat} {x0 x1 x2 x3 x4 : Value} {t : TypeId} (h : w.heap[g]? = some (.cells #[x0, x1, x2, x3, x4] t (0, 0))) (y0 y1 y2 y3 y4 : Value) :
    (((((w.setCell ⟨g, 0, none⟩ y0).setCell ⟨g, 1, none⟩ y1).setCell ⟨g, 2, none⟩ y2).setCell ⟨g, 3, none⟩ y3).setCell ⟨g, 4, none⟩ y4).heap[g]? = some (.cells #[y0, y1, y2, y3, y4] t (0, 0)) := by
  rw [set_blk (set_blk (set_blk (set_blk (set_blk h 0 y0) 1 y1) 2 y2) 3 y3) 4 y4]
  simp
theorem size31 : (Tryd.prog.info? 31).map (·.size) = some 5 := by kernel_rfl
theorem box5_ret {fn : Func} {p : Tmp} (h : fn.results = #[.cell p 31]) (tmps : Array Value) (w : World) {g : Nat} {x0 x1 x2 x3 x4 : Value} (hg : w.heap[g]? = some (.cells #[x0, x1, x2, x3, x4] 31 (0, 0))) (hp : tmps.getD p undef = .pointer (some ⟨g, 0, none⟩)) :
    (results fn tmps).run Tryd.prog w = .ok (.agg #[x0, x1, x2, x3, x4]) w :=
  results_cell_row h tmps w g 31 _ (0, 0) _ hp hg Tryd.underlying31 rfl size31
theorem box5_below {B g : Nat} {w w1 : World} (h : Below B w w1) (hg : B ≤ g) (y0 y1 y2 y3 y4 : Value) : Below B w (((((w1.setCell ⟨g, 0, none⟩ y0).setCell ⟨g, 1, none⟩ y1).setCell ⟨g, 2, none⟩ y2).setCell ⟨g, 3, none⟩ y3).setCell ⟨g, 4, none⟩ y4) :=
  ((((h.setCell hg _).setCell hg _).setCell hg _).setCell hg _).setCell hg _
theorem box5_stays {w w2 : World} {o : Obj} (hb : Below (w.alloc o).heap.size (w.alloc o) w2) : w2.heap[w.heap.size]? = some o := by
  have hlt : w.heap.size < (w.alloc o).heap.size := by show w.heap.size < (w.heap.push o).size; simp
  exact (hb.block _ hlt).trans (heap_alloc_new w o)
theorem alloc_below {w w2 : World} {o : Obj} (hb : Below (w.alloc o).heap.size (w.alloc o) w2) : Below w.heap.size w w2 :=
  step_below ((Below.refl _ w).alloc (Nat.le_refl _) o) hb (Nat.le_refl _)

theorem plV_eq {b k : ByteArray} {l m : List UInt8} {s n : Int} {s' n' : Nat} {ok ok' : Bool} (hb : b = ⟨l.toArray⟩) (hk : k = ⟨m.toArray⟩) (hs : s = (s' : Int)) (hn : n = (n' : Int)) (ho : ok = ok') :
    Ending.returned (.agg #[.string b, .string k, .int .i64 s, .int .i64 n, .bool ok]) = .returned (plV l m s' n' ok') := by rw [hb, hk, hs, hn, ho]; rfl

set_option maxHeartbeats 1000000 in
theorem refParseBucket_any (s : ByteArray) (w : World) (hs : s.size ≤ 140737488351232) :
    Calls Tryd.prog 19 #[.string s] w fun e w' => e = .returned (plV (bkV s.data.toList) [] 0 0 (bkOk s.data.toList)) ∧ Below w.heap.size w w' := by
  have HP : Hid (∀ W, Calls Tryd.prog 38 #[.string s, .string ⟨#[66]⟩] W fun e w' => e = .returned (.bool (Lib.hasPrefix s.data.toList [66])) ∧ W = w') := fun W => begins_any 66 s W hs
  have hl : s.data.toList.length = s.size := by simp
  cases hp : Lib.hasPrefix s.data.toList [66]
  · have HN := (show Hid (bkOk s.data.toList = false ∧ bkV s.data.toList = []) from bk_of hp)
    rw [hp] at HP
    clear hp hl
    go_enter Tryd.func19, Tryd.ntmps19
    go_wp2_with fail
    refine (HP.out _).mono ?_
    rintro e w1 ⟨rfl, rfl⟩
    go_wp2
    (try simp only [Exit.inBlock, Exit.then])
    refine bodyPost_ret (box5_ret rfl _ _ (heap_alloc_new w _) rfl) rfl ⟨?_, (Below.refl _ w).alloc (Nat.le_refl _) _⟩
    exact plV_eq (by rw [HN.out.2]) rfl rfl rfl HN.out.1.symm
  · obtain ⟨T, hT⟩ := (pre_one 66 _).1 hp
    rw [hp] at HP
    rw [hT, List.length_cons] at hl
    have hx : s.extract 1 s.size = ⟨T.toArray⟩ := by rw [ext_drop, hT]; rfl
    have hxs : (s.extract 1 s.size).size ≤ 140737488351232 := by simp; omega
    have HBk : Hid (∀ W, Calls Tryd.prog 39 #[.string (s.extract 1 s.size)] W fun e w' => e = .returned (.bool (bucketB T)) ∧ Below W.heap.size W w') := fun W => by
      have := refBucket_any (s.extract 1 s.size) W (by unfold maxLen; omega)
      rw [extract_drop, hT] at this
      exact this
    have HX : Hid (s.extract 1 s.size = ⟨T.toArray⟩) := hx
    rw [hT]
    have h1 : (1 : Int) ≤ (s.size : Int) := by omega
    have h1' : 1 ≤ s.size := by omega
    clear hp hT hl hx hxs
    cases hb : bucketB T
    · have HN := (show Hid (bkOk (66 :: T) = false ∧ bkV (66 :: T) = []) from ⟨by rw [bk_cons]; exact hb, bkV_no hb⟩)
      rw [hb] at HBk
      clear hb
      go_enter Tryd.func19, Tryd.ntmps19
      go_wp2_with fail
      refine (HP.out _).mono ?_
      rintro e w1 ⟨rfl, rfl⟩
      go_wp2_with fail
      refine (HBk.out _).mono ?_
      rintro e w2 ⟨rfl, hb⟩
      have hbx := box5_stays hb
      have HB := (show Hid (Below w.heap.size w w2) from alloc_below hb)
      have HBx := (show Hid _ from hbx)
      have c0 := cell_blk hbx 0
      have c1 := cell_blk hbx 1
      have c2 := cell_blk hbx 2
      have c3 := cell_blk hbx 3
      have c4 := cell_blk hbx 4
      have f0 := frozen_blk hbx 0
      have f1 := frozen_blk hbx 1
      have f2 := frozen_blk hbx 2
      have f3 := frozen_blk hbx 3
      have f4 := frozen_blk hbx 4
      simp only [List.getElem?_toArray] at c0 c1 c2 c3 c4
      clear hb hbx
      go_wp2
      (try simp only [Exit.inBlock, Exit.then])
      refine bodyPost_ret (box5_ret rfl _ _ (box5_set HBx.out _ _ _ _ _) rfl) rfl ⟨?_, box5_below HB.out (Nat.le_refl _) _ _ _ _ _⟩
      exact plV_eq (by rw [HN.out.2]) rfl rfl rfl HN.out.1.symm
    · have HN := (show Hid (bkOk (66 :: T) = true ∧ bkV (66 :: T) = T) from ⟨by rw [bk_cons]; exact hb, bkV_yes hb⟩)
      rw [hb] at HBk
      clear hb
      go_enter Tryd.func19, Tryd.ntmps19
      go_wp2_with fail
      refine (HP.out _).mono ?_
      rintro e w1 ⟨rfl, rfl⟩
      go_wp2_with fail
      refine (HBk.out _).mono ?_
      rintro e w2 ⟨rfl, hb⟩
      have hbx := box5_stays hb
      have HB := (show Hid (Below w.heap.size w w2) from alloc_below hb)
      have HBx := (show Hid _ from hbx)
      have c0 := cell_blk hbx 0
      have c1 := cell_blk hbx 1
      have c2 := cell_blk hbx 2
      have c3 := cell_blk hbx 3
      have c4 := cell_blk hbx 4
      have f0 := frozen_blk hbx 0
      have f1 := frozen_blk hbx 1
      have f2 := frozen_blk hbx 2
      have f3 := frozen_blk hbx 3
      have f4 := frozen_blk hbx 4
      simp only [List.getElem?_toArray] at c0 c1 c2 c3 c4
      clear hb hbx
      go_wp2
      (try simp only [Exit.inBlock, Exit.then])
      refine bodyPost_ret (box5_ret rfl _ _ (box5_set HBx.out _ _ _ _ _) rfl) rfl ⟨?_, box5_below HB.out (Nat.le_refl _) _ _ _ _ _⟩
      exact plV_eq (by rw [HN.out.2]; exact HX.out) rfl rfl rfl HN.out.1.symm

/-- What the document's 'long' tells. -/
noncomputable def plN (c : UInt8) (l : List UInt8) : Value :=
  match pn c l with
  | some (b, k, n) => plV b k n 0 true
  | none => plV [] [] 0 0 false
theorem plN_no {c : UInt8} {l : List UInt8} (h : ∀ b k n, ¬ NK c l b k n) : Ending.returned (.agg #[.string ⟨#[]⟩, .string ⟨#[]⟩, .int .i64 0, .int .i64 0, .bool false]) = .returned (plN c l) := by
  unfold plN
  rw [pn_no h]
  rfl
theorem plN_yes {c : UInt8} {l b k : List UInt8} {n : Nat} {B K : ByteArray} (h : NK c l b k n) (hB : B = ⟨b.toArray⟩) (hK : K = ⟨k.toArray⟩) : Ending.returned (.agg #[.string B, .string K, .int .i64 (n : Int), .int .i64 0, .bool true]) = .returned (plN c l) := by
  unfold plN
  rw [pn_yes h, hB, hK]
  rfl
theorem nk_ten {c : UInt8} {T : List UInt8} (h : T.length < 9) : ∀ b k n, ¬ NK c (c :: T) b k n := by
  intro b k n hk
  have := congrArg List.length hk.1
  simp [nk, En.be_length] at this
  omega

set_option maxHeartbeats 2000000 in
theorem refLong_any (c : UInt8) (s : ByteArray) (w : World) (hs : s.size ≤ 140737488351232) :
    Calls Tryd.prog 41 #[.string s, .string ⟨#[c]⟩] w fun e w' => e = .returned (plN c s.data.toList) ∧ Below w.heap.size w w' := by
  have HP : Hid (∀ W, Calls Tryd.prog 38 #[.string s, .string ⟨#[c]⟩] W fun e w' => e = .returned (.bool (Lib.hasPrefix s.data.toList [c])) ∧ W = w') := fun W => begins_any c s W hs
  have hl : s.data.toList.length = s.size := by simp
  cases hp : Lib.hasPrefix s.data.toList [c]
  · have HN := (show Hid (∀ b k n, ¬ NK c s.data.toList b k n) from cd_kind c hp)
    rw [hp] at HP
    clear hp hl
    go_enter Tryd.func41, Tryd.ntmps41
    go_wp2_with fail
    refine (HP.out _).mono ?_
    rintro e w1 ⟨rfl, rfl⟩
    go_wp2
    (try simp only [Exit.inBlock, Exit.then])
    refine bodyPost_ret (box5_ret rfl _ _ (heap_alloc_new w _) rfl) rfl ⟨?_, (Below.refl _ w).alloc (Nat.le_refl _) _⟩
    exact plN_no HN.out
  · obtain ⟨T, hT⟩ := (pre_one c _).1 hp
    rw [hp] at HP
    rw [hT, List.length_cons] at hl
    have hTl : (s.extract 1 s.size).data.toList = T := by rw [extract_drop, hT]; rfl
    have hxs : (s.extract 1 s.size).size ≤ 140737488351232 := by simp; omega
    rw [hT]
    clear hp hT
    by_cases h9 : T.length < 9
    · have HN := (show Hid (∀ b k n, ¬ NK c (c :: T) b k n) from nk_ten h9)
      have h10 : (s.size : Int) < 10 := by omega
      clear hl hTl hxs h9
      go_enter Tryd.func41, Tryd.ntmps41
      go_wp2_with fail
      refine (HP.out _).mono ?_
      rintro e w1 ⟨rfl, rfl⟩
      go_wp2
      (try simp only [Exit.inBlock, Exit.then])
      refine bodyPost_ret (box5_ret rfl _ _ (heap_alloc_new w _) rfl) rfl ⟨?_, (Below.refl _ w).alloc (Nat.le_refl _) _⟩
      exact plN_no HN.out
    · have h10 : ¬ ((s.size : Int) < 10) := by omega
      have h1 : (1 : Int) ≤ (s.size : Int) := by omega
      have h1' : 1 ≤ s.size := by omega
      have HC : Hid (∀ W, Calls Tryd.prog 61 #[.string (s.extract 1 s.size), .int .u8 0] W fun e w' => e = .returned (.tuple #[.string ⟨(bz T).toArray⟩, .string ⟨(az T).toArray⟩, .bool (hzb T)]) ∧ Below W.heap.size W w') := fun W => by
        have := refCut_any (s.extract 1 s.size) W hxs
        rw [hTl] at this
        exact this
      have hTb : T.length ≤ 140737488351232 := by omega
      clear hl hTl hxs h9
      have HF := (show Hid (∀ b k n, NK c (c :: T) b k n → _) from fun b k n h => rf_fwd h)
      cases hz : hzb T
      · have HN := (show Hid (∀ b k n, ¬ NK c (c :: T) b k n) from fun b k n h => by have := (rf_fwd h).1; rw [hz] at this; cases this)
        rw [hz] at HC
        clear hz HF
        go_enter Tryd.func41, Tryd.ntmps41
        go_wp2_with fail
        refine (HP.out _).mono ?_
        rintro e w1 ⟨rfl, rfl⟩
        go_wp2_with fail
        refine (HC.out _).mono ?_
        rintro e w2 ⟨rfl, hb⟩
        have hbx := box5_stays hb
        have HB := (show Hid (Below w.heap.size w w2) from alloc_below hb)
        have HBx := (show Hid _ from hbx)
        have c0 := cell_blk hbx 0
        have c1 := cell_blk hbx 1
        have c2 := cell_blk hbx 2
        have c3 := cell_blk hbx 3
        have c4 := cell_blk hbx 4
        have f0 := frozen_blk hbx 0
        have f1 := frozen_blk hbx 1
        have f2 := frozen_blk hbx 2
        have f3 := frozen_blk hbx 3
        have f4 := frozen_blk hbx 4
        simp only [List.getElem?_toArray] at c0 c1 c2 c3 c4
        clear hb hbx
        go_wp2
        (try simp only [Exit.inBlock, Exit.then])
        refine bodyPost_ret (box5_ret rfl _ _ (box5_set HBx.out _ _ _ _ _) rfl) rfl ⟨?_, box5_below HB.out (Nat.le_refl _) _ _ _ _ _⟩
        exact plN_no HN.out
      · rw [hz] at HC
        obtain ⟨R, hR⟩ : ∃ R, az T = R := ⟨_, rfl⟩
        obtain ⟨t, ht⟩ : ∃ t : ByteArray, t = ⟨R.toArray⟩ := ⟨_, rfl⟩
        have htl : t.data.toList = R := by rw [ht]
        have hts : t.size = R.length := ba_len htl
        have hRb : R.length ≤ 140737488351232 := by have := az_len T; rw [hR] at this; omega
        rw [hR, ← ht] at HC
        by_cases h9 : R.length < 9
        · have HN := (show Hid (∀ b k n, ¬ NK c (c :: T) b k n) from fun b k n h => by have := (rf_fwd h).2.1; rw [hR] at this; omega)
          have h9' : (t.size : Int) < 9 := by omega
          clear hz HF hR ht htl hts hRb h9
          go_enter Tryd.func41, Tryd.ntmps41
          go_wp2_with fail
          refine (HP.out _).mono ?_
          rintro e w1 ⟨rfl, rfl⟩
          go_wp2_with fail
          refine (HC.out _).mono ?_
          rintro e w2 ⟨rfl, hb⟩
          have hbx := box5_stays hb
          have HB := (show Hid (Below w.heap.size w w2) from alloc_below hb)
          have HBx := (show Hid _ from hbx)
          have c0 := cell_blk hbx 0
          have c1 := cell_blk hbx 1
          have c2 := cell_blk hbx 2
          have c3 := cell_blk hbx 3
          have c4 := cell_blk hbx 4
          have f0 := frozen_blk hbx 0
          have f1 := frozen_blk hbx 1
          have f2 := frozen_blk hbx 2
          have f3 := frozen_blk hbx 3
          have f4 := frozen_blk hbx 4
          simp only [List.getElem?_toArray] at c0 c1 c2 c3 c4
          clear hb hbx
          go_wp2
          (try simp only [Exit.inBlock, Exit.then])
          refine bodyPost_ret (box5_ret rfl _ _ (box5_set HBx.out _ _ _ _ _) rfl) rfl ⟨?_, box5_below HB.out (Nat.le_refl _) _ _ _ _ _⟩
          exact plN_no HN.out
        · obtain ⟨j, hj⟩ : ∃ j : Nat, t.size = j + 9 := ⟨t.size - 9, by omega⟩
          have hjl : j < t.size := by omega
          have hg0 : R[R.length - 9]'(by omega) = t[j] := by
            have : ∀ (i : Nat) (hi : i < R.length), i = j → R[i] = t[j] := fun i hi e => by
              subst e
              show R[i] = t.data[i]
              simp [ht]
            exact this _ _ (by omega)
          have h9' : ¬ ((t.size : Int) < 9) := by omega
          have h9b : (t.size : Int) - 9 = (j : Int) := by omega
          have h8b : (t.size : Int) - 8 = (j : Int) + 1 := by omega
          have h8c : (j : Int) + 1 ≤ (t.size : Int) := by omega
          have h8d : j + 1 ≤ t.size := by omega
          have hjz : (j : Int) < (t.size : Int) := by omega
          have htb : t.size ≤ 140737488351232 := by omega
          by_cases h0 : t[j] = 0
          · have hn0 : ((t[j].toNat : Int) != 0) = false := by rw [h0]; rfl
            have hKe : (t.extract 0 j).data.toList = rfK R := by rw [ext_take, htl]; unfold rfK; rw [show R.length - 9 = j by omega]
            have hNe : (t.extract (j + 1) t.size).data.toList = rfN R := by rw [extract_drop, htl]; unfold rfN; rw [show R.length - 8 = j + 1 by omega]
            have HG : Hid (∀ W, Calls Tryd.prog 43 #[.string (t.extract (j + 1) t.size)] W fun e w' => e = .returned (.tuple #[.int .i64 (gn (rfN R) : Nat), .bool (gnOk (rfN R))]) ∧ Below W.heap.size W w') := fun W => by
              have := refGet_any (t.extract (j + 1) t.size) W (by simp; omega)
              rw [hNe] at this
              exact this
            have HBk : Hid (∀ W, Calls Tryd.prog 39 #[.string ⟨(bz T).toArray⟩] W fun e w' => e = .returned (.bool (bucketB (bz T))) ∧ Below W.heap.size W w') := fun W => refBucket_any ⟨(bz T).toArray⟩ W (by have := bz_len T; simp [ByteArray.size]; unfold maxLen; omega)
            have HK : Hid (∀ W, Calls Tryd.prog 62 #[.string (t.extract 0 j)] W fun e w' => e = .returned (.bool (keyB (rfK R))) ∧ W = w') := fun W => by
              have := refKey_any (t.extract 0 j) W (by simp; unfold maxLen; omega)
              rw [hKe] at this
              exact this
            have HKe : Hid (t.extract 0 j = ⟨(rfK R).toArray⟩) := ba_of hKe
            have HY : Hid (rfOk T = true → NK c (c :: T) (bz T) (rfK R) (gn (rfN R))) := fun h => by
              have := rf_yes c hz (by rw [hR]; omega) (by simp only [hR]; exact hg0.trans h0) h
              rw [hR] at this
              exact this
            have HN : Hid (rfOk T = false → ∀ b k n, ¬ NK c (c :: T) b k n) := fun h b k n hk => by have := (rf_fwd hk).2.2.2; rw [h] at this; cases this
            have HO : Hid (rfOk T = (gnOk (rfN R) && (bucketB (bz T) && keyB (rfK R)))) := by show _ = _; unfold rfOk; rw [hR]
            clear hz HF hR ht htl hts hRb h9 hj hg0 h0 hKe hNe hTb
            generalize gnOk (rfN R) = q1 at *
            generalize bucketB (bz T) = q4 at *
            generalize keyB (rfK R) = q5 at *
            generalize gn (rfN R) = n at *
            generalize rfK R = KK at *
            generalize bz T = BB at *
            go_enter Tryd.func41, Tryd.ntmps41
            go_wp2_with fail
            refine (HP.out _).mono ?_
            rintro e w1 ⟨rfl, rfl⟩
            go_wp2_with fail
            refine (HC.out _).mono ?_
            rintro e w2 ⟨rfl, hb2⟩
            go_wp2_with fail
            refine (HG.out _).mono ?_
            rintro e w3 ⟨rfl, hb3⟩
            have hb := step_below hb2 hb3 (Nat.le_refl _)
            clear hb2 hb3
            cases q1
            ·
              have hbx := box5_stays hb
              have HB := (show Hid (Below w.heap.size w w3) from alloc_below hb)
              have HBx := (show Hid _ from hbx)
              have c0 := cell_blk hbx 0
              have c1 := cell_blk hbx 1
              have c2 := cell_blk hbx 2
              have c3 := cell_blk hbx 3
              have c4 := cell_blk hbx 4
              have f0 := frozen_blk hbx 0
              have f1 := frozen_blk hbx 1
              have f2 := frozen_blk hbx 2
              have f3 := frozen_blk hbx 3
              have f4 := frozen_blk hbx 4
              simp only [List.getElem?_toArray] at c0 c1 c2 c3 c4
              clear hb hbx
              go_wp2
              (try simp only [Exit.inBlock, Exit.then])
              refine bodyPost_ret (box5_ret rfl _ _ (box5_set HBx.out _ _ _ _ _) rfl) rfl ⟨?_, box5_below HB.out (Nat.le_refl _) _ _ _ _ _⟩
              exact plN_no (HN.out (by rw [HO.out]; rfl))
            · go_wp2_with fail
              refine (HBk.out _).mono ?_
              rintro e w4 ⟨rfl, hb4⟩
              have hb5 := step_below hb hb4 (Nat.le_refl _)
              clear hb hb4
              cases q4
              ·
                have hbx := box5_stays hb5
                have HB := (show Hid (Below w.heap.size w w4) from alloc_below hb5)
                have HBx := (show Hid _ from hbx)
                have c0 := cell_blk hbx 0
                have c1 := cell_blk hbx 1
                have c2 := cell_blk hbx 2
                have c3 := cell_blk hbx 3
                have c4 := cell_blk hbx 4
                have f0 := frozen_blk hbx 0
                have f1 := frozen_blk hbx 1
                have f2 := frozen_blk hbx 2
                have f3 := frozen_blk hbx 3
                have f4 := frozen_blk hbx 4
                simp only [List.getElem?_toArray] at c0 c1 c2 c3 c4
                clear hb5 hbx
                go_wp2
                (try simp only [Exit.inBlock, Exit.then])
                refine bodyPost_ret (box5_ret rfl _ _ (box5_set HBx.out _ _ _ _ _) rfl) rfl ⟨?_, box5_below HB.out (Nat.le_refl _) _ _ _ _ _⟩
                exact plN_no (HN.out (by rw [HO.out]; rfl))
              · go_wp2_with fail
                refine (HK.out _).mono ?_
                rintro e w5 ⟨rfl, rfl⟩
                cases q5
                ·
                  have hbx := box5_stays hb5
                  have HB := (show Hid (Below w.heap.size w w4) from alloc_below hb5)
                  have HBx := (show Hid _ from hbx)
                  have c0 := cell_blk hbx 0
                  have c1 := cell_blk hbx 1
                  have c2 := cell_blk hbx 2
                  have c3 := cell_blk hbx 3
                  have c4 := cell_blk hbx 4
                  have f0 := frozen_blk hbx 0
                  have f1 := frozen_blk hbx 1
                  have f2 := frozen_blk hbx 2
                  have f3 := frozen_blk hbx 3
                  have f4 := frozen_blk hbx 4
                  simp only [List.getElem?_toArray] at c0 c1 c2 c3 c4
                  clear hb5 hbx
                  go_wp2
                  (try simp only [Exit.inBlock, Exit.then])
                  refine bodyPost_ret (box5_ret rfl _ _ (box5_set HBx.out _ _ _ _ _) rfl) rfl ⟨?_, box5_below HB.out (Nat.le_refl _) _ _ _ _ _⟩
                  exact plN_no (HN.out (by rw [HO.out]; rfl))
                ·
                  have hbx := box5_stays hb5
                  have HB := (show Hid (Below w.heap.size w w4) from alloc_below hb5)
                  have HBx := (show Hid _ from hbx)
                  have c0 := cell_blk hbx 0
                  have c1 := cell_blk hbx 1
                  have c2 := cell_blk hbx 2
                  have c3 := cell_blk hbx 3
                  have c4 := cell_blk hbx 4
                  have f0 := frozen_blk hbx 0
                  have f1 := frozen_blk hbx 1
                  have f2 := frozen_blk hbx 2
                  have f3 := frozen_blk hbx 3
                  have f4 := frozen_blk hbx 4
                  simp only [List.getElem?_toArray] at c0 c1 c2 c3 c4
                  clear hb5 hbx
                  go_wp2
                  (try simp only [Exit.inBlock, Exit.then])
                  refine bodyPost_ret (box5_ret rfl _ _ (box5_set HBx.out _ _ _ _ _) rfl) rfl ⟨?_, box5_below HB.out (Nat.le_refl _) _ _ _ _ _⟩
                  exact plN_yes (HY.out (by rw [HO.out]; rfl)) rfl HKe.out
          · have HN := (show Hid (∀ b k n, ¬ NK c (c :: T) b k n) from fun b k n h => by
              have h2 := (rf_fwd h).2.2.1
              simp only [hR] at h2
              exact h0 (hg0.symm.trans (h2 (by omega))))
            have hn0 : ((t[j].toNat : Int) != 0) = true := by
              have : t[j].toNat ≠ 0 := fun e => h0 (UInt8.toNat_inj.1 (by rw [e]; rfl))
              simp
              exact this
            clear hz HF hR ht htl hts hRb h9 hj hg0 h0 hTb
            go_enter Tryd.func41, Tryd.ntmps41
            go_wp2_with fail
            refine (HP.out _).mono ?_
            rintro e w1 ⟨rfl, rfl⟩
            go_wp2_with fail
            refine (HC.out _).mono ?_
            rintro e w2 ⟨rfl, hb⟩
            have hbx := box5_stays hb
            have HB := (show Hid (Below w.heap.size w w2) from alloc_below hb)
            have HBx := (show Hid _ from hbx)
            have c0 := cell_blk hbx 0
            have c1 := cell_blk hbx 1
            have c2 := cell_blk hbx 2
            have c3 := cell_blk hbx 3
            have c4 := cell_blk hbx 4
            have f0 := frozen_blk hbx 0
            have f1 := frozen_blk hbx 1
            have f2 := frozen_blk hbx 2
            have f3 := frozen_blk hbx 3
            have f4 := frozen_blk hbx 4
            simp only [List.getElem?_toArray] at c0 c1 c2 c3 c4
            clear hb hbx
            go_wp2
            (try simp only [Exit.inBlock, Exit.then])
            refine bodyPost_ret (box5_ret rfl _ _ (box5_set HBx.out _ _ _ _ _) rfl) rfl ⟨?_, box5_below HB.out (Nat.le_refl _) _ _ _ _ _⟩
            exact plN_no HN.out
end Go.Proofs.YtaagnckppdaljaaDoor
