/-
  HttpLimits: the law's walk.
-/
import Derived.Test.YtmodmeabjhaklaaGreatDoorLmM
import Derived.Test.YtmodmeabjhaklaaGreatDoorOb
import Derived.Test.YtmodmeabjhaklaaGreatDoorRunE
import Derived.Deep.Cut
namespace Go.Proofs.YtmodmeabjhaklaaGreatDoor
open Go.RowKit

def sliN : Value → Nat
  | .slice _ n _ => n
  | _ => 0
theorem ab_app : ∀ k r, abT k r = abT k [] ++ r
  | 0, r => by simp [abT]
  | k + 1, r => by rw [abT, abT, ab_app k r]; simp
def limP (j : Nat) : List UInt8 := fstT j ++ 13 :: 10 :: (pHost ++ [13, 10])
theorem limP_eq (j : Nat) : (pGet ++ List.replicate j 120) ++ [32, 72, 84, 84, 80, 47, 49, 46, 49, 13, 10, 104, 111, 115, 116, 58, 32, 97, 13, 10] = limP j := by simp [limP, fstT, pVer, pHost]
theorem limP_len (j : Nat) : (limP j).length = j + 25 := by simp [limP, fst_len, pHost]
theorem limT_eq (j k n : Nat) : (limP j ++ abT k []) ++ (pCl ++ Lib.decDigits n ++ [13, 10, 13, 10]) = limT j k n := by
  rw [limT, ab_app k (pCl ++ Lib.decDigits n ++ 13 :: 10 :: 13 :: 10 :: [])]
  simp [limP]
theorem new_one (w : World) (c : UInt8) (x : Int) (h : x = (c.toNat : Int)) : ∀ j u, (bcs [c])[j]? = some u → (w.alloc (.cells #[.int .u8 x] 5)).cell? ((⟨w.heap.size, 0, none⟩ : Addr).add j) = some u := by
  subst h
  intro j u hj
  rw [Addr.add_lit, World.cell?_alloc_mark, Nat.zero_add, List.getElem?_toArray]
  exact hj
theorem own_args {w : World} {base : Nat} {a : Option Addr} {n cap : Nat} {l : List UInt8} (h : Own w base (.slice a n cap) l) : n = l.length ∧ l.length ≤ cap ∧ Bytes w a l ∧ (∀ x, a = some x → x.spot = none ∧ x.block < w.heap.size) ∧ (a = none → cap = 0) := by
  obtain ⟨a', cap', e, hB⟩ := Own.bytes h
  simp only [Value.slice.injEq] at e
  obtain ⟨rfl, rfl, rfl⟩ := e
  refine ⟨rfl, ?_, hB, ?_, ?_⟩
  · rcases h.2 with ⟨e, _⟩ | ⟨g, cap, cur, e, _, _, hc, _, _, _⟩
    · simp only [Value.slice.injEq] at e
      omega
    · simp only [Value.slice.injEq] at e
      omega
  · intro x hx
    subst hx
    rcases h.2 with ⟨e, _⟩ | ⟨g, cap, cur, e, _, hh, _, _, _, _⟩
    · simp at e
    · simp only [Value.slice.injEq, Option.some.injEq] at e
      obtain ⟨rfl, -, -⟩ := e
      exact ⟨rfl, blk_lt hh⟩
  · intro ha
    subst ha
    rcases h.2 with ⟨e, _⟩ | ⟨g, cap, cur, e, _, hh, _, _, _, _⟩
    · simp only [Value.slice.injEq] at e
      exact e.2.2
    · simp at e
theorem sz4 (ds : ByteArray) : (⟨#[99, 111, 110, 116, 101, 110, 116, 45, 108, 101, 110, 103, 116, 104, 58, 32]⟩ ++ ds ++ ⟨#[13, 10, 13, 10]⟩ : ByteArray).size = 20 + ds.size := by
  rw [ByteArray.size_append, ByteArray.size_append]
  show 16 + ds.size + 4 = _
  omega
theorem str4 (ds : ByteArray) : (⟨#[99, 111, 110, 116, 101, 110, 116, 45, 108, 101, 110, 103, 116, 104, 58, 32]⟩ ++ ds ++ ⟨#[13, 10, 13, 10]⟩ : ByteArray).data.toList = pCl ++ ds.data.toList ++ [13, 10, 13, 10] := by
  simp [pCl]
theorem conv_one (wr : World) (c : UInt8) (x : Int) (h : x = (c.toNat : Int)) : (convert 22 9 (.slice (some ⟨wr.heap.size, 0, none⟩) 1 1)).run Tryz.prog (wr.alloc (.cells #[.int .u8 x] 5)) = .ok (.string ⟨#[c]⟩) (wr.alloc (.cells #[.int .u8 x] 5)) := by
  subst h
  exact convert_bytes _ _ 1 [c] (const_bytes wr [c] (0, 0))
theorem dig_val (q : Nat) : (48 + (q : Int) % 10) = ((UInt8.ofNat (48 + q % 10)).toNat : Int) := by
  rw [UInt8.toNat_ofNat', Nat.mod_eq_of_lt (by omega)]
  omega
theorem dd_len {q S : Nat} {dd : List UInt8} (h : Lib.decDigits q ++ dd = Lib.decDigits S) (hS : S ≤ 2097152) : dd.length ≤ 18 := by
  have h1 := congrArg List.length h
  have := dec_len18 (n := S) (by omega)
  rw [List.length_append] at h1
  omega
set_option maxRecDepth 20000 in
set_option maxHeartbeats 4000000 in
theorem httpLimits_walk (L H S : Int) (w : World) (hm : Mx w) (he : Er w) :
    Calls Tryz.prog 8 #[.int .i64 L, .int .i64 H, .int .i64 S] w fun e w' => e = .returned (.bool true) ∧ Below w.heap.size w w' := by
  have AW := (show Hid (∀ W, Below w.heap.size w W → Calls Tryz.prog 12 #[] W fun e w' => e = .returned (.bool true) ∧ Below w.heap.size w w') from fun W hW => (awake_any W (hm.below hW (Nat.le_refl _)) (he.below hW (Nat.le_refl _))).mono fun e w' ⟨h1, h2⟩ => ⟨h1, hW.trans (h2.mono hW.size)⟩)
  have HM : Hid (Mx w ∧ Er w) := ⟨hm, he⟩
  clear hm he
  rcases (show L < 1 ∨ (¬ L < 1 ∧ 9000 < L) ∨ (¬ L < 1 ∧ ¬ 9000 < L ∧ H < 0) ∨ (¬ L < 1 ∧ ¬ 9000 < L ∧ ¬ H < 0 ∧ 110 < H) ∨ (¬ L < 1 ∧ ¬ 9000 < L ∧ ¬ H < 0 ∧ ¬ 110 < H ∧ S < 0) ∨ (¬ L < 1 ∧ ¬ 9000 < L ∧ ¬ H < 0 ∧ ¬ 110 < H ∧ ¬ S < 0 ∧ 2097152 < S) ∨ (1 ≤ L ∧ L ≤ 9000 ∧ 0 ≤ H ∧ H ≤ 110 ∧ 0 ≤ S ∧ S ≤ 2097152) by omega) with h | ⟨h, h2⟩ | ⟨h, h2, h3⟩ | ⟨h, h2, h3, h4⟩ | ⟨h, h2, h3, h4, h5⟩ | ⟨h, h2, h3, h4, h5, h6⟩ | ⟨h1, h2, h3, h4, h5, h6⟩
  rotate_left 6
  · obtain ⟨L, rfl⟩ : ∃ n : Nat, L = (n : Int) := ⟨L.toNat, by omega⟩
    obtain ⟨H, rfl⟩ : ∃ n : Nat, H = (n : Int) := ⟨H.toNat, by omega⟩
    obtain ⟨S, rfl⟩ : ∃ n : Nat, S = (n : Int) := ⟨S.toNat, by omega⟩
    have hc := Lib.run_convert_bytes_const (P := Tryz.prog) w 22 5 #[.int .u8 71, .int .u8 69, .int .u8 84, .int .u8 32, .int .u8 47] 5 5 Tryz.underlying22 Tryz.underlying5
    have hwL : IntKind.i64.wrap ((L : Int) - 9) = (L : Int) - 9 := by rw [IntKind.wrap_i64]; omega
    go_enter Tryz.func8, Tryz.ntmps8
    go_wp2_with fail
    clear hc
    go_loopw [7] (fun v wr => ∃ j : Nat, j ≤ L - 14 ∧ Ob wr w.heap.size v (pGet ++ List.replicate j 120) ∧ Below w.heap.size w wr) (fun v _ => L - sliN v)
    case atStart => exact ⟨0, Nat.zero_le _, .inr ⟨w.heap.size, _, rfl, Nat.le_refl _, heap_alloc_new _ _⟩, (Below.refl _ _).alloc (Nat.le_refl _) _⟩
    case round =>
      obtain ⟨j, hj, hO, hb⟩ := hrel
      obtain ⟨a, cap, rfl⟩ := hO.slice
      obtain ⟨n, hn⟩ : ∃ n, n = (pGet ++ List.replicate j 120).length := ⟨_, rfl⟩
      have hnj : n = 5 + j := by rw [hn]; simp [pGet]; omega
      rw [← hn] at hO ⊢
      have HO : Hid (Ob wr w.heap.size (.slice a n cap) (pGet ++ List.replicate j 120)) := hO
      have HN := (show Hid (n = 5 + j) from hnj)
      have HB := (show Hid _ from hb)
      clear hO hb hn
      by_cases hlt : (n : Int) < (L : Int) - 9
      · clear hnj
        go_wp2_with (at_builtin; go_loud (refine wpList_ob_sl rfl (.tmp 43) (.tmp 44) rfl w.heap.size _ _ rfl (Ob.alloc HO.out _) ⟨wr.heap.size, 0, none⟩ [120] 1 rfl (by have := HN.out; simp [pGet]; omega) (by simp) (by simp) (new_one wr 120 120 rfl) (by have := HB.out.size; simp; omega) ?_; intro v1 w1 hown1 hgrow1))
        have HR : Hid (Ob w1 w.heap.size v1 (pGet ++ List.replicate (j + 1) 120)) := by
          refine .inl ?_
          rw [List.replicate_succ', ← List.append_assoc]
          exact hown1
        have hB1 : Below w.heap.size w w1 := (HB.out.alloc (by have := HB.out.size; omega) _).grown hgrow1 (by have := HB.out.size; simp; omega) (fun k hk => (Ob.lt HO.out k hk).1)
        have hsn : sliN v1 = 5 + j + 1 := by
          obtain ⟨a1, c1, rfl⟩ := own_slice hown1
          simp [sliN, pGet]; omega
        clear hown1 hgrow1
        go_wp2
        go_roundw
        case rel => exact ⟨j + 1, by have := HN.out; omega, HR.out, hB1⟩
        case measure => have := HN.out; rw [hsn]; simp only [sliN]; omega
      · have hj2 : j = L - 14 := by omega
        have hnn : n ≤ 9000 := by omega
        have hwn : IntKind.i64.wrap ((n : Int) + 9) = (n : Int) + 9 := by rw [IntKind.wrap_i64]; omega
        have HJ : Hid (j = L - 14) := hj2
        clear hnj hj2 hj
        go_wp2_with (at_builtin; refine wpList_ob_str rfl (.tmp 50) (.const (.string ⟨#[32, 72, 84, 84, 80, 47, 49, 46, 49, 13, 10, 104, 111, 115, 116, 58, 32, 97, 13, 10]⟩)) rfl w.heap.size _ _ rfl HO.out ⟨#[32, 72, 84, 84, 80, 47, 49, 46, 49, 13, 10, 104, 111, 115, 116, 58, 32, 97, 13, 10]⟩ rfl (by have := HN.out; simp [pGet]; omega) (by decide) (by decide) HB.out.size ?_; intro v1 w1 hown1 hgrow1)
        have HR : Hid (Own w1 w.heap.size v1 (limP j)) := by
          rw [← limP_eq]
          exact hown1
        have HB1 : Hid (Below w.heap.size w w1) := HB.out.grown hgrow1 HB.out.size (fun k hk => (Ob.lt HO.out k hk).1)
        clear hown1 hgrow1 HO HB hlt
        go_wp2
        obtain ⟨lg, hlg⟩ : ∃ lg, lg = decide ((8192 : Int) < (n : Int) + 9) := ⟨_, rfl⟩
        rw [← hlg]
        have HLG : Hid (lg = decide ((8192 : Int) < (n : Int) + 9)) := hlg
        clear hlg
        go_loopw [7, 9] (fun v i wr2 => ∃ k : Nat, k ≤ H - 1 ∧ i = .int .i64 ((k : Int) + 1) ∧ Own wr2 w.heap.size v (limP j ++ abT k []) ∧ Below w.heap.size w wr2) (fun _ i _ => H - (intOf i).toNat)
        case atStart => exact ⟨0, Nat.zero_le _, rfl, by rw [abT, List.append_nil]; exact HR.out, HB1.out⟩
        case round =>
          obtain ⟨k, hk, rfl, hO2, hb2⟩ := hrel
          obtain ⟨a2, cap2, rfl⟩ := own_slice hO2
          obtain ⟨n2, hn2⟩ : ∃ n2, n2 = (limP j ++ abT k []).length := ⟨_, rfl⟩
          have hnk : n2 = j + 25 + 6 * k := by rw [hn2, List.length_append, limP_len, ab_len]; simp
          have HN2 := (show Hid (n2 = j + 25 + 6 * k) from hnk)
          rw [← hn2] at hO2 ⊢
          have HO2 : Hid (Own wr w.heap.size (.slice a2 n2 cap2) (limP j ++ abT k [])) := hO2
          have HB2 := (show Hid _ from hb2)
          have HNL : Hid (n2 = (limP j ++ abT k []).length) := hn2
          clear hO2 hb2 hn2 hnk
          have hwk : IntKind.i64.wrap ((k : Int) + 1 + 1) = (k : Int) + 1 + 1 := by rw [IntKind.wrap_i64]; omega
          by_cases hlt : (k : Int) + 1 < (H : Int)
          · go_wp2_with (at_builtin; refine wpList_ob_str rfl (.tmp 57) (.const (.string ⟨#[97, 58, 32, 98, 13, 10]⟩)) rfl w.heap.size _ _ rfl (Or.inl HO2.out) ⟨#[97, 58, 32, 98, 13, 10]⟩ rfl (by have := HN2.out; have := HNL.out; have := HJ.out; omega) (by decide) (by decide) HB2.out.size ?_; intro v3 w3 hown3 hgrow3)
            have HR3 : Hid (Own w3 w.heap.size v3 (limP j ++ abT (k + 1) [])) := by
              rw [ab_more, ab_app, ← List.append_assoc]
              exact hown3
            have hB3 : Below w.heap.size w w3 := HB2.out.grown hgrow3 HB2.out.size (fun b hb => (World.ownsRow.lt HO2.out b hb).1)
            clear hown3 hgrow3
            go_wp2
            go_roundw
            case rel => exact ⟨k + 1, by omega, by go_num, HR3.out, hB3⟩
            case measure => simp [intOf]; omega
          · have hk2 : k = H - 1 := by omega
            have HK : Hid (k = H - 1) := hk2
            clear hk hk2 hwk
            go_wp2
            go_loopw [10, 11] (fun nv dv wr2 => ∃ (q : Nat) (dd : List UInt8), q ≤ S ∧ nv = .int .i64 (q : Int) ∧ dv = .string ⟨dd.toArray⟩ ∧ Lib.decDigits q ++ dd = Lib.decDigits S ∧ Own wr2 w.heap.size (.slice a2 n2 cap2) (limP j ++ abT k []) ∧ Below w.heap.size w wr2) (fun nv _ _ => (intOf nv).toNat)
            case atStart => exact ⟨S, [], Nat.le_refl _, rfl, rfl, by simp, HO2.out, HB2.out⟩
            case round =>
              obtain ⟨q, dd, hqS, rfl, rfl, hdd, hO3, hb3⟩ := hrel
              have HO3 : Hid (Own wr w.heap.size (.slice a2 n2 cap2) (limP j ++ abT k [])) := hO3
              have HB3 : Hid (Below w.heap.size w wr) := hb3
              have HDD := (show Hid _ from hdd)
              have hcv := conv_one wr _ _ (dig_val q)
              have hdl : dd.length ≤ 18 := dd_len hdd (by omega)
              clear hO3 hb3 hdd
              obtain ⟨dg, hdg⟩ : ∃ dg, dg = UInt8.ofNat (48 + q % 10) := ⟨_, rfl⟩
              rw [← hdg] at hcv
              have HDG := (show Hid _ from hdg)
              clear hdg
              by_cases hq : q < 10
              · have hq0 : (((q : Int) / 10) == 0) = true := by simp; omega
                go_upto_region 17 with fail
                obtain ⟨ds, hds⟩ : ∃ ds : ByteArray, ds = ⟨#[dg]⟩ ++ ⟨dd.toArray⟩ := ⟨_, rfl⟩
                rw [← hds]
                have hdz : ds.size = dd.length + 1 := by rw [hds, ByteArray.size_append]; simp [ByteArray.size]; omega
                have HDS := (show Hid _ from hds)
                have hdz2 : ds.size ≤ 19 := by omega
                clear hds hdz
                have HZ4 := (show Hid _ from sz4 ds)
                go_wp2_with (at_builtin; refine wpList_ob_str rfl (.tmp 72) (.tmp 75) rfl w.heap.size _ _ rfl (Or.inl (World.ownsRow.alloc HO3.out _)) (⟨#[99, 111, 110, 116, 101, 110, 116, 45, 108, 101, 110, 103, 116, 104, 58, 32]⟩ ++ ds ++ ⟨#[13, 10, 13, 10]⟩) rfl (by have := HN2.out; have := HNL.out; have := HJ.out; have := HK.out; omega) (by rw [HZ4.out]; omega) (by rw [HZ4.out]; omega) (by have := HB3.out.size; simp; omega) ?_; intro v4 w4 hown4 hgrow4)
                have HR4 : Hid (Own w4 w.heap.size v4 (limT j k S)) := by
                  have e : (⟨#[99, 111, 110, 116, 101, 110, 116, 45, 108, 101, 110, 103, 116, 104, 58, 32]⟩ ++ ds ++ ⟨#[13, 10, 13, 10]⟩ : ByteArray).data.toList = pCl ++ Lib.decDigits S ++ [13, 10, 13, 10] := by
                    rw [str4, HDS.out, ← HDD.out, show Lib.decDigits q = [dg] by rw [Lib.decDigits, dif_pos hq, HDG.out, Nat.mod_eq_of_lt hq]]
                    simp
                  rw [← limT_eq, ← e]
                  exact hown4
                have hb4 : Below w.heap.size w w4 := (HB3.out.alloc HB3.out.size _).grown hgrow4 (by have := HB3.out.size; simp; omega) (fun b hb => (World.ownsRow.lt HO3.out b hb).1)
                clear hown4 hgrow4 hcv hq0 hdz2 HZ4
                obtain ⟨a4, cap4, rfl⟩ := own_slice HR4.out
                obtain ⟨-, hlc4, hB4, hab4, han4⟩ := own_args HR4.out
                obtain ⟨T, hT⟩ : ∃ T, T = limT j k S := ⟨_, rfl⟩
                have hTl : T.length ≤ 1000000 := by
                  rw [hT, ← limT_eq]
                  have := HJ.out
                  have := HK.out
                  have := dec_len18 (n := S) (by omega)
                  simp only [List.length_append, limP_len, ab_len, pCl, List.length_cons, List.length_nil]
                  omega
                have LR := limits_read j k S (by have := HJ.out; omega) (by have := HK.out; omega) (by omega)
                rw [← hT] at hlc4 hB4 LR ⊢
                have K1 := (show Hid _ from parse_any a4 T cap4 w4 hlc4 hB4 hab4 han4 (by omega) (HM.out.1.below hb4 (Nat.le_refl _)) (HM.out.2.below hb4 (Nat.le_refl _)))
                have HLR := (show Hid _ from LR)
                have HB4 : Hid (Below w.heap.size w w4) := hb4
                clear hlc4 hB4 hab4 han4 LR hT hb4
                have hwm : IntKind.i64.wrap (max (H : Int) 1 + 1) = max (H : Int) 1 + 1 := by rw [IntKind.wrap_i64]; omega
                go_wp2_with fail
                refine Calls.mono K1.out ?_
                rintro e w5 ⟨T1, rfl, hr1, hb1⟩
                obtain ⟨⟨x1, y1, z1, hth⟩, ⟨x2, y2, z2, htb⟩⟩ := hr1.form
                obtain ⟨kind1, used1, m1, t1, th1, tb1, f1, cl1, co1⟩ := T1
                dsimp only at hth htb
                subst hth htb
                simp only [Tl.v]
                have HB5 : Hid (Below w.heap.size w w5) := HB4.out.trans (hb1.mono HB4.out.size)
                have H1 := (show Hid _ from hr1)
                clear hr1 hb1 K1
                go_upto_region 19 with fail
                obtain ⟨W, hW⟩ : ∃ W, W = w5.alloc (.cells #[.int .i64 kind1, .int .i64 used1, .string m1, .string t1, .slice x1 y1 z1, .slice x2 y2 z2, .int .i64 f1, .bool cl1, .bool co1] 29) := ⟨_, rfl⟩
                rw [← hW]
                obtain ⟨M, hM⟩ : ∃ M, M = w5.heap.size := ⟨_, rfl⟩
                rw [← hM]
                have HBW : Hid (Below w.heap.size w W) := by rw [hW]; exact HB5.out.alloc HB5.out.size _
                have n1 : W.heap[M]? = some (.cells #[.int .i64 kind1, .int .i64 used1, .string m1, .string t1, .slice x1 y1 z1, .slice x2 y2 z2, .int .i64 f1, .bool cl1, .bool co1] 29 (0, 0)) := by rw [hW, hM]; exact heap_alloc_new w5 _
                clear hW hM
                have c0 := cell_blk n1 0
                have c1 := cell_blk n1 1
                have c6 := cell_blk n1 6
                simp at c0 c1 c6
                clear n1
                by_cases hA : (8192 : Int) < (n : Int) + 9
                · have hr1 := H1.out
                  rw [HLR.out.1 (by have := HN.out; omega)] at hr1
                  simp only [badT, Tl.mk.injEq] at hr1
                  obtain ⟨rfl, rfl, -, -, -, -, rfl, -, -⟩ := hr1
                  obtain rfl : lg = true := by rw [HLG.out]; exact decide_eq_true hA
                  clear hA
                  go_wp2_with fail
                  refine Calls.mono (AW.out W HBW.out) ?_
                  rintro e w9 ⟨rfl, hb9⟩
                  go_wp2
                  go_ret
                  exact ⟨rfl, hb9⟩
                · have HA : Hid ((n : Int) + 9 ≤ 8192) := by show _ ≤ _; omega
                  obtain rfl : lg = false := by rw [HLG.out]; exact decide_eq_false hA
                  clear hA
                  by_cases hBc : (100 : Int) < max (H : Int) 1 + 1
                  · have hr1 := H1.out
                    rw [HLR.out.2.1 (by have := HN.out; have := HA.out; omega) (by have := HK.out; omega)] at hr1
                    simp only [badT, Tl.mk.injEq] at hr1
                    obtain ⟨rfl, rfl, -, -, -, -, rfl, -, -⟩ := hr1
                    go_wp2_with fail
                    refine Calls.mono (AW.out W HBW.out) ?_
                    rintro e w9 ⟨rfl, hb9⟩
                    go_wp2
                    go_ret
                    exact ⟨rfl, hb9⟩
                  · by_cases hCc : (1048576 : Int) < (S : Int)
                    · have hr1 := H1.out
                      rw [HLR.out.2.2.1 (by have := HN.out; have := HA.out; omega) (by have := HK.out; omega) (by omega)] at hr1
                      simp only [badT, Tl.mk.injEq] at hr1
                      obtain ⟨rfl, rfl, -, -, -, -, rfl, -, -⟩ := hr1
                      go_wp2_with fail
                      refine Calls.mono (AW.out W HBW.out) ?_
                      rintro e w9 ⟨rfl, hb9⟩
                      go_wp2
                      go_ret
                      exact ⟨rfl, hb9⟩
                    · by_cases hDc : 0 < S
                      · have hr1 := H1.out
                        rw [HLR.out.2.2.2.1 (by have := HN.out; have := HA.out; omega) (by have := HK.out; omega) (by omega) (by omega)] at hr1
                        simp only [moreT, Tl.mk.injEq] at hr1
                        obtain ⟨rfl, rfl, -, -, -, -, rfl, -, -⟩ := hr1
                        go_wp2_with fail
                        refine Calls.mono (AW.out W HBW.out) ?_
                        rintro e w9 ⟨rfl, hb9⟩
                        go_wp2
                        go_ret
                        exact ⟨rfl, hb9⟩
                      · obtain ⟨da, db, dh, dc, dx, dy, hde⟩ := HLR.out.2.2.2.2 (by have := HN.out; have := HA.out; omega) (by have := HK.out; omega) (by omega)
                        have hr1 := H1.out
                        rw [hde] at hr1
                        obtain ⟨hv1, bv1, hr2, -, -⟩ := hr1
                        simp only [Tl.mk.injEq] at hr2
                        obtain ⟨rfl, rfl, -, -, -, -, rfl, -, -⟩ := hr2
                        clear hde
                        go_wp2_with fail
                        refine Calls.mono (AW.out W HBW.out) ?_
                        rintro e w9 ⟨rfl, hb9⟩
                        go_wp2
                        go_ret
                        exact ⟨rfl, hb9⟩
              · have hq0 : (((q : Int) / 10) == 0) = false := by simp; omega
                go_wp2
                refine ⟨⟨q / 10, dg :: dd, by omega, by go_num, rfl, ?_, World.ownsRow.alloc HO3.out _, HB3.out.alloc HB3.out.size _⟩, by simp [intOf]; omega⟩
                rw [← HDD.out, show Lib.decDigits q = Lib.decDigits (q / 10) ++ [dg] by rw [Lib.decDigits, dif_neg hq, HDG.out]]
                simp
  all_goals
    go_enter Tryz.func8, Tryz.ntmps8
    go_wp2_with fail
    refine Calls.mono (AW.out w (Below.refl _ _)) ?_
    rintro e w1 ⟨rfl, hb⟩
    go_wp2
    go_ret
    exact ⟨rfl, hb⟩
end Go.Proofs.YtmodmeabjhaklaaGreatDoor
