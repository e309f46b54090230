/-
  The document's schedule of a block's words by its contract.
-/
import Derived.Test.YtnmffehmjgknkaaGreatDoorKeep
namespace Go.Proofs.YtnmffehmjgknkaaGreatDoor
open Go.RowKit

/-- 'append' to a row of the call's own, as a step of a region that draws. -/
theorem step_append_own {P : Program} {w : World} {ops : Array Oper} {o : Oper} {a : Act} {K : Act → World → Prop} {Q : Exit → Act → World → Prop} {E : Prop} (hgd : o.guard = none) (s x : Operand) (t : TypeId)
    (ho : o.op = .call { callee := .builtin .append, args := #[s, x], argTypes := #[t, t] })
    (base : Nat) (e : TypeId) (i : TypeInfo) (z : Value) (size bytes : Nat) (ht : P.underlying t = some (.slice e)) (hi : P.info? e = some i) (hz : i.zero = some z)
    (hsize : i.size = size) (hby : i.bytes = bytes) (hzs : z.cells.size = size) (hsz : 0 < size)
    (v : Value) (n : Nat) (xs : List Value) (hs : a.eval s = v) (hown : w.ownsRow base e size v n xs)
    (ad : Addr) (m c : Nat) (news : List Value) (hx : a.eval x = .slice (some ad) m c) (hl : news.length = m * size) (hnews : ∀ j u, news[j]? = some u → w.cell? (ad.add j) = some u) (h1 : ∀ u ∈ news, u.oneCell' = true)
    (h63 : n + m ≤ maxLen) (hbytes : (n + m) * bytes ≤ 140737488355328) (hbase : base ≤ w.heap.size)
    (h : ∀ v' w', w'.ownsRow base e size v' (n + m) (xs ++ news) → w.grownBy w' v.ownBlock → K (a.put o.dst v') w') :
    if Region.wanted o (yielded ops a.tmps) = true then Oper.wp P o a w K Q else E := by
  have hw : Region.wanted o (yielded ops a.tmps) = true := by simp [Region.wanted, hgd]
  rw [if_pos hw]
  exact wp_append_own w s x t ho base e i z size bytes ht hi hz hsize hby hzs hsz v n xs hs hown ad m c news hx hl hnews h1 h63 hbytes hbase fun v' w' h2 h3 _ => h v' w' h2 h3

theorem wraps_u32 (n : Int) (h₀ : 0 ≤ n) (h₁ : n < 2 ^ 32) : IntKind.u32.wrap n = n := by rw [IntKind.wrap_u32]; omega
theorem add_be4 (b0 b1 b2 b3 : UInt8) : (b0.toNat : Int) * (16777216 : Int) + (b1.toNat : Int) * (65536 : Int) + (b2.toNat : Int) * (256 : Int) + (b3.toNat : Int) = W (bw b0 <<< 24 ||| bw b1 <<< 16 ||| bw b2 <<< 8 ||| bw b3) := by
  have h0 := b0.toNat_lt
  have h1 := b1.toNat_lt
  have h2 := b2.toNat_lt
  have h3 := b3.toNat_lt
  rw [← W_be4]
  have j := fun i x y => bits_join .u32 32 (by decide) wraps_u32 i x y
  rw [j 24 ((b0.toNat : Int) * 16777216) ((b1.toNat : Int) * 65536) (by omega) (by omega) (by omega) (by omega) (by omega) (by omega)]
  rw [j 16 _ ((b2.toNat : Int) * 256) (by omega) (by omega) (by omega) (by omega) (by omega) (by omega)]
  rw [j 8 _ (b3.toNat : Int) (by omega) (by omega) (by omega) (by omega) (by omega) (by omega)]

/-- A row of words of the call's own. -/
def OwnW (w : World) (base : Nat) (v : Value) (l : List Wd) : Prop := w.ownsRow base 159 1 v l.length (wcs l)
theorem OwnW.some {w : World} {base : Nat} {v : Value} {l : List Wd} (h : OwnW w base v l) (hl : 0 < l.length) : ∃ g c, v = .slice (some ⟨g, 0, none⟩) l.length c ∧ base ≤ g ∧ g < w.heap.size ∧ l.length ≤ c ∧ (∀ j, j < l.length → w.cell? ⟨g, j, none⟩ = some (.int .u32 (W (l.getD j 0)))) ∧ (∀ j, w.frozen? ⟨g, j, none⟩ = false) := by
  obtain ⟨hl', ⟨_, hn⟩ | ⟨g, cap, cur, hv, hb, hh, hnc, hcm, hcs, htk⟩⟩ := h
  · omega
  · refine ⟨g, cap, hv, hb, (Array.getElem?_eq_some_iff.1 hh).1, hnc, fun j hj => ?_, fun j => by simp [World.frozen?, hh]⟩
    rw [cell_of_row w g j cur 159 (0, 0) hh, getD_at hj, ← wcs_get hj, ← htk, List.getElem?_take_of_lt (by omega)]
    simp

theorem cell_one_new' {w : World} {a : Value} {t : TypeId} : ∀ j u, [a][j]? = some u → (w.alloc (.cells #[a] t)).cell? ((⟨w.heap.size, 0, none⟩ : Addr).add j) = some u := cell_one_new w a t

theorem left_quiet (x : Wd) (s : Nat) (y : Wd) (w : World) (h0 : 0 < s) (h1 : s < 32) (hy : rotl x s = y) : Calls Tryz.prog 149 #[.int .u32 (W x), .int .i64 (s : Int)] w fun e w' => e = .returned (.int .u32 (W y)) ∧ (∃ n, w' = w.drewN n) := by
  subst hy
  exact left_any x s w h0 h1

theorem wrap_u32s (n : Int) (h0 : 0 ≤ n) (h1 : n ≤ 4294967295) : IntKind.u32.wrap n = n := by rw [IntKind.wrap_u32]; omega
theorem wrap_small (n : Nat) (h : n < 1000000) : IntKind.i64.wrap (n : Int) = (n : Int) := by rw [IntKind.wrap_i64]; omega


theorem prepA (l : List UInt8) (k : Nat) (hlt : k < 16) : ∃ (n0 n1 n2 n3 : Nat) (b0 b1 b2 b3 : UInt8) (y : Wd),
    (n0 < 64 ∧ n1 < 64 ∧ n2 < 64 ∧ n3 < 64) ∧ (l.getD n0 0 = b0 ∧ l.getD n1 0 = b1 ∧ l.getD n2 0 = b2 ∧ l.getD n3 0 = b3) ∧
    stL l (k + 1) = stL l k ++ [y] ∧
    ((4 : Int) * (k : Int) = (n0 : Int) ∧ (n0 : Int) + 1 = (n1 : Int) ∧ (n0 : Int) + 2 = (n2 : Int) ∧ (n0 : Int) + 3 = (n3 : Int)) ∧
    ((n0 : Int) < 64 ∧ (n1 : Int) < 64 ∧ (n2 : Int) < 64 ∧ (n3 : Int) < 64) ∧
    (IntKind.i64.wrap (n0 : Int) = (n0 : Int) ∧ IntKind.i64.wrap (n1 : Int) = (n1 : Int) ∧ IntKind.i64.wrap (n2 : Int) = (n2 : Int) ∧ IntKind.i64.wrap (n3 : Int) = (n3 : Int)) ∧
    (IntKind.u32.wrap (b0.toNat : Int) = (b0.toNat : Int) ∧ IntKind.u32.wrap (b1.toNat : Int) = (b1.toNat : Int) ∧ IntKind.u32.wrap (b2.toNat : Int) = (b2.toNat : Int) ∧ IntKind.u32.wrap (b3.toNat : Int) = (b3.toNat : Int)) ∧
    (IntKind.u32.wrap ((b0.toNat : Int) * 16777216) = (b0.toNat : Int) * 16777216 ∧ IntKind.u32.wrap ((b1.toNat : Int) * 65536) = (b1.toNat : Int) * 65536 ∧ IntKind.u32.wrap ((b2.toNat : Int) * 256) = (b2.toNat : Int) * 256) ∧
    (IntKind.u32.wrap ((b0.toNat : Int) * 16777216 + (b1.toNat : Int) * 65536) = (b0.toNat : Int) * 16777216 + (b1.toNat : Int) * 65536 ∧ IntKind.u32.wrap ((b0.toNat : Int) * 16777216 + (b1.toNat : Int) * 65536 + (b2.toNat : Int) * 256) = (b0.toNat : Int) * 16777216 + (b1.toNat : Int) * 65536 + (b2.toNat : Int) * 256) ∧
    IntKind.u32.wrap ((b0.toNat : Int) * 16777216 + (b1.toNat : Int) * 65536 + (b2.toNat : Int) * 256 + (b3.toNat : Int)) = (b0.toNat : Int) * 16777216 + (b1.toNat : Int) * 65536 + (b2.toNat : Int) * 256 + (b3.toNat : Int) ∧
    (b0.toNat : Int) * (16777216 : Int) + (b1.toNat : Int) * (65536 : Int) + (b2.toNat : Int) * (256 : Int) + (b3.toNat : Int) = W y ∧ IntKind.u32.wrap (W y) = W y := by
  have e0 := (l.getD (4 * k) 0).toNat_lt
  have e1 := (l.getD (4 * k + 1) 0).toNat_lt
  have e2 := (l.getD (4 * k + 2) 0).toNat_lt
  have e3 := (l.getD (4 * k + 3) 0).toNat_lt
  refine ⟨4 * k, 4 * k + 1, 4 * k + 2, 4 * k + 3, _, _, _, _, bw (l.getD (4 * k) 0) <<< 24 ||| bw (l.getD (4 * k + 1) 0) <<< 16 ||| bw (l.getD (4 * k + 2) 0) <<< 8 ||| bw (l.getD (4 * k + 3) 0), ⟨by omega, by omega, by omega, by omega⟩, ⟨rfl, rfl, rfl, rfl⟩, ?_, ⟨by omega, by omega, by omega, by omega⟩, ⟨by omega, by omega, by omega, by omega⟩, ⟨wrap_small _ (by omega), wrap_small _ (by omega), wrap_small _ (by omega), wrap_small _ (by omega)⟩, ⟨wrap_u32s _ (by omega) (by omega), wrap_u32s _ (by omega) (by omega), wrap_u32s _ (by omega) (by omega), wrap_u32s _ (by omega) (by omega)⟩, ⟨wrap_u32s _ (by omega) (by omega), wrap_u32s _ (by omega) (by omega), wrap_u32s _ (by omega) (by omega)⟩, ⟨wrap_u32s _ (by omega) (by omega), wrap_u32s _ (by omega) (by omega)⟩, wrap_u32s _ (by omega) (by omega), add_be4 _ _ _ _, wrap_W _⟩
  have : sNext l (stL l k) k = bw (l.getD (4 * k) 0) <<< 24 ||| bw (l.getD (4 * k + 1) 0) <<< 16 ||| bw (l.getD (4 * k + 2) 0) <<< 8 ||| bw (l.getD (4 * k + 3) 0) := by rw [sNext, if_pos hlt, be4]
  rw [stL, this]

theorem prepB (l : List UInt8) (k : Nat) (hk : 16 ≤ k) (hlt : k < 64) : ∃ (k16 k15 k7 k2 : Nat) (t16 t15 t7 t2 v1 v2 v3 u3s v4 v5 v6 v7 u10s v8 x16 x7 xx : Wd),
    (k16 < k ∧ k15 < k ∧ k7 < k ∧ k2 < k) ∧ ((stL l k).getD k16 0 = t16 ∧ (stL l k).getD k15 0 = t15 ∧ (stL l k).getD k7 0 = t7 ∧ (stL l k).getD k2 0 = t2) ∧
    stL l (k + 1) = stL l k ++ [xx] ∧
    ((k : Int) - 16 = (k16 : Int) ∧ (k16 : Int) < (k : Int) ∧ IntKind.i64.wrap (k16 : Int) = (k16 : Int)) ∧
    ((k : Int) - 15 = (k15 : Int) ∧ (k15 : Int) < (k : Int) ∧ IntKind.i64.wrap (k15 : Int) = (k15 : Int)) ∧
    ((k : Int) - 7 = (k7 : Int) ∧ (k7 : Int) < (k : Int) ∧ IntKind.i64.wrap (k7 : Int) = (k7 : Int)) ∧
    ((k : Int) - 2 = (k2 : Int) ∧ (k2 : Int) < (k : Int) ∧ IntKind.i64.wrap (k2 : Int) = (k2 : Int)) ∧
    (rotl t15 25 = v1 ∧ rotl t15 14 = v2 ∧ v1 ^^^ v2 = v3 ∧ t15 >>> 3 = u3s ∧ v3 ^^^ u3s = v4) ∧
    (rotl t2 15 = v5 ∧ rotl t2 13 = v6 ∧ v5 ^^^ v6 = v7 ∧ t2 >>> 10 = u10s ∧ v7 ^^^ u10s = v8) ∧
    (t16 + v4 = x16 ∧ x16 + t7 = x7 ∧ x7 + v8 = xx) := by
  refine ⟨k - 16, k - 15, k - 7, k - 2, _, _, _, _, _, _, _, _, _, _, _, _, _, _, _, _, _, ⟨by omega, by omega, by omega, by omega⟩, ⟨rfl, rfl, rfl, rfl⟩, ?_, ⟨by omega, by omega, wrap_small _ (by omega)⟩, ⟨by omega, by omega, wrap_small _ (by omega)⟩, ⟨by omega, by omega, wrap_small _ (by omega)⟩, ⟨by omega, by omega, wrap_small _ (by omega)⟩, ⟨rfl, rfl, rfl, rfl, rfl⟩, ⟨rfl, rfl, rfl, rfl, rfl⟩, ⟨rfl, rfl, rfl⟩⟩
  rw [stL, sNext, if_neg (by omega)]
  rfl

set_option maxHeartbeats 16000000 in
set_option maxRecDepth 20000 in
theorem schedule_any (b off c : Nat) (l : List UInt8) (w : World) (hl : l.length = 64) (_hc : 64 ≤ c) (hbl : b < w.heap.size)
    (hcs : ∀ j (h : j < l.length), w.cell? ⟨b, off + j, none⟩ = some (.int .u8 (l[j].toNat : Int))) :
    Calls Tryz.prog 148 #[.slice (some ⟨b, off, none⟩) 64 c] w fun e w' => ∃ v, e = .returned v ∧ OwnW w' w.heap.size v (stL l 64) ∧ Below w.heap.size w w' := by
  obtain ⟨i0, hi, hz0, hz1, hz2⟩ := info_parts info159
  have HQ0 : Hid (∀ j, j < 64 → w.cell? ⟨b, off + j, none⟩ = some (.int .u8 ((l.getD j 0).toNat : Int))) := fun j hj => Bytes.getD hcs (k := j) (by rw [hl]; exact hj)
  have HBL : Hid (b < w.heap.size) := hbl
  clear hl hcs
  go_enter Tryz.func148, Tryz.ntmps148
  go_wp2
  go_loopw [3, 4] (fun v i wr => ∃ k : Nat, k ≤ 16 ∧ i = .int .i64 k ∧ OwnW wr w.heap.size v (stL l k) ∧ Below w.heap.size w wr) (fun _ i _ => 16 - (intOf i).toNat)
  case atStart => exact ⟨0, by omega, rfl, World.ownsRow_nil w _ _ _, Below.refl _ _⟩
  case round =>
    obtain ⟨k, hk, rfl, ho, hnx⟩ := hrel
    have HO : Hid (OwnW wr w.heap.size u3 (stL l k)) := ho
    clear ho
    have hsz := hnx.size
    by_cases hlt : k < 16
    · obtain ⟨n0, n1, n2, n3, b0, b1, b2, b3, y, ⟨m0, m1, m2, m3⟩, ⟨g0, g1, g2, g3⟩, hst, ⟨i0', i1', i2', i3'⟩, ⟨hr0, hr1, hr2, hr3⟩, ⟨hw0, hw1, hw2, hw3⟩, ⟨wb0, wb1, wb2, wb3⟩, ⟨wm0, wm1, wm2⟩, ⟨ws1, ws2⟩, ws3, hsum, wy⟩ := prepA l k hlt
      have hlt' : (k : Int) < 16 := by omega
      have HST : Hid (stL l (k + 1) = stL l k ++ [y]) := hst
      have HQ : Hid (∀ w', Below w.heap.size w w' → w'.cell? ⟨b, off + n0, none⟩ = some (.int .u8 (b0.toNat : Int)) ∧ w'.cell? ⟨b, off + n1, none⟩ = some (.int .u8 (b1.toNat : Int)) ∧ w'.cell? ⟨b, off + n2, none⟩ = some (.int .u8 (b2.toNat : Int)) ∧ w'.cell? ⟨b, off + n3, none⟩ = some (.int .u8 (b3.toNat : Int))) := fun w' hb => by
        have hq := HQ0.out
        have hl := HBL.out
        refine ⟨?_, ?_, ?_, ?_⟩
        · rw [hb.cell (p := ⟨b, off + n0, none⟩) hl, hq n0 m0, g0]
        · rw [hb.cell (p := ⟨b, off + n1, none⟩) hl, hq n1 m1, g1]
        · rw [hb.cell (p := ⟨b, off + n2, none⟩) hl, hq n2 m2, g2]
        · rw [hb.cell (p := ⟨b, off + n3, none⟩) hl, hq n3 m3, g3]
      obtain ⟨q0, q1, q2, q3⟩ := HQ.out wr hnx
      have HOWN : Hid (wr.ownsRow w.heap.size 159 1 u3 k (wcs (stL l k))) := by
        have : wr.ownsRow w.heap.size 159 1 u3 (stL l k).length (wcs (stL l k)) := HO.out
        rw [stL_length] at this
        exact this
      clear m0 m1 m2 m3 g0 g1 g2 g3 hst HO
      go_wp2_with fail
      go_region_held3 (fun w' => w'.cell? ⟨b, off + n0, none⟩ = some (.int .u8 (b0.toNat : Int)) ∧ w'.cell? ⟨b, off + n1, none⟩ = some (.int .u8 (b1.toNat : Int)) ∧ w'.cell? ⟨b, off + n2, none⟩ = some (.int .u8 (b2.toNat : Int)) ∧ w'.cell? ⟨b, off + n3, none⟩ = some (.int .u8 (b3.toNat : Int))) (go_keep)
        (first
          | (refine step_append_own rfl (.tmp 12) (.tmp 46) 160 rfl w.heap.size 159 i0 (.int .u32 0) 1 4 Tryz.underlying160 hi hz0 hz1 hz2 rfl (by decide) u3 k (wcs (stL l k)) rfl (World.ownsRow.drew (World.ownsRow.alloc HOWN.out _)) ⟨wr.heap.size, 0, none⟩ 1 1 [.int .u32 (W y)] rfl rfl (cell_one_new wr _ _) (one_one _ rfl) (by unfold maxLen; omega) (by omega) (by simp; omega) ?_; intro v1 w1 hown1 hgrow1; have hB1 : Below w.heap.size w w1 := ((hnx.alloc hsz _).drew).grown hgrow1 (by simp; omega) (fun j hj => (World.ownsRow.lt HOWN.out j hj).1); obtain ⟨s0, s1, s2, s3⟩ := HQ.out w1 hB1))
      have HO1 : Hid (OwnW w1 w.heap.size v1 (stL l (k + 1))) := by
        show w1.ownsRow w.heap.size 159 1 v1 (stL l (k + 1)).length (wcs (stL l (k + 1)))
        rw [stL_length, HST.out, wcs_append]
        exact hown1
      clear hown1 hgrow1 HOWN q0 q1 q2 q3 s0 s1 s2 s3 i0' i1' i2' i3' hr0 hr1 hr2 hr3 hw0 hw1 hw2 hw3 wb0 wb1 wb2 wb3 wm0 wm1 wm2 ws1 ws2 ws3 hsum wy HQ
      go_wp2
      go_roundw
      case rel => exact ⟨k + 1, by omega, by go_num, HO1.out, hB1⟩
      case measure => simp [intOf]; omega
    · obtain rfl : k = 16 := by omega
      clear HQ0 HBL hlt
      go_wp2
      go_loopw [3, 5] (fun v i wr => ∃ k : Nat, 16 ≤ k ∧ k ≤ 64 ∧ i = .int .i64 k ∧ OwnW wr w.heap.size v (stL l k) ∧ Below w.heap.size w wr) (fun _ i _ => 64 - (intOf i).toNat)
      case atStart => exact ⟨16, by omega, by omega, rfl, HO.out, hnx⟩
      case round =>
        clear HO hnx hsz
        obtain ⟨k, hk0, hk, rfl, ho, hnx⟩ := hrel
        obtain ⟨g, cc, rfl, hgb, hgl, hlc, hce, hfz⟩ := OwnW.some ho (by rw [stL_length]; omega)
        rw [stL_length] at hlc hce ⊢
        have HOWN : Hid (wr.ownsRow w.heap.size 159 1 (.slice (some ⟨g, 0, none⟩) k cc) k (wcs (stL l k))) := by
          have : wr.ownsRow w.heap.size 159 1 (.slice (some ⟨g, 0, none⟩) (stL l k).length cc) (stL l k).length (wcs (stL l k)) := ho
          rw [stL_length] at this
          exact this
        have HCE : Hid (∀ j, j < k → wr.cell? ⟨g, j, none⟩ = some (.int .u32 (W ((stL l k).getD j 0)))) := hce
        have HNX : Hid (Below w.heap.size w wr) := hnx
        have HGB : Hid (w.heap.size ≤ g ∧ g < wr.heap.size) := ⟨hgb, hgl⟩
        clear hfz hce
        by_cases hlt : k < 64
        · obtain ⟨k16, k15, k7, k2, t16, t15, t7, t2, v1, v2, v3, u3s, v4, v5, v6, v7, u10s, v8, x16, x7, xx, ⟨m16, m15, m7, m2⟩, ⟨g16, g15, g7, g2⟩, hst, ⟨i16, l16, w16⟩, ⟨i15, l15, w15⟩, ⟨i7, l7, w7⟩, ⟨i2, l2, w2⟩, ⟨p1, p2, p3, p4, p5⟩, ⟨p6, p7, p8, p9, p10⟩, ⟨p11, p12, p13⟩⟩ := prepB l k hk0 hlt
          have hlt' : (k : Int) < 64 := by omega
          have HST : Hid (stL l (k + 1) = stL l k ++ [xx]) := hst
          have HX16 : Hid ((wcs (stL l k))[k16]? = some (.int .u32 (W t16))) := by
            show _ = _
            rw [← g16, getD_at (by rw [stL_length]; omega), wcs_get]
          have HX7 : Hid ((wcs (stL l k))[k7]? = some (.int .u32 (W t7))) := by
            show _ = _
            rw [← g7, getD_at (by rw [stL_length]; omega), wcs_get]
          have c15 := HCE.out k15 m15
          rw [g15] at c15
          have GC : Hid (wr.cell? ⟨g, k16, none⟩ = some (.int .u32 (W t16)) ∧ wr.cell? ⟨g, k7, none⟩ = some (.int .u32 (W t7)) ∧ wr.cell? ⟨g, k2, none⟩ = some (.int .u32 (W t2))) := by
            refine ⟨?_, ?_, ?_⟩
            · rw [← g16]; exact HCE.out k16 m16
            · rw [← g7]; exact HCE.out k7 m7
            · rw [← g2]; exact HCE.out k2 m2
          have GI2 : Hid ((k : Int) - 2 = (k2 : Int) ∧ (k2 : Int) < (k : Int) ∧ IntKind.i64.wrap (k2 : Int) = (k2 : Int)) := ⟨i2, l2, w2⟩
          have GI16 : Hid ((k : Int) - 16 = (k16 : Int) ∧ (k16 : Int) < (k : Int) ∧ IntKind.i64.wrap (k16 : Int) = (k16 : Int)) := ⟨i16, l16, w16⟩
          have GI7 : Hid ((k : Int) - 7 = (k7 : Int) ∧ (k7 : Int) < (k : Int) ∧ IntKind.i64.wrap (k7 : Int) = (k7 : Int)) := ⟨i7, l7, w7⟩
          have x1 := W_xor v1 v2
          rw [p3] at x1
          have x2 := W_shr3 t15
          rw [p4] at x2
          have x3 := W_xor v3 u3s
          rw [p5] at x3
          have HP : Hid (v5 ^^^ v6 = v7 ∧ t2 >>> 10 = u10s ∧ v7 ^^^ u10s = v8 ∧ t16 + v4 = x16 ∧ x16 + t7 = x7 ∧ x7 + v8 = xx) := ⟨p8, p9, p10, p11, p12, p13⟩
          have H1 : Hid (∀ w', Calls Tryz.prog 149 #[.int .u32 (W t15), .int .i64 25] w' fun e w'' => e = .returned (.int .u32 (W v1)) ∧ (∃ n, w'' = w'.drewN n)) := fun w' => left_quiet t15 25 v1 w' (by decide) (by decide) p1
          have H2 : Hid (∀ w', Calls Tryz.prog 149 #[.int .u32 (W t15), .int .i64 14] w' fun e w'' => e = .returned (.int .u32 (W v2)) ∧ (∃ n, w'' = w'.drewN n)) := fun w' => left_quiet t15 14 v2 w' (by decide) (by decide) p2
          have H5 : Hid (∀ w', Calls Tryz.prog 149 #[.int .u32 (W t2), .int .i64 15] w' fun e w'' => e = .returned (.int .u32 (W v5)) ∧ (∃ n, w'' = w'.drewN n)) := fun w' => left_quiet t2 15 v5 w' (by decide) (by decide) p6
          have H6 : Hid (∀ w', Calls Tryz.prog 149 #[.int .u32 (W t2), .int .i64 13] w' fun e w'' => e = .returned (.int .u32 (W v6)) ∧ (∃ n, w'' = w'.drewN n)) := fun w' => left_quiet t2 13 v6 w' (by decide) (by decide) p7
          clear p1 p2 p3 p4 p5 p6 p7 p8 p9 p10 p11 p12 p13 i2 l2 w2 i16 l16 w16 i7 l7 w7 g16 g15 g7 g2 m16 m15 m7 m2 hst HCE hnx hgb hgl ho
          go_wp2_with fail
          go_quiet (first
            | (go_at_call 149; with_reducible exact Calls.quiet_of (H1.out _))
            | (go_at_call 149; with_reducible exact Calls.quiet_of (H2.out _)))
          clear x1 x2 x3 c15 i15 l15 w15 H1 H2
          have GC1 : Hid ((wr.drewN nq).cell? ⟨g, k16, none⟩ = some (.int .u32 (W t16)) ∧ (wr.drewN nq).cell? ⟨g, k7, none⟩ = some (.int .u32 (W t7))) := ⟨GC.out.1, GC.out.2.1⟩
          have c2 : (wr.drewN nq).cell? ⟨g, k2, none⟩ = some (.int .u32 (W t2)) := GC.out.2.2
          have HOWN1 : Hid ((wr.drewN nq).ownsRow w.heap.size 159 1 (.slice (some ⟨g, 0, none⟩) k cc) k (wcs (stL l k))) := HOWN.out
          have HNX1 : Hid (Below w.heap.size w (wr.drewN nq)) := below_drewN HNX.out nq
          have HGB1 : Hid (w.heap.size ≤ g ∧ g < (wr.drewN nq).heap.size) := HGB.out
          clear GC HOWN HNX HGB
          generalize wr.drewN nq = wr1 at *
          obtain ⟨i2, l2, w2⟩ := GI2.out
          have y1 := W_xor v5 v6
          rw [HP.out.1] at y1
          have y2 := W_shr10 t2
          rw [HP.out.2.1] at y2
          have y3 := W_xor v7 u10s
          rw [HP.out.2.2.1] at y3
          clear GI2
          go_wp2_with fail
          go_quiet (first
            | (go_at_call 149; with_reducible exact Calls.quiet_of (H5.out _))
            | (go_at_call 149; with_reducible exact Calls.quiet_of (H6.out _)))
          clear y1 y2 y3 c2 i2 l2 w2 H5 H6
          have c16 : (wr1.drewN nq).cell? ⟨g, k16, none⟩ = some (.int .u32 (W t16)) := GC1.out.1
          have c7 : (wr1.drewN nq).cell? ⟨g, k7, none⟩ = some (.int .u32 (W t7)) := GC1.out.2
          have HOWN : Hid ((wr1.drewN nq).ownsRow w.heap.size 159 1 (.slice (some ⟨g, 0, none⟩) k cc) k (wcs (stL l k))) := HOWN1.out
          have hnx : Below w.heap.size w (wr1.drewN nq) := below_drewN HNX1.out nq
          have hsz := hnx.size
          have hgb : w.heap.size ≤ g := HGB1.out.1
          have hgl : g < (wr1.drewN nq).heap.size := HGB1.out.2
          clear GC1 HOWN1 HNX1 HGB1
          generalize wr1.drewN nq = wr2 at *
          obtain ⟨i16, l16, w16⟩ := GI16.out
          obtain ⟨i7, l7, w7⟩ := GI7.out
          have a1 := W_addm t16 v4
          have a1' := W_add t16 v4
          rw [HP.out.2.2.2.1] at a1 a1'
          have a2 := W_addm x16 t7
          have a2' := W_add x16 t7
          rw [HP.out.2.2.2.2.1] at a2 a2'
          have a3 := W_addm x7 v8
          have a3' := W_add x7 v8
          rw [HP.out.2.2.2.2.2] at a3 a3'
          have wxx := wrap_W xx
          clear GI16 GI7 HP
          go_wp2_with fail
          go_region_held3 (fun w' => w'.cell? ⟨g, k16, none⟩ = some (.int .u32 (W t16)) ∧ w'.cell? ⟨g, k7, none⟩ = some (.int .u32 (W t7))) (go_keep)
            (first
              | (refine step_append_keep rfl (.tmp 92) (.tmp 108) 160 rfl w.heap.size 159 i0 (.int .u32 0) 1 4 Tryz.underlying160 hi hz0 hz1 hz2 rfl (by decide) g k cc (wcs (stL l k)) rfl (World.ownsRow.drew (World.ownsRow.alloc HOWN.out _)) ⟨wr2.heap.size, 0, none⟩ 1 1 [.int .u32 (W xx)] rfl rfl (cell_one_new wr2 _ _) (one_one _ rfl) (by unfold maxLen; omega) (by omega) (by simp; omega) ?_; intro v9 w9 hown9 hgrow9 hkp9; have s16 := hkp9 _ _ HX16.out; have s7 := hkp9 _ _ HX7.out; clear hkp9))
          all_goals
            have hB9 : Below w.heap.size w w9 := ((hnx.alloc hsz _).drew).grown hgrow9 (by simp; omega) (by intro j hj; cases hj; exact hgb)
            have HO9 : Hid (OwnW w9 w.heap.size v9 (stL l (k + 1))) := by
              show w9.ownsRow w.heap.size 159 1 v9 (stL l (k + 1)).length (wcs (stL l (k + 1)))
              rw [stL_length, HST.out, wcs_append]
              exact hown9
            clear hown9 hgrow9 HOWN s16 s7 c16 c7 a1 a1' a2 a2' a3 a3' i16 i7 l16 l7 w16 w7 wxx HX16 HX7
            go_wp2
            go_roundw
            case rel =>
              first
                | exact ⟨k + 1, by omega, by omega, by go_num, HO9.out, hB9⟩
                | ((repeat apply Exists.intro); exact ⟨⟨k + 1, by omega, by omega, by go_num, HO9.out, hB9⟩, rfl⟩)
            case measure => simp [intOf]; omega
        · have HK : Hid (k = 64) := by show k = 64; omega
          have hge : ¬ (k : Int) < 64 := by omega
          have HO : Hid (OwnW wr w.heap.size (.slice (some ⟨g, 0, none⟩) k cc) (stL l k)) := by
            have := ho
            rw [stL_length] at this
            exact this
          clear HCE HOWN ho hlc hgb hgl hnx HGB hlt
          go_wp2
          go_ret
          exact ⟨_, rfl, by have := HO.out; rw [HK.out] at this; rw [HK.out]; exact this, HNX.out⟩
end Go.Proofs.YtnmffehmjgknkaaGreatDoor
