/-
  A slot's head by its contract.
-/
import Derived.Test.YtecljiefljgfmaaSWrite
import Derived.Test.YtecljiefljgfmaaStampB
import Derived.Lib.SlBytesConst
namespace Go.Proofs.Ytecljiefljgfmaa
open Go.RowKit

def crcN (l : List UInt8) : Nat := (crcL l).toNat
theorem crcN_lt (l : List UInt8) : crcN l < 4294967296 := (crcL l).isLt
def stampS (ep : Nat) (st : List UInt8) : List UInt8 := be ep 8 ++ be st.length 8
def markL : List UInt8 := [83, 78, 65, 80]
def headL (ep : Nat) (st : List UInt8) : List UInt8 := markL ++ (be (crcN (stampS ep st ++ st)) 8).drop 4 ++ stampS ep st
theorem stampS_length (ep : Nat) (st : List UInt8) : (stampS ep st).length = 16 := by rw [stampS, List.length_append, be_length, be_length]
theorem headL_length (ep : Nat) (st : List UInt8) : (headL ep st).length = 24 := by simp [headL, stampS_length, be_length, markL]

/-- Put64 told from a world further on. -/
theorem put_from (n : Nat) (w p : World) (h1 : n < 18446744073709551616) (hp : Below w.heap.size w p) : Calls Try.prog 83 #[.int .u64 (n : Int)] p fun e q => ∃ a c, e = .returned (.slice a 8 c) ∧ Bytes q a (be n 8) ∧ (a = none → c = 0) ∧ 8 ≤ c ∧ Below w.heap.size w q ∧ Below p.heap.size p q := by
  refine (put64_any n p h1).mono ?_
  rintro e q ⟨v, rfl, ho, hb⟩
  obtain ⟨a, c, rfl, hby, hno, hlc, _⟩ := ho.open
  rw [be_length] at hlc ⊢
  exact ⟨a, c, rfl, hby, hno, hlc, hp.trans (hb.mono hp.size), hb⟩

theorem put_at (n : Nat) (p : World) (h1 : n < 18446744073709551616) : Calls Try.prog 83 #[.int .u64 (n : Int)] p fun e q => ∃ g c, e = .returned (.slice (some ⟨g, 0, none⟩) 8 c) ∧ Bytes q (some ⟨g, 0, none⟩) (be n 8) ∧ 8 ≤ c ∧ Below p.heap.size p q := by
  refine (put64_any n p h1).mono ?_
  rintro e q ⟨v, rfl, ho, hb⟩
  obtain ⟨g, c, rfl, hlc, _⟩ := ho.addr (by rw [be_length]; omega)
  obtain ⟨a, c', he, hby⟩ := ho.bytes
  simp only [Value.slice.injEq] at he
  obtain ⟨rfl, _⟩ := he
  rw [be_length] at hlc ⊢
  exact ⟨g, c, rfl, hby, hlc, hb⟩
/-- Three slices of bytes laid side by side. -/
theorem three_rows {w w' : World} {x y z : Sl} (hw : w' = w.alloc (.cells #[x.v, y.v, z.v] 50)) (h1 : Bytes w x.a x.l) (n1 : x.a = none → x.c = 0) (h2 : Bytes w y.a y.l) (n2 : y.a = none → y.c = 0) (h3 : Bytes w z.a z.l) (n3 : z.a = none → z.c = 0) : Rws w' w.heap.size [x, y, z] := by
  have hb : Below w.heap.size w w' := by rw [hw]; exact (Below.refl _ _).alloc (Nat.le_refl _) _
  have hblk : w'.heap[w.heap.size]? = some (.cells #[x.v, y.v, z.v] 50 (0, 0)) := by rw [hw]; exact heap_alloc_new w _
  refine ⟨(Array.getElem?_eq_some_iff.1 hblk).1, fun j hj => ?_⟩
  have hj2 : j < 3 := hj
  rcases (by omega : j = 0 ∨ j = 1 ∨ j = 2) with rfl | rfl | rfl
  · exact ⟨cell_blk hblk 0, h1.below hb (Nat.le_refl _), n1⟩
  · exact ⟨cell_blk hblk 1, h2.below hb (Nat.le_refl _), n2⟩
  · exact ⟨cell_blk hblk 2, h3.below hb (Nat.le_refl _), n3⟩

set_option maxHeartbeats 2000000 in
set_option maxRecDepth 20000 in
theorem head_any (ep : Nat) (a : Option Addr) (st : List UInt8) (cap : Nat) (w : World) (hep : ep < 18446744073709551616) (hb : Bytes w a st) (hl : st.length ≤ 100000000) (hno : a = none → cap = 0) :
    Calls Try.prog 62 #[.agg #[.int .u64 (ep : Int), .slice a st.length cap]] w fun e w' => ∃ v, e = .returned v ∧ Own w' w.heap.size v (headL ep st) ∧ Below w.heap.size w w' := by
  obtain ⟨W, hW⟩ : ∃ W, W = w.alloc (.cells #[.int .u64 (ep : Int), .slice a st.length cap] 113) := ⟨_, rfl⟩
  obtain ⟨s, hs⟩ : ∃ s, s = w.heap.size := ⟨_, rfl⟩
  obtain ⟨n, hn⟩ : ∃ n, n = st.length := ⟨_, rfl⟩
  have hblk : W.heap[s]? = some (.cells #[.int .u64 (ep : Int), .slice a n cap] 113 (0, 0)) := by rw [hW, hs, hn]; exact heap_alloc_new w _
  have hlt : s < W.heap.size := (Array.getElem?_eq_some_iff.1 hblk).1
  have hWB : Below w.heap.size w W := by rw [hW]; exact (Below.refl _ _).alloc (Nat.le_refl _) _
  have c0 : W.cell? ⟨s, 0, none⟩ = some (.int .u64 (ep : Int)) := cell_blk hblk 0
  have c1 : W.cell? ⟨s, 1, none⟩ = some (.slice a n cap) := cell_blk hblk 1
  have HCE : Hid (∀ q : World, Below W.heap.size W q → q.cell? ⟨s, 0, none⟩ = some (.int .u64 (ep : Int)) ∧ q.cell? ⟨s, 1, none⟩ = some (.slice a n cap) ∧ Below W.heap.size W q) := by
    intro q hq
    exact ⟨(hq.cell (p := ⟨s, 0, none⟩) hlt).trans c0, (hq.cell (p := ⟨s, 1, none⟩) hlt).trans c1, hq⟩
  have HB0 := (show Below W.heap.size W W.drew from (Below.refl _ W).drew)
  have HP1 : Hid (∀ p, Below W.heap.size W p → Calls Try.prog 83 #[.int .u64 (ep : Int)] p fun e q => ∃ a c, e = .returned (.slice a 8 c) ∧ Bytes q a (be ep 8) ∧ (a = none → c = 0) ∧ 8 ≤ c ∧ Below W.heap.size W q ∧ Below p.heap.size p q) := fun p hp => put_from ep W p hep hp
  have HP2 : Hid (∀ p, Below W.heap.size W p → Calls Try.prog 83 #[.int .u64 (n : Int)] p fun e q => ∃ a c, e = .returned (.slice a 8 c) ∧ Bytes q a (be n 8) ∧ (a = none → c = 0) ∧ 8 ≤ c ∧ Below W.heap.size W q ∧ Below p.heap.size p q) := fun p hp => put_from n W p (by omega) hp
  have HC : Hid (∀ (q : World) (a1 : Option Addr) (k1 : Nat) (a2 : Option Addr) (k2 : Nat), Bytes q a1 (be ep 8) → (a1 = none → k1 = 0) → Bytes q a2 (be n 8) → (a2 = none → k2 = 0) → Below W.heap.size W q →
      Calls Try.prog 82 #[.slice (some ⟨q.heap.size, 0, none⟩) 2 2] (q.alloc (.cells #[.slice a1 8 k1, .slice a2 8 k2] 50)) fun e w' => ∃ a3 k3, e = .returned (.slice a3 16 k3) ∧ Bytes w' a3 (stampS ep st) ∧ (a3 = none → k3 = 0) ∧ Below W.heap.size W w') := by
    intro q a1 k1 a2 k2 b1 n1 b2 n2 hq
    have hr : Rws (q.alloc (.cells #[.slice a1 8 k1, .slice a2 8 k2] 50)) q.heap.size [⟨a1, be ep 8, k1⟩, ⟨a2, be n 8, k2⟩] := two_rows (by simp only [Sl.v, be_length]) b1 n1 b2 n2
    refine (concat_any q.heap.size [⟨a1, be ep 8, k1⟩, ⟨a2, be n 8, k2⟩] 2 _ hr (by simp) (by simp [cat, be_length])).mono ?_
    rintro e w' ⟨v, rfl, ho, hb⟩
    have hq2 : Below W.heap.size W (q.alloc (.cells #[.slice a1 8 k1, .slice a2 8 k2] 50)) := hq.alloc hq.size _
    have e : cat [⟨a1, be ep 8, k1⟩, ⟨a2, be n 8, k2⟩] = stampS ep st := by simp [cat, stampS, hn]
    rw [e] at ho
    obtain ⟨a3, k3, rfl, hby3, hno3, _⟩ := ho.open
    rw [stampS_length]
    exact ⟨a3, k3, rfl, hby3, hno3, hq2.trans (hb.mono hq2.size)⟩
  have HF : Hid (Bytes W a st ∧ Below w.heap.size w W) := ⟨hb.below hWB (Nat.le_refl _), hWB⟩
  rw [← hn]
  rw [← hn] at hW
  have HN : Hid (n = st.length) := hn
  have HS : Hid (s = w.heap.size) := hs
  rw [hn] at hW
  rw [← hn] at hW
  have hn8 : n ≤ 100000000 := by omega
  have hwn : IntKind.u64.wrap (n : Int) = (n : Int) := by rw [IntKind.wrap_u64]; omega
  clear hb hblk hWB hep hn hl
  go_enter Try.func62, Try.ntmps62
  go_wp2_with fail
  rw [← hW, ← hs]
  clear hW hs
  go_region_held3 (fun w' => w'.cell? ⟨s, 0, none⟩ = some (.int .u64 (ep : Int)) ∧ w'.cell? ⟨s, 1, none⟩ = some (.slice a n cap) ∧ Below W.heap.size W w') (first | exact HCE.out _ (by assumption) | exact HCE.out _ (below_alloc (by assumption) _) | (go_keep))
    (first
      | (go_at_call 83; (with_reducible refine Calls.mono (HP1.out _ (by assumption)) ?_); rintro e w1 ⟨a1, k1, rfl, by1, no1, le1, hb1, hp1⟩)
      | (go_at_call 83; (with_reducible refine Calls.mono (HP2.out _ (by assumption)) ?_); rintro e w2 ⟨a2, k2, rfl, by2, no2, le2, hb2, hp2⟩; have by1' := by1.below hp2 (Nat.le_refl _))
      | (go_at_call 82; (refine Calls.mono (HC.out w2 a1 k1 a2 k2 by1' no1 by2 no2 hb2) ?_); rintro e w3 ⟨a3, k3, rfl, by3, no3, hb3⟩))
  have hst3 : Bytes w3 a st := HF.out.1.below hb3 (Nat.le_refl _)
  have hr3 : Rws (w3.alloc (.cells #[.slice a3 16 k3, .slice a n cap] 50)) w3.heap.size [⟨a3, stampS ep st, k3⟩, ⟨a, st, cap⟩] := two_rows (by simp only [Sl.v, stampS_length, ← HN.out]) by3 no3 hst3 hno
  have hcat : cat [⟨a3, stampS ep st, k3⟩, ⟨a, st, cap⟩] = stampS ep st ++ st := by simp [cat]
  have hlen : (stampS ep st ++ st).length = 16 + n := by rw [List.length_append, stampS_length, HN.out]
  have hcc := concat_any w3.heap.size [⟨a3, stampS ep st, k3⟩, ⟨a, st, cap⟩] 2 _ hr3 (by simp) (by rw [hcat, hlen]; omega)
  rw [hcat] at hcc
  obtain ⟨cv, hcv⟩ : ∃ cv, cv = crcN (stampS ep st ++ st) := ⟨_, rfl⟩
  have hcv4 : cv < 4294967296 := by rw [hcv]; exact crcN_lt _
  have HH : Hid (headL ep st = markL ++ (be cv 8).drop 4 ++ stampS ep st) := (show _ = _ from by rw [headL, hcv])
  have HCR : Hid (∀ a4 k4 w4, Bytes w4 a4 (stampS ep st ++ st) → Calls Try.prog 78 #[.slice a4 (16 + n) k4] w4 fun e w' => e = .returned (.int .u32 (cv : Int)) ∧ Below w4.heap.size w4 w') := (by
    intro a4 k4 w4 hby
    have := crc_any a4 (stampS ep st ++ st) k4 w4 (by rw [hlen]; omega) hby
    rw [hlen, show Go.Proofs.Ytecljiefljgfmaa.W (crcL (stampS ep st ++ st)) = (cv : Int) from by rw [hcv]; rfl] at this
    exact this)
  have HB3 : Hid (Below W.heap.size W w3 ∧ Bytes w3 a3 (stampS ep st) ∧ (a3 = none → k3 = 0)) := ⟨hb3, by3, no3⟩
  have HLN : Hid ((stampS ep st ++ st).length = 16 + n) := hlen
  obtain ⟨c1', c2', _⟩ := HCE.out w3 hb3
  clear hst3 hr3 hcat hlen hcv by3 no3 hb3 HC HP1 HP2 HB0
  go_wp2_with fail
  refine Calls.mono hcc ?_
  rintro e w4 ⟨v4, rfl, ho4, hb4⟩
  obtain ⟨a4, k4, rfl, hby4, hno4, _⟩ := ho4.open
  rw [HLN.out]
  have hB3a : Below W.heap.size W (w3.alloc (.cells #[.slice a3 16 k3, .slice a n cap] 50)) := HB3.out.1.alloc HB3.out.1.size _
  have hb34 : Below w3.heap.size w3 w4 := ((Below.refl _ w3).alloc (Nat.le_refl _) _).trans (hb4.mono (by simp))
  have HB4 : Hid (Below W.heap.size W w4 ∧ Bytes w4 a3 (stampS ep st)) := ⟨hB3a.trans (hb4.mono hB3a.size), HB3.out.2.1.below hb34 (Nat.le_refl _)⟩
  have hcr := HCR.out a4 k4 w4 hby4
  clear ho4 hb4 hby4 hno4 hB3a hb34 hcc HCR
  go_wp2_with fail
  refine Calls.mono hcr ?_
  rintro e w5 ⟨rfl, hb5⟩
  have HB5 : Hid (Below W.heap.size W w5 ∧ Bytes w5 a3 (stampS ep st)) := ⟨HB4.out.1.trans (hb5.mono HB4.out.1.size), HB4.out.2.below hb5 (Nat.le_refl _)⟩
  have hpu := put_at cv w5 (by omega)
  clear hb5 hcr
  go_wp2_with fail
  refine Calls.mono hpu ?_
  rintro e w6 ⟨gp, cp, rfl, hby6, hcp, hb6⟩
  have HB6 : Hid (Below W.heap.size W w6 ∧ Bytes w6 a3 (stampS ep st) ∧ Bytes w6 (some ⟨gp, 0 + 4, none⟩) ((be cv 8).drop 4)) := ⟨HB5.out.1.trans (hb6.mono HB5.out.1.size), HB5.out.2.below hb6 (Nat.le_refl _), hby6.drop 4⟩
  have hsl : (Instr.slice 50 (.slice (some ⟨gp, 0, none⟩) 8 cp) (some (.int .i64 4)) none none).run Try.prog w6 = .ok (.slice (some ⟨gp, 4, none⟩) 4 (cp - 4)) w6 := slice_lo gp 0 8 cp 4 (by omega) (by omega) w6
  obtain ⟨w7, hw7⟩ : ∃ w7, w7 = w6.alloc (.cells #[.int .u8 83, .int .u8 78, .int .u8 65, .int .u8 80] 5 (4, 5)) := ⟨_, rfl⟩
  have hcvt : (convert 50 50 (.slice (some ⟨w6.heap.size, 0, none⟩) 4 4)).run Try.prog (w6.alloc (.cells #[.int .u8 83, .int .u8 78, .int .u8 65, .int .u8 80] 5)) = .ok (.slice (some ⟨w6.heap.size, 0, none⟩) 4 4) w7 := by
    rw [hw7]
    exact Lib.run_convert_bytes_const w6 50 5 #[.int .u8 83, .int .u8 78, .int .u8 65, .int .u8 80] 4 4 Try.underlying50 Try.underlying5
  have hb7 : Below w6.heap.size w6 w7 := by rw [hw7]; exact (Below.refl _ _).alloc (Nat.le_refl _) _
  have hmk : Bytes w7 (some ⟨w6.heap.size, 0, none⟩) markL := by
    have hn7 : w7.heap[w6.heap.size]? = some (.cells #[.int .u8 83, .int .u8 78, .int .u8 65, .int .u8 80] 5 (4, 5)) := by rw [hw7]; exact heap_alloc_new w6 _
    refine .inr ⟨_, 0, rfl, (Array.getElem?_eq_some_iff.1 hn7).1, fun j hj => ?_⟩
    have hj4 : j < 4 := hj
    rcases (by omega : j = 0 ∨ j = 1 ∨ j = 2 ∨ j = 3) with rfl | rfl | rfl | rfl <;> simp [World.cell?, hn7, markL]
  have hr7 : Rws (w7.alloc (.cells #[.slice (some ⟨w6.heap.size, 0, none⟩) 4 4, .slice (some ⟨gp, 4, none⟩) 4 (cp - 4), .slice a3 16 k3] 50)) w7.heap.size [⟨some ⟨w6.heap.size, 0, none⟩, markL, 4⟩, ⟨some ⟨gp, 4, none⟩, (be cv 8).drop 4, cp - 4⟩, ⟨a3, stampS ep st, k3⟩] :=
    three_rows (by simp only [Sl.v, stampS_length, List.length_drop, be_length]; rfl) hmk (fun h => by cases h) (HB6.out.2.2.below hb7 (Nat.le_refl _)) (fun h => by cases h) (HB6.out.2.1.below hb7 (Nat.le_refl _)) HB3.out.2.2
  have hcat : cat [⟨some ⟨w6.heap.size, 0, none⟩, markL, 4⟩, ⟨some ⟨gp, 4, none⟩, (be cv 8).drop 4, cp - 4⟩, ⟨a3, stampS ep st, k3⟩] = headL ep st := by rw [HH.out]; simp [cat]
  have hcc := concat_any w7.heap.size [⟨some ⟨w6.heap.size, 0, none⟩, markL, 4⟩, ⟨some ⟨gp, 4, none⟩, (be cv 8).drop 4, cp - 4⟩, ⟨a3, stampS ep st, k3⟩] 3 _ hr7 (by simp) (by rw [hcat, headL_length]; omega)
  rw [hcat] at hcc
  have HB7 : Hid (Below w.heap.size w w7) := by
    have h1 := HB6.out.1.trans (hb7.mono HB6.out.1.size)
    exact HF.out.2.trans (h1.mono HF.out.2.size)
  clear hb6 hpu hby6 HB5 HB4 hw7 hb7 hmk hr7 hcat
  go_wp2_with (go_at_call 82; refine Calls.mono hcc ?_; rintro e w8 ⟨v8, rfl, ho8, hb8⟩)
  go_ret
  have hB7 := HB7.out.alloc (B := w.heap.size) HB7.out.size (.cells #[.slice (some ⟨w6.heap.size, 0, none⟩) 4 4, .slice (some ⟨gp, 4, none⟩) 4 (cp - 4), .slice a3 16 k3] 50)
  exact ⟨v8, rfl, owns_base ho8 fun j hj => by have := (owns_lt ho8 j hj).1; have := hB7.size; omega, hB7.trans (hb8.mono hB7.size)⟩
end Go.Proofs.Ytecljiefljgfmaa
