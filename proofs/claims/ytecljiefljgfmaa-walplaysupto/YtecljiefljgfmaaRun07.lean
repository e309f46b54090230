/-
  Two slices of bytes laid side by side.
-/
import Derived.Test.YtecljiefljgfmaaRun04
import Derived.Test.YtecljiefljgfmaaRun06
import Derived.Lib.SlBytesConst
import Derived.Test.YtecljiefljgfmaaRun01
namespace Go.Proofs.Ytecljiefljgfmaa
open Go.RowKit

/-- Two slices of bytes laid side by side. -/
theorem two_rows {w w' : World} {x y : Sl} (hw : w' = w.alloc (.cells #[x.v, y.v] 50)) (h1 : Bytes w x.a x.l) (n1 : x.a = none → x.c = 0) (h2 : Bytes w y.a y.l) (n2 : y.a = none → y.c = 0) : Rws w' w.heap.size [x, y] := by
  have hb : Below w.heap.size w w' := by rw [hw]; exact (Below.refl _ _).alloc (Nat.le_refl _) _
  have hblk : w'.heap[w.heap.size]? = some (.cells #[x.v, y.v] 50 (0, 0)) := by rw [hw]; exact heap_alloc_new w _
  refine ⟨(Array.getElem?_eq_some_iff.1 hblk).1, fun j hj => ?_⟩
  have hj2 : j < 2 := hj
  rcases (by omega : j = 0 ∨ j = 1) with rfl | rfl
  · exact ⟨cell_blk hblk 0, h1.below hb (Nat.le_refl _), n1⟩
  · exact ⟨cell_blk hblk 1, h2.below hb (Nat.le_refl _), n2⟩

end Go.Proofs.Ytecljiefljgfmaa
/-
  A slot's head by its contract.
-/
namespace Go.Proofs.Ytecljiefljgfmaa
open Go.RowKit

def crcN (l : List UInt8) : Nat := (crcL l).toNat
theorem crcN_lt (l : List UInt8) : crcN l < 4294967296 := (crcL l).isLt
def stampS (ep : Nat) (st : List UInt8) : List UInt8 := be ep 8 ++ be st.length 8
def markL : List UInt8 := [83, 78, 65, 80]
def headL (ep : Nat) (st : List UInt8) : List UInt8 := markL ++ (be (crcN (stampS ep st ++ st)) 8).drop 4 ++ stampS ep st
theorem stampS_length (ep : Nat) (st : List UInt8) : (stampS ep st).length = 16 := by rw [stampS, List.length_append, be_length, be_length]
theorem headL_length (ep : Nat) (st : List UInt8) : (headL ep st).length = 24 := by simp [headL, stampS_length, be_length, markL]

/-- Put64 told from a world further on. -/
theorem put_from (n : Nat) (w p : World) (h1 : n < 18446744073709551616) (hp : Below w.heap.size w p) : Calls Try.prog 83 #[.int .u64 (n : Int)] p fun e q => ∃ a c, e = .returned (.slice a 8 c) ∧ Bytes q a (be n 8) ∧ (a = none → c = 0) ∧ 8 ≤ c ∧ Below w.heap.size w q ∧ Below p.heap.size p q := by
  refine (put64_any n p h1).mono ?_
  rintro e q ⟨v, rfl, ho, hb⟩
  obtain ⟨a, c, rfl, hby, hno, hlc, _⟩ := ho.open
  rw [be_length] at hlc ⊢
  exact ⟨a, c, rfl, hby, hno, hlc, hp.trans (hb.mono hp.size), hb⟩

theorem put_at (n : Nat) (p : World) (h1 : n < 18446744073709551616) : Calls Try.prog 83 #[.int .u64 (n : Int)] p fun e q => ∃ g c, e = .returned (.slice (some ⟨g, 0, none⟩) 8 c) ∧ Bytes q (some ⟨g, 0, none⟩) (be n 8) ∧ 8 ≤ c ∧ Below p.heap.size p q := by
  refine (put64_any n p h1).mono ?_
  rintro e q ⟨v, rfl, ho, hb⟩
  obtain ⟨g, c, rfl, hlc, _⟩ := ho.addr (by rw [be_length]; omega)
  obtain ⟨a, c', he, hby⟩ := ho.bytes
  simp only [Value.slice.injEq] at he
  obtain ⟨rfl, _⟩ := he
  rw [be_length] at hlc ⊢
  exact ⟨g, c, rfl, hby, hlc, hb⟩
/-- Three slices of bytes laid side by side. -/
theorem three_rows {w w' : World} {x y z : Sl} (hw : w' = w.alloc (.cells #[x.v, y.v, z.v] 50)) (h1 : Bytes w x.a x.l) (n1 : x.a = none → x.c = 0) (h2 : Bytes w y.a y.l) (n2 : y.a = none → y.c = 0) (h3 : Bytes w z.a z.l) (n3 : z.a = none → z.c = 0) : Rws w' w.heap.size [x, y, z] := by
  have hb : Below w.heap.size w w' := by rw [hw]; exact (Below.refl _ _).alloc (Nat.le_refl _) _
  have hblk : w'.heap[w.heap.size]? = some (.cells #[x.v, y.v, z.v] 50 (0, 0)) := by rw [hw]; exact heap_alloc_new w _
  refine ⟨(Array.getElem?_eq_some_iff.1 hblk).1, fun j hj => ?_⟩
  have hj2 : j < 3 := hj
  rcases (by omega : j = 0 ∨ j = 1 ∨ j = 2) with rfl | rfl | rfl
  · exact ⟨cell_blk hblk 0, h1.below hb (Nat.le_refl _), n1⟩
  · exact ⟨cell_blk hblk 1, h2.below hb (Nat.le_refl _), n2⟩
  · exact ⟨cell_blk hblk 2, h3.below hb (Nat.le_refl _), n3⟩

set_option maxHeartbeats 2000000 in
set_option maxRecDepth 20000 in
theorem head_any (ep : Nat) (a : Option Addr) (st : List UInt8) (cap : Nat) (w : World) (hep : ep < 18446744073709551616) (hb : Bytes w a st) (hl : st.length ≤ 100000000) (hno : a = none → cap = 0) :
    Calls Try.prog 62 #[.agg #[.int .u64 (ep : Int), .slice a st.length cap]] w fun e w' => ∃ v, e = .returned v ∧ Own w' w.heap.size v (headL ep st) ∧ Below w.heap.size w w' := by
  obtain ⟨W, hW⟩ : ∃ W, W = w.alloc (.cells #[.int .u64 (ep : Int), .slice a st.length cap] 113) := ⟨_, rfl⟩
  obtain ⟨s, hs⟩ : ∃ s, s = w.heap.size := ⟨_, rfl⟩
  obtain ⟨n, hn⟩ : ∃ n, n = st.length := ⟨_, rfl⟩
  have hblk : W.heap[s]? = some (.cells #[.int .u64 (ep : Int), .slice a n cap] 113 (0, 0)) := by rw [hW, hs, hn]; exact heap_alloc_new w _
  have hlt : s < W.heap.size := (Array.getElem?_eq_some_iff.1 hblk).1
  have hWB : Below w.heap.size w W := by rw [hW]; exact (Below.refl _ _).alloc (Nat.le_refl _) _
  have c0 : W.cell? ⟨s, 0, none⟩ = some (.int .u64 (ep : Int)) := cell_blk hblk 0
  have c1 : W.cell? ⟨s, 1, none⟩ = some (.slice a n cap) := cell_blk hblk 1
  have HCE : Hid (∀ q : World, Below W.heap.size W q → q.cell? ⟨s, 0, none⟩ = some (.int .u64 (ep : Int)) ∧ q.cell? ⟨s, 1, none⟩ = some (.slice a n cap) ∧ Below W.heap.size W q) := by
    intro q hq
    exact ⟨(hq.cell (p := ⟨s, 0, none⟩) hlt).trans c0, (hq.cell (p := ⟨s, 1, none⟩) hlt).trans c1, hq⟩
  have HB0 := (show Below W.heap.size W W.drew from (Below.refl _ W).drew)
  have HP1 : Hid (∀ p, Below W.heap.size W p → Calls Try.prog 83 #[.int .u64 (ep : Int)] p fun e q => ∃ a c, e = .returned (.slice a 8 c) ∧ Bytes q a (be ep 8) ∧ (a = none → c = 0) ∧ 8 ≤ c ∧ Below W.heap.size W q ∧ Below p.heap.size p q) := fun p hp => put_from ep W p hep hp
  have HP2 : Hid (∀ p, Below W.heap.size W p → Calls Try.prog 83 #[.int .u64 (n : Int)] p fun e q => ∃ a c, e = .returned (.slice a 8 c) ∧ Bytes q a (be n 8) ∧ (a = none → c = 0) ∧ 8 ≤ c ∧ Below W.heap.size W q ∧ Below p.heap.size p q) := fun p hp => put_from n W p (by omega) hp
  have HC : Hid (∀ (q : World) (a1 : Option Addr) (k1 : Nat) (a2 : Option Addr) (k2 : Nat), Bytes q a1 (be ep 8) → (a1 = none → k1 = 0) → Bytes q a2 (be n 8) → (a2 = none → k2 = 0) → Below W.heap.size W q →
      Calls Try.prog 82 #[.slice (some ⟨q.heap.size, 0, none⟩) 2 2] (q.alloc (.cells #[.slice a1 8 k1, .slice a2 8 k2] 50)) fun e w' => ∃ a3 k3, e = .returned (.slice a3 16 k3) ∧ Bytes w' a3 (stampS ep st) ∧ (a3 = none → k3 = 0) ∧ Below W.heap.size W w') := by
    intro q a1 k1 a2 k2 b1 n1 b2 n2 hq
    have hr : Rws (q.alloc (.cells #[.slice a1 8 k1, .slice a2 8 k2] 50)) q.heap.size [⟨a1, be ep 8, k1⟩, ⟨a2, be n 8, k2⟩] := two_rows (by simp only [Sl.v, be_length]) b1 n1 b2 n2
    refine (concat_any q.heap.size [⟨a1, be ep 8, k1⟩, ⟨a2, be n 8, k2⟩] 2 _ hr (by simp) (by simp [cat, be_length])).mono ?_
    rintro e w' ⟨v, rfl, ho, hb⟩
    have hq2 : Below W.heap.size W (q.alloc (.cells #[.slice a1 8 k1, .slice a2 8 k2] 50)) := hq.alloc hq.size _
    have e : cat [⟨a1, be ep 8, k1⟩, ⟨a2, be n 8, k2⟩] = stampS ep st := by simp [cat, stampS, hn]
    rw [e] at ho
    obtain ⟨a3, k3, rfl, hby3, hno3, _⟩ := ho.open
    rw [stampS_length]
    exact ⟨a3, k3, rfl, hby3, hno3, hq2.trans (hb.mono hq2.size)⟩
  have HF : Hid (Bytes W a st ∧ Below w.heap.size w W) := ⟨hb.below hWB (Nat.le_refl _), hWB⟩
  rw [← hn]
  rw [← hn] at hW
  have HN : Hid (n = st.length) := hn
  have HS : Hid (s = w.heap.size) := hs
  rw [hn] at hW
  rw [← hn] at hW
  have hn8 : n ≤ 100000000 := by omega
  have hwn : IntKind.u64.wrap (n : Int) = (n : Int) := by rw [IntKind.wrap_u64]; omega
  clear hb hblk hWB hep hn hl
  go_enter Try.func62, Try.ntmps62
  go_wp2_with fail
  rw [← hW, ← hs]
  clear hW hs
  go_region_held3 (fun w' => w'.cell? ⟨s, 0, none⟩ = some (.int .u64 (ep : Int)) ∧ w'.cell? ⟨s, 1, none⟩ = some (.slice a n cap) ∧ Below W.heap.size W w') (first | exact HCE.out _ (by assumption) | exact HCE.out _ (below_alloc (by assumption) _) | (go_keep))
    (first
      | (go_at_call 83; (with_reducible refine Calls.mono (HP1.out _ (by assumption)) ?_); rintro e w1 ⟨a1, k1, rfl, by1, no1, le1, hb1, hp1⟩)
      | (go_at_call 83; (with_reducible refine Calls.mono (HP2.out _ (by assumption)) ?_); rintro e w2 ⟨a2, k2, rfl, by2, no2, le2, hb2, hp2⟩; have by1' := by1.below hp2 (Nat.le_refl _))
      | (go_at_call 82; (refine Calls.mono (HC.out w2 a1 k1 a2 k2 by1' no1 by2 no2 hb2) ?_); rintro e w3 ⟨a3, k3, rfl, by3, no3, hb3⟩))
  have hst3 : Bytes w3 a st := HF.out.1.below hb3 (Nat.le_refl _)
  have hr3 : Rws (w3.alloc (.cells #[.slice a3 16 k3, .slice a n cap] 50)) w3.heap.size [⟨a3, stampS ep st, k3⟩, ⟨a, st, cap⟩] := two_rows (by simp only [Sl.v, stampS_length, ← HN.out]) by3 no3 hst3 hno
  have hcat : cat [⟨a3, stampS ep st, k3⟩, ⟨a, st, cap⟩] = stampS ep st ++ st := by simp [cat]
  have hlen : (stampS ep st ++ st).length = 16 + n := by rw [List.length_append, stampS_length, HN.out]
  have hcc := concat_any w3.heap.size [⟨a3, stampS ep st, k3⟩, ⟨a, st, cap⟩] 2 _ hr3 (by simp) (by rw [hcat, hlen]; omega)
  rw [hcat] at hcc
  obtain ⟨cv, hcv⟩ : ∃ cv, cv = crcN (stampS ep st ++ st) := ⟨_, rfl⟩
  have hcv4 : cv < 4294967296 := by rw [hcv]; exact crcN_lt _
  have HH : Hid (headL ep st = markL ++ (be cv 8).drop 4 ++ stampS ep st) := (show _ = _ from by rw [headL, hcv])
  have HCR : Hid (∀ a4 k4 w4, Bytes w4 a4 (stampS ep st ++ st) → Calls Try.prog 78 #[.slice a4 (16 + n) k4] w4 fun e w' => e = .returned (.int .u32 (cv : Int)) ∧ Below w4.heap.size w4 w') := (by
    intro a4 k4 w4 hby
    have := crc_any a4 (stampS ep st ++ st) k4 w4 (by rw [hlen]; omega) hby
    rw [hlen, show Go.Proofs.Ytecljiefljgfmaa.W (crcL (stampS ep st ++ st)) = (cv : Int) from by rw [hcv]; rfl] at this
    exact this)
  have HB3 : Hid (Below W.heap.size W w3 ∧ Bytes w3 a3 (stampS ep st) ∧ (a3 = none → k3 = 0)) := ⟨hb3, by3, no3⟩
  have HLN : Hid ((stampS ep st ++ st).length = 16 + n) := hlen
  obtain ⟨c1', c2', _⟩ := HCE.out w3 hb3
  clear hst3 hr3 hcat hlen hcv by3 no3 hb3 HC HP1 HP2 HB0
  go_wp2_with fail
  refine Calls.mono hcc ?_
  rintro e w4 ⟨v4, rfl, ho4, hb4⟩
  obtain ⟨a4, k4, rfl, hby4, hno4, _⟩ := ho4.open
  rw [HLN.out]
  have hB3a : Below W.heap.size W (w3.alloc (.cells #[.slice a3 16 k3, .slice a n cap] 50)) := HB3.out.1.alloc HB3.out.1.size _
  have hb34 : Below w3.heap.size w3 w4 := ((Below.refl _ w3).alloc (Nat.le_refl _) _).trans (hb4.mono (by simp))
  have HB4 : Hid (Below W.heap.size W w4 ∧ Bytes w4 a3 (stampS ep st)) := ⟨hB3a.trans (hb4.mono hB3a.size), HB3.out.2.1.below hb34 (Nat.le_refl _)⟩
  have hcr := HCR.out a4 k4 w4 hby4
  clear ho4 hb4 hby4 hno4 hB3a hb34 hcc HCR
  go_wp2_with fail
  refine Calls.mono hcr ?_
  rintro e w5 ⟨rfl, hb5⟩
  have HB5 : Hid (Below W.heap.size W w5 ∧ Bytes w5 a3 (stampS ep st)) := ⟨HB4.out.1.trans (hb5.mono HB4.out.1.size), HB4.out.2.below hb5 (Nat.le_refl _)⟩
  have hpu := put_at cv w5 (by omega)
  clear hb5 hcr
  go_wp2_with fail
  refine Calls.mono hpu ?_
  rintro e w6 ⟨gp, cp, rfl, hby6, hcp, hb6⟩
  have HB6 : Hid (Below W.heap.size W w6 ∧ Bytes w6 a3 (stampS ep st) ∧ Bytes w6 (some ⟨gp, 0 + 4, none⟩) ((be cv 8).drop 4)) := ⟨HB5.out.1.trans (hb6.mono HB5.out.1.size), HB5.out.2.below hb6 (Nat.le_refl _), hby6.drop 4⟩
  have hsl : (Instr.slice 50 (.slice (some ⟨gp, 0, none⟩) 8 cp) (some (.int .i64 4)) none none).run Try.prog w6 = .ok (.slice (some ⟨gp, 4, none⟩) 4 (cp - 4)) w6 := slice_lo gp 0 8 cp 4 (by omega) (by omega) w6
  obtain ⟨w7, hw7⟩ : ∃ w7, w7 = w6.alloc (.cells #[.int .u8 83, .int .u8 78, .int .u8 65, .int .u8 80] 5 (4, 5)) := ⟨_, rfl⟩
  have hcvt : (convert 50 50 (.slice (some ⟨w6.heap.size, 0, none⟩) 4 4)).run Try.prog (w6.alloc (.cells #[.int .u8 83, .int .u8 78, .int .u8 65, .int .u8 80] 5)) = .ok (.slice (some ⟨w6.heap.size, 0, none⟩) 4 4) w7 := by
    rw [hw7]
    exact Lib.run_convert_bytes_const w6 50 5 #[.int .u8 83, .int .u8 78, .int .u8 65, .int .u8 80] 4 4 Try.underlying50 Try.underlying5
  have hb7 : Below w6.heap.size w6 w7 := by rw [hw7]; exact (Below.refl _ _).alloc (Nat.le_refl _) _
  have hmk : Bytes w7 (some ⟨w6.heap.size, 0, none⟩) markL := by
    have hn7 : w7.heap[w6.heap.size]? = some (.cells #[.int .u8 83, .int .u8 78, .int .u8 65, .int .u8 80] 5 (4, 5)) := by rw [hw7]; exact heap_alloc_new w6 _
    refine .inr ⟨_, 0, rfl, (Array.getElem?_eq_some_iff.1 hn7).1, fun j hj => ?_⟩
    have hj4 : j < 4 := hj
    rcases (by omega : j = 0 ∨ j = 1 ∨ j = 2 ∨ j = 3) with rfl | rfl | rfl | rfl <;> simp [World.cell?, hn7, markL]
  have hr7 : Rws (w7.alloc (.cells #[.slice (some ⟨w6.heap.size, 0, none⟩) 4 4, .slice (some ⟨gp, 4, none⟩) 4 (cp - 4), .slice a3 16 k3] 50)) w7.heap.size [⟨some ⟨w6.heap.size, 0, none⟩, markL, 4⟩, ⟨some ⟨gp, 4, none⟩, (be cv 8).drop 4, cp - 4⟩, ⟨a3, stampS ep st, k3⟩] :=
    three_rows (by simp only [Sl.v, stampS_length, List.length_drop, be_length]; rfl) hmk (fun h => by cases h) (HB6.out.2.2.below hb7 (Nat.le_refl _)) (fun h => by cases h) (HB6.out.2.1.below hb7 (Nat.le_refl _)) HB3.out.2.2
  have hcat : cat [⟨some ⟨w6.heap.size, 0, none⟩, markL, 4⟩, ⟨some ⟨gp, 4, none⟩, (be cv 8).drop 4, cp - 4⟩, ⟨a3, stampS ep st, k3⟩] = headL ep st := by rw [HH.out]; simp [cat]
  have hcc := concat_any w7.heap.size [⟨some ⟨w6.heap.size, 0, none⟩, markL, 4⟩, ⟨some ⟨gp, 4, none⟩, (be cv 8).drop 4, cp - 4⟩, ⟨a3, stampS ep st, k3⟩] 3 _ hr7 (by simp) (by rw [hcat, headL_length]; omega)
  rw [hcat] at hcc
  have HB7 : Hid (Below w.heap.size w w7) := by
    have h1 := HB6.out.1.trans (hb7.mono HB6.out.1.size)
    exact HF.out.2.trans (h1.mono HF.out.2.size)
  clear hb6 hpu hby6 HB5 HB4 hw7 hb7 hmk hr7 hcat
  go_wp2_with (go_at_call 82; refine Calls.mono hcc ?_; rintro e w8 ⟨v8, rfl, ho8, hb8⟩)
  go_ret
  have hB7 := HB7.out.alloc (B := w.heap.size) HB7.out.size (.cells #[.slice (some ⟨w6.heap.size, 0, none⟩) 4 4, .slice (some ⟨gp, 4, none⟩) 4 (cp - 4), .slice a3 16 k3] 50)
  exact ⟨v8, rfl, owns_base ho8 fun j hj => by have := (owns_lt ho8 j hj).1; have := hB7.size; omega, hB7.trans (hb8.mono hB7.size)⟩
end Go.Proofs.Ytecljiefljgfmaa
/-
  Fits, within and Save by their contracts.
-/
namespace Go.Proofs.Ytecljiefljgfmaa
open Go.RowKit

def fitsB (n size : Int) : Bool := decide (1 ≤ n ∧ 0 ≤ size ∧ (sect size.toNat : Int) ≤ n - 1)
theorem fits_any (n size : Int) (w : World) (hn : n ≤ 9223372036854775807) (hs : size ≤ 9223372036854775807) :
    Calls Try.prog 35 #[.int .i64 n, .int .i64 size] w fun e w' => e = .returned (.bool (fitsB n size)) ∧ w = w' := by
  by_cases h1 : 1 ≤ n
  · by_cases h2 : 0 ≤ size
    · obtain ⟨m, rfl⟩ : ∃ m : Nat, size = (m : Int) := ⟨size.toNat, by omega⟩
      have hc := count_any m w (by omega)
      have HE : Hid (fitsB n (m : Int) = decide ((sect m : Int) ≤ n - 1)) := (show _ = _ from by simp [fitsB, h1])
      rw [HE.out]
      obtain ⟨k, hk⟩ : ∃ k, k = sect m := ⟨_, rfl⟩
      rw [← hk] at hc ⊢
      have hkb : k ≤ 9223372036854775807 := by rw [hk]; unfold sect; omega
      clear HE hk
      go_enter Try.func35, Try.ntmps35
      go_wp2_with (go_at_call 53; refine Calls.mono hc ?_; rintro e w1 ⟨rfl, rfl⟩)
      go_ret
      exact ⟨rfl, rfl⟩
    · have HE : Hid (fitsB n size = false) := (show _ = _ from by simp [fitsB]; omega)
      rw [HE.out]
      go_enter Try.func35, Try.ntmps35
      go_wp2
      go_ret
      exact ⟨rfl, rfl⟩
  · have HE : Hid (fitsB n size = false) := (show _ = _ from by simp [fitsB]; omega)
    rw [HE.out]
    go_enter Try.func35, Try.ntmps35
    go_wp2
    go_ret
    exact ⟨rfl, rfl⟩

theorem swithin_yes (d p n : Nat) (w : World) (F : Nat → Prop) (M : D) (h : Dev w F d M) (h1 : 1 ≤ n) (hn : p + 2 * n ≤ M.L.length) :
    Calls Try.prog 60 #[.pointer (some ⟨d, 0, none⟩), .int .i64 (p : Int), .int .i64 (n : Int)] w fun e w' => e = .returned (.bool true) ∧ w = w' := by
  have hw1 := within_yes d p n w F M h (by omega)
  have hw2 := within_yes d (p + n) n w F M h (by omega)
  have htop := h.1.top
  rw [show ((p + n : Nat) : Int) = (p : Int) + (n : Int) from by omega] at hw2
  clear h
  go_enter Try.func60, Try.ntmps60
  go_wp2_with (first | (go_at_call 41; (with_reducible refine Calls.mono hw1 ?_); rintro e w1 ⟨rfl, rfl⟩) | (go_at_call 41; (with_reducible refine Calls.mono hw2 ?_); rintro e w1 ⟨rfl, rfl⟩))
  go_ret
  exact ⟨rfl, rfl⟩

/-- What Save does to a device: the state first, its head behind it. -/
def saveF (M : D) (q : Nat) (ep : Nat) (st : List UInt8) : Int × D :=
  if (wrsF M (q + 1) (psecs st)).1 ≠ 0 then wrsF M (q + 1) (psecs st) else wrsF (wrsF M (q + 1) (psecs st)).2 q (psecs (headL ep st))

theorem save_full (d p n ep : Nat) (a : Option Addr) (st : List UInt8) (cap : Nat) (w : World) (F : Nat → Prop) (M : D) (h : Dev w F d M) (h1 : 1 ≤ n) (hn : p + 2 * n ≤ M.L.length) (hl : st.length ≤ 9223372036854775807) (hf : fitsB n st.length = false) :
    Calls Try.prog 31 #[.pointer (some ⟨d, 0, none⟩), .int .i64 (p : Int), .int .i64 (n : Int), .int .u64 (ep : Int), .slice a st.length cap] w fun e w' => e = .returned (.int .i64 60) ∧ w = w' := by
  have hw1 := swithin_yes d p n w F M h h1 hn
  have htop := h.1.top
  have hfi := fits_any n st.length w (by omega) (by omega)
  rw [hf] at hfi
  clear h hf
  go_enter Try.func31, Try.ntmps31
  go_wp2_with (first | (go_at_call 60; refine Calls.mono hw1 ?_; rintro e w1 ⟨rfl, rfl⟩) | (go_at_call 35; refine Calls.mono hfi ?_; rintro e w1 ⟨rfl, rfl⟩))
  go_ret
  exact ⟨rfl, rfl⟩

/-- The head is laid behind the state. -/
theorem save_tail (d q ep : Nat) (a : Option Addr) (st : List UInt8) (cap : Nat) (w w1 : World) (F : Nat → Prop) (N : D) (hFlt : ∀ k, F k → k < w.heap.size) (hD : Dev w1 (Grow F w w1) d N) (hT : Turn F w w1) (hC : N.C = []) (hep : ep < 18446744073709551616) (hb : Bytes w a st) (hab : st ≠ [] → ∀ ad, a = some ad → ¬ F ad.block) (hl : st.length ≤ 100000000) (hno : a = none → cap = 0) (hq : q ≤ 100000) :
    Calls Try.prog 62 #[.agg #[.int .u64 (ep : Int), .slice a st.length cap]] w1 fun e w2 => ∃ g c, e = .returned (.slice (some ⟨g, 0, none⟩) 24 c) ∧
      Calls Try.prog 61 #[.pointer (some ⟨d, 0, none⟩), .int .i64 (q : Int), .slice (some ⟨g, 0, none⟩) 24 c] w2 fun e w3 => e = .returned (.int .i64 (wrsF N q (psecs (headL ep st))).1) ∧ Dev w3 (Grow F w w3) d (wrsF N q (psecs (headL ep st))).2 ∧ Turn F w w3 := by
  have hb1 : Bytes w1 a st := by
    by_cases h0 : st = []
    · exact .inl h0
    · exact hb.turn hT (hab h0)
  refine Calls.mono (head_any ep a st cap w1 hep hb1 hl hno) ?_
  rintro e w2 ⟨v2, rfl, ho2, hb2⟩
  obtain ⟨g, c, rfl, hlc, hg1, hg2⟩ := ho2.addr (by rw [headL_length]; omega)
  obtain ⟨a', c', he, hby⟩ := ho2.bytes
  simp only [Value.slice.injEq] at he
  obtain ⟨rfl, _⟩ := he
  have hsz := hT.size
  have hsw := swrite_any d q (some ⟨g, 0, none⟩) (headL ep st) c w2 (Grow F w w1) N (hD.below hb2) hby (by
    intro _ ad e hf
    simp only [Option.some.injEq] at e
    subst e
    rcases hf with hf | hf
    · have := hFlt _ hf; simp at this; omega
    · simp at hf; omega) hlc (by rw [hC, headL_length]; simp [sect]) hq
  rw [headL_length] at hsw ⊢
  refine ⟨g, c, rfl, Calls.mono hsw ?_⟩
  rintro e w3 ⟨rfl, hD3, hT3⟩
  refine ⟨rfl, hD3.wider ?_ ?_, hT.trans ((Turn.of_below hb2).trans' hT3)⟩
  · intro k hk
    have := hb2.size; have := hT3.size
    rcases hk with (hk | hk) | hk
    · exact .inl hk
    · exact .inr ⟨hk.1, by omega⟩
    · exact .inr ⟨by omega, hk.2⟩
  · intro k hk
    have := hb2.size; have := hT3.size
    rcases hk with hk | hk
    · have := hFlt k hk; omega
    · exact hk.2

set_option maxHeartbeats 2000000 in
set_option maxRecDepth 20000 in
theorem save_ok (d p n ep q : Nat) (a : Option Addr) (st : List UInt8) (cap : Nat) (w : World) (F : Nat → Prop) (M : D) (h : Dev w F d M) (h1 : 1 ≤ n) (hn : p + 2 * n ≤ M.L.length) (hf : fitsB n st.length = true) (hq : q = p + ep % 2 * n) (hep : ep < 18446744073709551616)
    (hb : Bytes w a st) (hab : st ≠ [] → ∀ ad, a = some ad → ¬ F ad.block) (hlc : st.length ≤ cap) (hno : a = none → cap = 0) (hC : M.C.length ≤ 10000) :
    Calls Try.prog 31 #[.pointer (some ⟨d, 0, none⟩), .int .i64 (p : Int), .int .i64 (n : Int), .int .u64 (ep : Int), .slice a st.length cap] w fun e w' => e = .returned (.int .i64 (saveF M q ep st).1) ∧ Dev w' (Grow F w w') d (saveF M q ep st).2 ∧ Turn F w w' := by
  have hw1 := swithin_yes d p n w F M h h1 hn
  have htop := h.1.top
  have hfn : sect st.length ≤ n - 1 := by
    simp only [fitsB, decide_eq_true_eq, Int.toNat_natCast] at hf
    omega
  have hsl : st.length ≤ 256 * (n - 1) := Nat.le_trans (sect_le _) (Nat.mul_le_mul_left _ hfn)
  have hfi := fits_any n st.length w (by omega) (by omega)
  rw [hf] at hfi
  have hq4 : q ≤ 4096 := by
    rw [hq]
    rcases (by omega : ep % 2 = 0 ∨ ep % 2 = 1) with h0 | h0 <;> rw [h0] <;> omega
  have hsw := swrite_any d (q + 1) a st cap w F M h hb hab hlc (by omega) (by omega)
  obtain ⟨R, hR⟩ : ∃ R, R = wrsF M (q + 1) (psecs st) := ⟨_, rfl⟩
  rw [← hR, show ((q + 1 : Nat) : Int) = (q : Int) + 1 from by omega] at hsw
  have HT := fun w1 (hD : Dev w1 (Grow F w w1) d R.2) (hT : Turn F w w1) (hC : R.2.C = []) => save_tail d q ep a st cap w w1 F R.2 h.2.1 hD hT hC hep hb hab (by omega) hno (by omega)
  have HE : Hid (R.1 = 0 → R.2.C = []) := (show _ → _ from by rw [hR]; exact wrsF_empty _ _ _)
  have HSF : Hid (saveF M q ep st = if R.1 ≠ 0 then R else wrsF R.2 q (psecs (headL ep st))) := (show _ = _ from by rw [saveF, ← hR])
  have HTH := (show Hid _ from HT)
  obtain ⟨E, N⟩ := R
  obtain ⟨k, hk⟩ : ∃ k, k = st.length := ⟨_, rfl⟩
  rw [← hk] at hfi hsw ⊢
  simp only [← hk] at HTH
  have hkb : k ≤ 1048576 := by omega
  have hpb : p ≤ 4096 := by omega
  have hnb : n ≤ 4096 := by omega
  rcases (by omega : ep % 2 = 0 ∨ ep % 2 = 1) with h0 | h0
  · have hrem : (ep : Int) % 2 = 0 := by omega
    obtain rfl : q = p := by rw [hq, h0]; omega
    clear h hf hq hb hab hlc hR hC h0 hn hk hfn hsl HT
    by_cases hE : E = 0
    · subst hE
      have HNC : Hid (N.C = []) := HE.out rfl
      clear HE
      go_enter Try.func31, Try.ntmps31
      go_wp2_with (first
        | (go_at_call 60; refine Calls.mono hw1 ?_; rintro e w1 ⟨rfl, rfl⟩)
        | (go_at_call 35; refine Calls.mono hfi ?_; rintro e w1 ⟨rfl, rfl⟩)
        | (go_at_call 61; refine Calls.mono hsw ?_; rintro e w1 ⟨rfl, hD1, hT1⟩; have ht := HTH.out w1 hD1 hT1 HNC.out; clear hD1 hT1 hsw)
        | (go_at_call 62; refine Calls.mono ht ?_; rintro e w2 ⟨g, c, rfl, ht2⟩)
        | (go_at_call 61; refine Calls.mono ht2 ?_; rintro e w3 ⟨rfl, hD3, hT3⟩))
      go_ret
      rw [HSF.out]
      exact ⟨rfl, hD3, hT3⟩
    · have hb0 : (E != 0) = true := by rw [bne_iff_ne]; exact hE
      have HE2 : Hid (saveF M q ep st = (E, N)) := (show _ = _ from by rw [HSF.out, if_pos hE])
      clear hE HTH
      go_enter Try.func31, Try.ntmps31
      go_wp2_with (first
        | (go_at_call 60; refine Calls.mono hw1 ?_; rintro e w1 ⟨rfl, rfl⟩)
        | (go_at_call 35; refine Calls.mono hfi ?_; rintro e w1 ⟨rfl, rfl⟩)
        | (go_at_call 61; refine Calls.mono hsw ?_; rintro e w1 ⟨rfl, hD1, hT1⟩))
      go_ret
      rw [HE2.out]
      exact ⟨rfl, hD1, hT1⟩
  · have hrem : (ep : Int) % 2 = 1 := by omega
    have hq2 : (p : Int) + (n : Int) = (q : Int) := by rw [hq, h0]; omega
    clear h hf hq hb hab hlc hR hC h0 hn hk hfn hsl HT
    by_cases hE : E = 0
    · subst hE
      have HNC : Hid (N.C = []) := HE.out rfl
      clear HE
      go_enter Try.func31, Try.ntmps31
      go_wp2_with (first
        | (go_at_call 60; refine Calls.mono hw1 ?_; rintro e w1 ⟨rfl, rfl⟩)
        | (go_at_call 35; refine Calls.mono hfi ?_; rintro e w1 ⟨rfl, rfl⟩)
        | (go_at_call 61; refine Calls.mono hsw ?_; rintro e w1 ⟨rfl, hD1, hT1⟩; have ht := HTH.out w1 hD1 hT1 HNC.out; clear hD1 hT1 hsw)
        | (go_at_call 62; refine Calls.mono ht ?_; rintro e w2 ⟨g, c, rfl, ht2⟩)
        | (go_at_call 61; refine Calls.mono ht2 ?_; rintro e w3 ⟨rfl, hD3, hT3⟩))
      go_ret
      rw [HSF.out]
      exact ⟨rfl, hD3, hT3⟩
    · have hb0 : (E != 0) = true := by rw [bne_iff_ne]; exact hE
      have HE2 : Hid (saveF M q ep st = (E, N)) := (show _ = _ from by rw [HSF.out, if_pos hE])
      clear hE HTH
      go_enter Try.func31, Try.ntmps31
      go_wp2_with (first
        | (go_at_call 60; refine Calls.mono hw1 ?_; rintro e w1 ⟨rfl, rfl⟩)
        | (go_at_call 35; refine Calls.mono hfi ?_; rintro e w1 ⟨rfl, rfl⟩)
        | (go_at_call 61; refine Calls.mono hsw ?_; rintro e w1 ⟨rfl, hD1, hT1⟩))
      go_ret
      rw [HE2.out]
      exact ⟨rfl, hD1, hT1⟩
end Go.Proofs.Ytecljiefljgfmaa
/-
  The document's device told by plain lists, and how it lies in memory.
-/
namespace Go.Proofs.Ytecljiefljgfmaa
open Go.RowKit

theorem info106 : (Try.prog.info? 106).map (fun i => (i.zero, i.size, i.bytes)) = some (some (.agg #[.int .i64 0, .string ⟨#[]⟩]), 2, 24) := by kernel_rfl

structure R where
  L : List ByteArray
  W : List (Nat × ByteArray)
  f : Int
  dead : Bool

def R.burn (M : R) : Int × R := if M.f = 0 then (50, { M with dead := true }) else if 0 < M.f then (0, { M with f := M.f - 1 }) else (0, M)
def R.wr (M : R) (i : Int) (b : ByteArray) : Int × R :=
  if M.dead = true then (50, M)
  else if ¬ (0 ≤ i ∧ i < (M.L.length : Int) ∧ b.size = 256) then (1, M)
  else if M.burn.1 ≠ 0 then M.burn
  else (0, { M.burn.2 with W := M.W ++ [(i.toNat, b)] })
def R.flush (M : R) : Int × R := if M.dead = true then (50, M) else if M.burn.1 ≠ 0 then M.burn else (0, { M.burn.2 with L := app M.L M.W, W := [] })
def R.crash (M : R) (keep : List Bool) : R := { L := app M.L (kept keep M.W), W := [], f := -1, dead := false }
def R.new (n : Nat) (b : ByteArray) : R := { L := List.replicate n b, W := [], f := -1, dead := false }
def R.fuse (M : R) (k : Int) : R := { M with f := max k (-1) }

structure R.Ok (M : R) : Prop where
  pos : 0 < M.L.length
  top : M.L.length ≤ 4096
  sec : ∀ p ∈ M.W, p.1 < M.L.length
  f0 : -1 ≤ M.f
  f1 : M.f ≤ 9223372036854775807

theorem R.burn_L (M : R) : M.burn.2.L = M.L ∧ M.burn.2.W = M.W := by
  unfold R.burn
  split
  · exact ⟨rfl, rfl⟩
  · split <;> exact ⟨rfl, rfl⟩
theorem R.burn_two (M : R) : M.burn.1 = 0 ∨ M.burn.1 = 50 := by
  unfold R.burn
  split
  · exact .inr rfl
  · split <;> exact .inl rfl
theorem R.Ok.burn {M : R} (h : M.Ok) : M.burn.2.Ok := by
  have h0 := h.f0
  have h1 := h.f1
  unfold R.burn
  split
  · exact ⟨h.pos, h.top, h.sec, h.f0, h.f1⟩
  · split
    · exact ⟨h.pos, h.top, h.sec, by show -1 ≤ M.f - 1; omega, by show M.f - 1 ≤ _; omega⟩
    · exact h
theorem R.Ok.wr {M : R} (h : M.Ok) (i : Int) (b : ByteArray) : (M.wr i b).2.Ok := by
  unfold R.wr
  split
  · exact h
  · split
    · exact h
    · split
      · exact h.burn
      · rename_i h1 h2 h3
        have hb := h.burn
        obtain ⟨e1, e2⟩ := M.burn_L
        have hi : 0 ≤ i ∧ i < (M.L.length : Int) ∧ b.size = 256 := Classical.byContradiction h2
        refine ⟨hb.pos, hb.top, ?_, hb.f0, hb.f1⟩
        show ∀ p ∈ M.W ++ [(i.toNat, b)], p.1 < M.burn.2.L.length
        rw [e1]
        intro p hp
        rw [List.mem_append] at hp
        rcases hp with hp | hp
        · exact h.sec p hp
        · simp only [List.mem_singleton] at hp
          subst hp
          show i.toNat < M.L.length
          omega
theorem R.Ok.flush {M : R} (h : M.Ok) : M.flush.2.Ok := by
  unfold R.flush
  split
  · exact h
  · split
    · exact h.burn
    · have hb := h.burn
      refine ⟨?_, ?_, by intro p hp; simp at hp, hb.f0, hb.f1⟩
      · show 0 < (app M.L M.W).length
        rw [app_length]
        exact h.pos
      · show (app M.L M.W).length ≤ 4096
        rw [app_length]
        exact h.top
theorem R.Ok.crash {M : R} (h : M.Ok) (keep : List Bool) : (M.crash keep).Ok := by
  refine ⟨?_, ?_, by intro p hp; simp [R.crash] at hp, by simp [R.crash], by simp [R.crash]⟩
  · show 0 < (app _ _).length
    rw [app_length]
    exact h.pos
  · show (app _ _).length ≤ 4096
    rw [app_length]
    exact h.top
theorem R.Ok.fuse {M : R} (h : M.Ok) (k : Int) (hk : k ≤ 9223372036854775807) : (M.fuse k).Ok :=
  ⟨h.pos, h.top, h.sec, by show -1 ≤ max k (-1); omega, by show max k (-1) ≤ _; omega⟩
theorem R.Ok.new {n : Nat} (h0 : 0 < n) (h1 : n ≤ 4096) (b : ByteArray) : (R.new n b).Ok :=
  ⟨by simpa [R.new] using h0, by simpa [R.new] using h1, by intro p hp; simp [R.new] at hp, by simp [R.new], by simp [R.new]⟩

/-- How it lies in memory. -/
structure RV (w : World) (d : Nat) (lv wv : Value) (M : R) : Prop where
  blk : w.heap[d]? = some (.cells #[lv, wv, .int .i64 M.f, .bool M.dead] 49 (0, 0))
  lr : w.ownsRow 0 9 1 lv M.L.length (scs M.L)
  wr : w.ownsRow 0 106 2 wv M.W.length (ccs M.W)
  dl : ∀ g, lv.ownBlock = some g → g ≠ d ∧ wv.ownBlock ≠ some g
  dw : ∀ g, wv.ownBlock = some g → g ≠ d

def RFoot (d : Nat) (lv wv : Value) (k : Nat) : Prop := k = d ∨ lv.ownBlock = some k ∨ wv.ownBlock = some k

/-- The document's device, all of whose blocks lie in F. -/
def RDev (w : World) (F : Nat → Prop) (d : Nat) (M : R) : Prop :=
  M.Ok ∧ (∀ k, F k → k < w.heap.size) ∧ ∃ lv wv, RV w d lv wv M ∧ ∀ k, RFoot d lv wv k → F k

theorem RV.other {w w' : World} {d : Nat} {lv wv : Value} {M : R} (h : RV w d lv wv M) (hh : ∀ k, RFoot d lv wv k → w'.heap[k]? = w.heap[k]?) : RV w' d lv wv M :=
  ⟨(hh d (.inl rfl)).trans h.blk, owns_other h.lr fun j hj => hh j (.inr (.inl hj)), owns_other h.wr fun j hj => hh j (.inr (.inr hj)), h.dl, h.dw⟩
theorem RV.kept {w w' : World} {d : Nat} {lv wv : Value} {M : R} (h : RV w d lv wv M) (hw : ∀ k, k < w.heap.size → w'.heap[k]? = w.heap[k]?) : RV w' d lv wv M := by
  refine h.other fun k hk => hw k ?_
  rcases hk with hk | hk | hk
  · rw [hk]; exact (Array.getElem?_eq_some_iff.1 h.blk).1
  · exact (World.ownsRow.lt h.lr k hk).2
  · exact (World.ownsRow.lt h.wr k hk).2
theorem RDev.other {w w' : World} {F G : Nat → Prop} {d : Nat} {M : R} (h : RDev w F d M) (ht : Turn G w w') (hd : ∀ k, F k → ¬ G k) : RDev w' F d M := by
  obtain ⟨h0, h1, lv, wv, h2, h3⟩ := h
  exact ⟨h0, fun k hk => by have := h1 k hk; have := ht.size; omega, lv, wv, h2.other fun k hk => ht.block k (h1 k (h3 k hk)) (hd k (h3 k hk)), h3⟩
theorem RDev.below {w w' : World} {F : Nat → Prop} {d : Nat} {M : R} (h : RDev w F d M) (hb : Below w.heap.size w w') : RDev w' F d M :=
  h.other (G := fun _ => False) (Turn.of_below hb) (fun _ _ h => h)
theorem RDev.lt {w : World} {F : Nat → Prop} {d : Nat} {M : R} (h : RDev w F d M) : d < w.heap.size := by
  obtain ⟨_, h1, lv, wv, _, h3⟩ := h
  exact h1 d (h3 d (.inl rfl))
theorem RDev.grow {w w' : World} {F : Nat → Prop} {d : Nat} {M : R} (h : RDev w' F d M) : RDev w' (Grow F w w') d M := by
  obtain ⟨h0, h1, lv, wv, h2, h3⟩ := h
  refine ⟨h0, ?_, lv, wv, h2, fun k hk => .inl (h3 k hk)⟩
  intro k hk
  rcases hk with hk | hk
  · exact h1 k hk
  · exact hk.2

/-- What a walk reads of it. -/
theorem RDev.open {w : World} {F : Nat → Prop} {d : Nat} {M : R} (h : RDev w F d M) : ∃ gl cl ca cc, RV w d (.slice (some ⟨gl, 0, none⟩) M.L.length cl) (.slice ca M.W.length cc) M ∧ (∀ k, RFoot d (.slice (some ⟨gl, 0, none⟩) M.L.length cl) (.slice ca M.W.length cc) k → F k) ∧ M.L.length ≤ cl := by
  obtain ⟨h0, h1, lv, wv, h2, h3⟩ := h
  obtain ⟨gl, cl, rfl, hcl, _⟩ := owns_head h2.lr h0.pos
  have : ∃ ca cc, wv = .slice ca M.W.length cc := by
    obtain ⟨_, ⟨rfl, hn⟩ | ⟨g, cap, cur, rfl, _⟩⟩ := h2.wr
    · exact ⟨none, 0, by rw [hn]⟩
    · exact ⟨_, _, rfl⟩
  obtain ⟨ca, cc, rfl⟩ := this
  exact ⟨gl, cl, ca, cc, h2, h3, hcl⟩

theorem RDev.setR {w w' : World} {F : Nat → Prop} {d : Nat} {lv wv : Value} {M M' : R} (h : RV w d lv wv M) (hF : ∀ k, RFoot d lv wv k → F k) (hl : ∀ k, F k → k < w.heap.size) (f' : Int) (b' : Bool) (hok : M'.Ok) (hM : M' = { M with f := f', dead := b' }) (hb : w'.heap[d]? = some (.cells #[lv, wv, .int .i64 f', .bool b'] 49 (0, 0))) (hT : Turn (fun k => k = d) w w') (ho : ∀ k, k ≠ d → w'.heap[k]? = w.heap[k]?) : RDev w' F d M' ∧ Turn F w w' := by
  subst hM
  exact ⟨⟨hok, fun k hk => Nat.lt_of_lt_of_le (hl k hk) hT.size, lv, wv, ⟨hb, owns_other h.lr fun j hj => ho j (h.dl j hj).1, owns_other h.wr fun j hj => ho j (h.dw j hj), h.dl, h.dw⟩, hF⟩, hT.mono fun k hk => hF k (.inl hk)⟩

/-- The law sets the fuse itself. -/
theorem RDev.fuse {w : World} {F : Nat → Prop} {d : Nat} {M : R} (h : RDev w F d M) (k : Int) (hk : k ≤ 9223372036854775807) : RDev (w.setCell ⟨d, 2, none⟩ (.int .i64 (max k (-1)))) F d (M.fuse k) ∧ Turn F w (w.setCell ⟨d, 2, none⟩ (.int .i64 (max k (-1)))) := by
  obtain ⟨gl, cl, ca, cc, hV, hF, _⟩ := h.open
  exact RDev.setR hV hF h.2.1 (max k (-1)) M.dead (h.1.fuse k hk) rfl ((set_blk hV.blk 2 _).trans rfl) ((Turn.refl (fun k => k = d) _).setCell (by rfl) _) (fun k hk => Below.heap_setCell _ _ _ _ hk)

set_option maxHeartbeats 1000000 in
theorem refburn_any (d : Nat) (w : World) (F : Nat → Prop) (M : R) (h : RDev w F d M) :
    Calls Try.prog 57 #[.pointer (some ⟨d, 0, none⟩)] w fun e w' => e = .returned (.int .i64 M.burn.1) ∧ RDev w' F d M.burn.2 ∧ Turn F w w' := by
  obtain ⟨gl, cl, ca, cc, hV, hF, _⟩ := h.open
  have c2 := cell_blk hV.blk 2
  have c3 := cell_blk hV.blk 3
  have f2 := frozen_blk hV.blk 2
  have f3 := frozen_blk hV.blk 3
  simp only [List.getElem?_toArray] at c2 c3
  have hk0 := h.1.f0
  have hk1 := h.1.f1
  have HV := (show Hid _ from hV)
  have HF := (show Hid _ from hF)
  have HD : Hid (RDev w F d M) := h
  clear hV hF h
  rcases (by omega : M.f = 0 ∨ 0 < M.f ∨ M.f < 0) with hs | hs | hs
  · have e : M.burn = (50, { M with dead := true }) := by simp [R.burn, hs]
    have hok : ({ M with dead := true } : R).Ok := by have := HD.out.1.burn; rw [e] at this; exact this
    rw [hs] at c2
    rw [e]
    have HS : Hid (M.f = 0) := hs
    clear hs hk0 hk1
    go_enter Try.func57, Try.ntmps57
    go_wp2
    go_ret
    exact ⟨rfl, RDev.setR HV.out HF.out HD.out.2.1 M.f true hok rfl ((set_blk HV.out.blk 3 _).trans rfl) ((Turn.refl (fun k => k = d) _).setCell (by rfl) _) (fun k hk => Below.heap_setCell _ _ _ _ hk)⟩
  · have e : M.burn = (0, { M with f := M.f - 1 }) := by simp [R.burn, hs]; omega
    have hok : ({ M with f := M.f - 1 } : R).Ok := by have := HD.out.1.burn; rw [e] at this; exact this
    rw [e]
    have hs0 : (M.f == 0) = false := by rw [beq_eq_false_iff_ne]; omega
    go_enter Try.func57, Try.ntmps57
    go_wp2
    go_ret
    exact ⟨rfl, RDev.setR HV.out HF.out HD.out.2.1 (M.f - 1) M.dead hok rfl ((set_blk HV.out.blk 2 _).trans rfl) ((Turn.refl (fun k => k = d) _).setCell (by rfl) _) (fun k hk => Below.heap_setCell _ _ _ _ hk)⟩
  · have e : M.burn = (0, M) := by rw [R.burn, if_neg (by omega), if_neg (by omega)]
    rw [e]
    have hs0 : (M.f == 0) = false := by rw [beq_eq_false_iff_ne]; omega
    have hs1 : ¬ 0 < M.f := by omega
    go_enter Try.func57, Try.ntmps57
    go_wp2
    go_ret
    exact ⟨rfl, HD.out, Turn.refl _ _⟩
end Go.Proofs.Ytecljiefljgfmaa
