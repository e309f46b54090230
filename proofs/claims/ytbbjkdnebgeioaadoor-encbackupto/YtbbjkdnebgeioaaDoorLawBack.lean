/-
  The walk of the statement EncBack out of the contracts of what it calls.
-/
import Derived.Test.YtbbjkdnebgeioaaDoorBackMath
import Derived.Test.YtbbjkdnebgeioaaDoorLawNumbers
import Derived.Test.YtbbjkdnebgeioaaDoorSame
import Derived.Deep.RegionWith
namespace Go.Proofs.YtbbjkdnebgeioaaDoor
open Go.RowKit

theorem Own.bytes' {w : World} {base : Nat} {v : Value} {l : List UInt8} (h : Own w base v l) : ∃ a cap, v = .slice a l.length cap ∧ Bytes w a l ∧ l.length ≤ cap := by
  obtain ⟨a, cap, rfl, hb⟩ := h.bytes
  refine ⟨a, cap, rfl, hb, ?_⟩
  rcases h.2 with ⟨h', h0⟩ | ⟨g, c, cur, h', _, _, hn, _⟩
  · omega
  · simp only [Value.slice.injEq] at h'
    omega
theorem unhex_hex (l : List UInt8) (w : World) (hl : l.length ≤ 8388608) :
    Calls Tryd.prog 10 #[.string ⟨(hexL l).toArray⟩] w fun e w' => ∃ x c, e = .returned (.tuple #[.slice x l.length c, .bool true]) ∧ Bytes w' x l ∧ Below w.heap.size w w' := by
  refine (unhex_any ⟨(hexL l).toArray⟩ w (by simp [ByteArray.size, hexL_length]; omega)).mono ?_
  rintro e w' ⟨v, rfl, ho, hb⟩
  have h := hex_back l
  have ho' : Own w' w.heap.size v l := by
    have : Own w' w.heap.size v (uhL (hexL l)) := ho
    rw [h.2] at this
    exact this
  obtain ⟨x, c, rfl, hx⟩ := ho'.bytes
  exact ⟨x, c, ret_vb h.1, hx, hb⟩
theorem b64_len_le : ∀ (m : Nat) (l : List UInt8), l.length = m → (b64 l).length ≤ 2 * l.length + 4 := by
  intro m
  induction m using Nat.strongRecOn with
  | _ m ih =>
    intro l hm
    match l, hm with
    | [], _ => simp [b64]
    | [a], _ => simp [b64, g1]
    | [a, b], _ => simp [b64, g2]
    | a :: b :: c :: r, hm =>
      have := ih r.length (by simp at hm; omega) r rfl
      simp only [b64, g3, List.length_append, List.length_cons, List.length_nil]
      omega
theorem unb64_b64 (l : List UInt8) (w : World) (hl : l.length ≤ 8388608) :
    Calls Tryd.prog 12 #[.string ⟨(b64 l).toArray⟩] w fun e w' => ∃ x c, e = .returned (.tuple #[.slice x l.length c, .bool true]) ∧ Bytes w' x l ∧ Below w.heap.size w w' := by
  have hlen := b64_len_le l.length l rfl
  refine (unbase64_any ⟨(b64 l).toArray⟩ w (by simp [ByteArray.size]; omega)).mono ?_
  rintro e w' ⟨v, y, ok, rfl, ho, hu, hb⟩
  obtain ⟨rfl, rfl⟩ := ub_back (b := l) (x := y) (ok := ok) hu
  obtain ⟨x, c, rfl, hx⟩ := ho.bytes
  exact ⟨x, c, rfl, hx, hb⟩
theorem unpack_pack (x : Option Addr) (L : List ByteArray) (c : Nat) (w : World) (hL : tot L ≤ 8388608) (hc : (packL L).length ≤ c) (hb : Bytes w x (packL L)) :
    Calls Tryd.prog 14 #[.slice x (packL L).length c] w fun e w' => ∃ y c', e = .returned (.tuple #[.slice y L.length c', .bool true]) ∧ Strs w' y L ∧ Below w.heap.size w w' := by
  have hu := uL_pack (L := L) fun s h => by have := tot_mem h; omega
  refine (unpack_any x (packL L) c w (by rw [packL_length]; exact hL) hc hb).mono ?_
  rintro e w' ⟨v, rfl, ho, hb'⟩
  rw [hu.1] at ho
  obtain ⟨y, c', rfl, hy⟩ := ho.strs
  exact ⟨y, c', ret_vb hu.2, hy, hb'⟩
theorem get_put (x : Option Addr) (n c : Nat) (w : World) (hn : n < 18446744073709551616) (hb : Bytes w x (be n 8)) :
    Calls Tryd.prog 16 #[.slice x (be n 8).length c] w fun e w' => e = .returned (.tuple #[.int .u64 (n : Int), .bool true]) ∧ w = w' := by
  have h := put_get n hn
  refine (get64_any x (be n 8) c w (by rw [be_length]; decide) hb).mono ?_
  rintro e w' ⟨rfl, rfl⟩
  exact ⟨ret_ib (by rw [h.1]) h.2, rfl⟩
theorem int_of_text (n : Nat) (w : World) (hn : n < 1000000000000000000) :
    Calls Tryd.prog 5 #[.string ⟨(Lib.itoa (n : Int)).toArray⟩] w fun e w' => e = .returned (.tuple #[.int .i64 (n : Int), .bool true]) ∧ w = w' := by
  rw [Lib.itoa_nonneg]
  have h := int_text n hn
  have hl : (Lib.decDigits n).length ≤ 18 := (dec_int n).2.2.2.2.1 18 (by simpa using hn) (by decide)
  refine (int_any ⟨(Lib.decDigits n).toArray⟩ w (by simp [ByteArray.size]; omega)).mono ?_
  rintro e w' ⟨rfl, rfl⟩
  exact ⟨ret_ib h.2 h.1, rfl⟩

set_option maxRecDepth 100000 in
set_option maxHeartbeats 8000000 in
theorem encBack_walk (a0 : Option Addr) (l : List UInt8) (c0 : Nat) (a1 : Option Addr) (L : List ByteArray) (c1 : Nat) (a2 : Option Addr) (M : List ByteArray) (c2 : Nat) (n k : Nat) (w : World)
    (hl : l.length ≤ 8388608) (hc0 : l.length ≤ c0) (hL : tot L ≤ 8388608) (hM : tot M ≤ 8388608) (hLl : L.length ≤ 8388608) (hMl : M.length ≤ 8388608) (hn : n < 18446744073709551616) (hk : k < 18446744073709551616)
    (hb : Bytes w a0 l) (hs1 : Strs w a1 L) (hs2 : Strs w a2 M) (ht : Tab w) :
    Calls Tryd.prog 4 #[.slice a0 l.length c0, .slice a1 L.length c1, .slice a2 M.length c2, .int .u64 (n : Int), .int .u64 (k : Int)] w fun e w' => e = .returned (.bool true) ∧ Below w.heap.size w w' := by
  have hpe := pack_eq (L := L) (M := M) (fun s h => by have := tot_mem h; omega) (fun s h => by have := tot_mem h; omega)
  have HPE : Hid ((packL L == packL M) = eqS L M) := hpe
  have HN : Hid (n < 18446744073709551616) := hn
  have HK : Hid (k < 18446744073709551616) := hk
  clear hpe
  go_enter Tryd.func4, Tryd.ntmps4
  go_wp2_with fail
  refine (hex_any a0 l c0 _ (by omega) hb).mono ?_
  rintro e w1 ⟨rfl, hb1⟩
  go_wp2_with fail
  refine (unhex_hex l _ hl).mono ?_
  rintro e w2 ⟨x2, d2, rfl, hx2, hb2⟩
  have B2 : Below w.heap.size w w2 := step_below hb1 hb2 (Nat.le_refl _)
  have q2 := hb.below B2 (Nat.le_refl _)
  clear hb1 hb2
  go_wp2_with fail
  refine (base64_any a0 l c0 _ (by omega) hc0 q2).mono ?_
  rintro e w3 ⟨rfl, hb3⟩
  go_wp2_with fail
  refine (unb64_b64 l _ hl).mono ?_
  rintro e w4 ⟨x4, d4, rfl, hx4, hb4⟩
  have S4 : Below w2.heap.size w2 w4 := step_below hb3 hb4 (Nat.le_refl _)
  have B4 : Below w.heap.size w w4 := step_below B2 S4 (Nat.le_refl _)
  have p2 := hx2.below S4 (Nat.le_refl _)
  have t4 := hs1.below B4 (Nat.le_refl _)
  clear hb3 hb4 S4 B2 q2 hx2
  go_wp2_with fail
  refine (pack_any a1 L c1 _ (by omega) t4).mono ?_
  rintro e w5 ⟨v5, rfl, ho5, hb5⟩
  obtain ⟨x5, d5, rfl, hx5, hd5⟩ := ho5.bytes'
  go_wp2_with fail
  refine (unpack_pack x5 L d5 _ hL hd5 hx5).mono ?_
  rintro e w6 ⟨x6, d6, rfl, hx6, hb6⟩
  have S6 : Below w4.heap.size w4 w6 := step_below hb5 hb6 (Nat.le_refl _)
  have B6 : Below w.heap.size w w6 := step_below B4 S6 (Nat.le_refl _)
  have r2 := p2.below S6 (Nat.le_refl _)
  have r4 := hx4.below S6 (Nat.le_refl _)
  clear hb5 hb6 S6 B4 t4 ho5 hx5 hd5 p2 hx4
  go_wp2_with fail
  refine (put64_any n _ HN.out).mono ?_
  rintro e w7 ⟨v7, rfl, ho7, hb7⟩
  obtain ⟨x7, d7, rfl, hx7⟩ := ho7.bytes
  have B7 : Below w.heap.size w w7 := step_below B6 hb7 (Nat.le_refl _)
  have s2 := r2.below hb7 (Nat.le_refl _)
  have s4 := r4.below hb7 (Nat.le_refl _)
  have s6 := hx6.below hb7 (Nat.le_refl _)
  have sb := hb.below B7 (Nat.le_refl _)
  have t1 := hs1.below B7 (Nat.le_refl _)
  have t2 := hs2.below B7 (Nat.le_refl _)
  have tab7 : Tab w7 := ht.below B7
  clear hb7 ho7 B6 r2 r4 hx6
  go_wp2_with fail
  refine (get_put x7 n d7 _ HN.out hx7).mono ?_
  rintro e w8 ⟨rfl, rfl⟩
  clear hx7
  go_wp2_with fail
  refine (same_any x2 a0 l l d2 c0 _ s2 sb).mono ?_
  rintro e w8 ⟨rfl, rfl⟩
  go_wp2_with fail
  refine (same_any x4 a0 l l d4 c0 _ s4 sb).mono ?_
  rintro e w8 ⟨rfl, rfl⟩
  clear s2 s4 sb
  go_wp2_with fail
  refine (sameTexts_any x6 a1 L L d6 c1 _ (by omega) (by omega) s6 t1).mono ?_
  rintro e w8 ⟨rfl, hb8⟩
  have heqs : eqS L L = true := by simp [eqS]
  have B8 : Below w.heap.size w w8 := step_below B7 hb8 (Nat.le_refl _)
  have tab8 : Tab w8 := tab7.below hb8
  have u1 := t1.below hb8 (Nat.le_refl _)
  have u2 := t2.below hb8 (Nat.le_refl _)
  clear hb8 B7 s6 t1 t2 tab7 hb hs1 hs2 ht
  go_wp2_with fail
  refine (pack_any a1 L c1 _ (by omega) u1).mono ?_
  rintro e w9 ⟨v9, rfl, ho9, hb9⟩
  obtain ⟨x9, d9, rfl, hx9⟩ := ho9.bytes
  have y1 := u1.below hb9 (Nat.le_refl _)
  have y2 := u2.below hb9 (Nat.le_refl _)
  have B9 : Below w.heap.size w w9 := step_below B8 hb9 (Nat.le_refl _)
  have tab9 : Tab w9 := tab8.below hb9
  clear hb9 ho9 B8 u1 u2 tab8
  go_wp2_with fail
  refine (pack_any a2 M c2 _ (by omega) y2).mono ?_
  rintro e w10 ⟨v10, rfl, ho10, hb10⟩
  obtain ⟨x10, d10, rfl, hx10⟩ := ho10.bytes
  have z1 := y1.below hb10 (Nat.le_refl _)
  have z2 := y2.below hb10 (Nat.le_refl _)
  have z9 := hx9.below hb10 (Nat.le_refl _)
  have B10 : Below w.heap.size w w10 := step_below B9 hb10 (Nat.le_refl _)
  have tab10 : Tab w10 := tab9.below hb10
  clear hb10 ho10 B9 y1 y2 tab9 hx9
  go_wp2_with fail
  refine (same_any x9 x10 _ _ d9 d10 _ z9 hx10).mono ?_
  rintro e w11 ⟨rfl, rfl⟩
  clear z9 hx10
  rw [HPE.out]
  go_wp2_with fail
  refine (sameTexts_any a1 a2 L M c1 c2 _ (by omega) (by omega) z1 z2).mono ?_
  rintro e w11 ⟨rfl, hb11⟩
  have B11 : Below w.heap.size w w11 := step_below B10 hb11 (Nat.le_refl _)
  have tab11 : Tab w11 := tab10.below hb11
  clear hb11 B10 z1 z2 tab10
  have hne : (eqS L M != eqS L M) = false := by simp
  have hless : Op.bytesLess (be n 8) (be k 8) = decide ((n : Int) < (k : Int)) := by
    rw [put_less n k HN.out HK.out, Bool.eq_iff_iff, decide_eq_true_eq, decide_eq_true_eq]
    omega
  by_cases h18 : n < 1000000000000000000
  · have h18i : (n : Int) < 1000000000000000000 := by omega
    go_wp2_with fail
    refine (text_any (n : Int) _ (by omega) (by omega) tab11).mono ?_
    rintro e w12 ⟨rfl, hb12⟩
    go_wp2_with fail
    refine (int_of_text n _ h18).mono ?_
    rintro e w13 ⟨rfl, rfl⟩
    have B12 : Below w.heap.size w w12 := step_below B11 hb12 (Nat.le_refl _)
    clear hb12 B11 tab11
    go_wp2
    go_region_with (first
      | (go_at_call_of 17 (Value.int .u64 (n : Int)); refine (put64_any n _ HN.out).mono ?_; rintro e w14 ⟨v14, rfl, ho14, hb14⟩; obtain ⟨x14, d14, rfl, hx14⟩ := ho14.bytes; have cv14 := convert_bytes w14 x14 d14 (be n 8) hx14)
      | (go_at_call_of 17 (Value.int .u64 (k : Int)); refine (put64_any k _ HK.out).mono ?_; rintro e w15 ⟨v15, rfl, ho15, hb15⟩; obtain ⟨x15, d15, rfl, hx15⟩ := ho15.bytes; have cv15 := convert_bytes w15 x15 d15 (be k 8) hx15; have cv16 := convert_bytes w15 x14 d14 (be n 8) (hx14.below hb15 (Nat.le_refl _)))
      | (go_at_call 9; refine (awake_any _).mono ?_; rintro e w16 ⟨rfl, hb16⟩))
    all_goals
      have B16 : Below w.heap.size w w16 := step_below (step_below (step_below B12.drew hb14 (Nat.le_refl _)) hb15 (Nat.le_refl _)) hb16 (Nat.le_refl _)
      clear hb14 hb15 hb16 B12
      go_wp2
      go_ret
      exact ⟨rfl, B16⟩
  · have hq18 : decide ((n : Int) < 1000000000000000000) = false := decide_eq_false (by omega)
    clear h18 tab11
    go_wp2
    go_region_with (first
      | (go_at_call_of 17 (Value.int .u64 (n : Int)); refine (put64_any n _ HN.out).mono ?_; rintro e w14 ⟨v14, rfl, ho14, hb14⟩; obtain ⟨x14, d14, rfl, hx14⟩ := ho14.bytes; have cv14 := convert_bytes w14 x14 d14 (be n 8) hx14)
      | (go_at_call_of 17 (Value.int .u64 (k : Int)); refine (put64_any k _ HK.out).mono ?_; rintro e w15 ⟨v15, rfl, ho15, hb15⟩; obtain ⟨x15, d15, rfl, hx15⟩ := ho15.bytes; have cv15 := convert_bytes w15 x15 d15 (be k 8) hx15; have cv16 := convert_bytes w15 x14 d14 (be n 8) (hx14.below hb15 (Nat.le_refl _)))
      | (go_at_call 9; refine (awake_any _).mono ?_; rintro e w16 ⟨rfl, hb16⟩))
    all_goals
      have B16 : Below w.heap.size w w16 := step_below (step_below (step_below B11.drew hb14 (Nat.le_refl _)) hb15 (Nat.le_refl _)) hb16 (Nat.le_refl _)
      clear hb14 hb15 hb16 B11
      go_wp2
      go_ret
      exact ⟨rfl, B16⟩
end Go.Proofs.YtbbjkdnebgeioaaDoor
