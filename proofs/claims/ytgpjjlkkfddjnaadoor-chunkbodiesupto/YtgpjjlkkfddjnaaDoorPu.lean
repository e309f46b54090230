/-
  strconv.ParseUint at the base 16; a chunk's size.
-/
import Derived.Test.YtgpjjlkkfddjnaaDoorRdrC
import Derived.Test.YtgpjjlkkfddjnaaDoorShelfE
import Derived.Lib.ConvBytes
namespace Go.Proofs.YtgpjjlkkfddjnaaDoor
open Go.RowKit

def dv (c : UInt8) : Nat := if 48 ≤ c.toNat ∧ c.toNat ≤ 57 then c.toNat - 48 else if 65 ≤ c.toNat ∧ c.toNat ≤ 70 then c.toNat - 55 else if 97 ≤ c.toNat ∧ c.toNat ≤ 102 then c.toNat - 87 else 99
def digs (b : Nat) : Nat → List UInt8 → Option Nat
  | n, [] => some n
  | n, c :: r => if dv c < b then digs b (b * n + dv c) r else none
/-- strconv.ErrSyntax and ErrRange hold some error. -/
def Er (w : World) : Prop := (∃ ev, w.cell? ⟨2, 0, none⟩ = some ev ∧ (ev = .nilIface ∨ ∃ te pe, ev = .iface te pe)) ∧ ∃ ev, w.cell? ⟨3, 0, none⟩ = some ev ∧ (ev = .nilIface ∨ ∃ te pe, ev = .iface te pe)
theorem Er.below {w w' : World} (h : Er w) {B : Nat} (hb : Below B w w') (hB : w.heap.size ≤ B) : Er w' := by
  obtain ⟨⟨e1, h1, h2⟩, e2, h3, h4⟩ := h
  have p1 : 2 < w.heap.size := block_lt_of_cell h1
  have p2 : 3 < w.heap.size := block_lt_of_cell h3
  exact ⟨⟨e1, (hb.cell (by show 2 < B; omega)).trans h1, h2⟩, e2, (hb.cell (by show 3 < B; omega)).trans h3, h4⟩

theorem low_fin : ∀ n : Fin 256, ¬ (48 ≤ n.val ∧ n.val ≤ 57) → (0 ≤ bits .or .u8 (n.val : Int) 32 ∧ bits .or .u8 (n.val : Int) 32 ≤ 255) ∧ ((97 ≤ bits .or .u8 (n.val : Int) 32 ∧ bits .or .u8 (n.val : Int) 32 ≤ 122) → if bits .or .u8 (n.val : Int) 32 < 103 then ((dv (UInt8.ofNat n.val) : Int) = bits .or .u8 (n.val : Int) 32 - 87) else dv (UInt8.ofNat n.val) = 99) ∧ (¬ (97 ≤ bits .or .u8 (n.val : Int) 32 ∧ bits .or .u8 (n.val : Int) 32 ≤ 122) → dv (UInt8.ofNat n.val) = 99) ∧ (n.val = 95 → bits .or .u8 (n.val : Int) 32 = 127) := by decide +kernel
theorem low_facts (c : UInt8) (h : ¬ (48 ≤ c.toNat ∧ c.toNat ≤ 57)) : (0 ≤ bits .or .u8 (c.toNat : Int) 32 ∧ bits .or .u8 (c.toNat : Int) 32 ≤ 255) ∧ ((97 ≤ bits .or .u8 (c.toNat : Int) 32 ∧ bits .or .u8 (c.toNat : Int) 32 ≤ 122) → if bits .or .u8 (c.toNat : Int) 32 < 103 then ((dv c : Int) = bits .or .u8 (c.toNat : Int) 32 - 87) else dv c = 99) ∧ (¬ (97 ≤ bits .or .u8 (c.toNat : Int) 32 ∧ bits .or .u8 (c.toNat : Int) 32 ≤ 122) → dv c = 99) ∧ (c.toNat = 95 → bits .or .u8 (c.toNat : Int) 32 = 127) := by
  have := low_fin ⟨c.toNat, c.toNat_lt⟩ h
  simpa using this
def puN (l : List UInt8) : Option Nat := if l = [] then none else digs 16 0 l
/-- What a reading of digits tells. -/
def PuX (l : List UInt8) (e : Ending) : Prop :=
  ∃ x ev, e = .returned (.tuple #[.int .u64 x, ev]) ∧ 0 ≤ x ∧ x ≤ 18446744073709551615 ∧ (ev = .nilIface ∨ ev = .iface 131 (.int .i64 2) ∨ ev = .iface 131 (.int .i64 1)) ∧ (l.length ≤ 8 → (∃ n : Nat, puN l = some n ∧ x = (n : Int) ∧ ev = .nilIface) ∨ (puN l = none ∧ ev = .iface 131 (.int .i64 2)))
theorem PuX.no {l : List UInt8} {e : Ending} (h : l.length ≤ 8 → puN l = none) (he : e = .returned (.tuple #[.int .u64 0, .iface 131 (.int .i64 2)])) : PuX l e :=
  ⟨0, _, he, by omega, by omega, .inr (.inl rfl), fun h8 => .inr ⟨h h8, rfl⟩⟩
theorem PuX.range {l : List UInt8} {e : Ending} (h : ¬ l.length ≤ 8) (he : e = .returned (.tuple #[.int .u64 18446744073709551615, .iface 131 (.int .i64 1)])) : PuX l e :=
  ⟨_, _, he, by omega, by omega, .inr (.inr rfl), fun h8 => absurd h8 h⟩
theorem PuX.yes {l : List UInt8} {e : Ending} {x : Int} (h0 : 0 ≤ x) (h1 : x ≤ 18446744073709551615) (h : l.length ≤ 8 → ∃ n : Nat, puN l = some n ∧ x = (n : Int)) (he : e = .returned (.tuple #[.int .u64 x, .nilIface])) : PuX l e :=
  ⟨x, _, he, h0, h1, .inl rfl, fun h8 => by obtain ⟨n, a, b⟩ := h h8; exact .inl ⟨n, a, b, rfl⟩⟩

theorem pu_aux {a : Int} {acc n : Nat} (hn : 48 ≤ n) (h : a * 16 + ((n - 48 : Nat) : Int) = (acc : Int)) : a * 16 + ((n : Int) - 48) = (acc : Int) := by omega
theorem pu_aux2 {a q : Int} {acc d : Nat} (hd : (d : Int) = q - 87) (h : a * 16 + (d : Int) = (acc : Int)) : a * 16 + (q - 97 + 10) = (acc : Int) := by omega
set_option maxRecDepth 20000 in
set_option maxHeartbeats 6400000 in
theorem parseUint_any (s : ByteArray) (w : World) (h1 : 1 ≤ s.size) (h8 : s.size ≤ 1000000000) :
    Calls Tryd.prog 74 #[.string s, .int .i64 16, .int .i64 64] w fun e w' => PuX s.data.toList e ∧ Below w.heap.size w w' := by
  have hse : s.toList.isEmpty = false := by
    rw [Lib.toList_data]
    cases h : s.data.toList with
    | nil =>
      have : s.data.toList.length = 0 := by rw [h]; rfl
      have e : s.data.toList.length = s.size := by simp
      omega
    | cons a r => rfl
  have hcv := Lib.run_convert_string_bytes (P := Tryd.prog) w 9 22 5 s (u := .string) Tryd.underlying9 Tryd.underlying22 Tryd.underlying5
  have hB : ∀ j, j < s.size → (Lib.bytesWorld w 5 s).cell? ⟨w.heap.size, j, none⟩ = some (.int .u8 (s.data.toList.getD j 0).toNat) := fun j hj => Lib.bytesWorld_cell w 5 s j hj
  have HB1 : Hid (Below w.heap.size w (Lib.bytesWorld w 5 s)) := ⟨rfl, rfl, rfl, by rw [Lib.bytesWorld_size]; omega, fun b hb => Lib.bytesWorld_at_old w 5 s b hb⟩
  obtain ⟨W1, hW1⟩ : ∃ W1, W1 = Lib.bytesWorld w 5 s := ⟨_, rfl⟩
  rw [← hW1] at hcv hB HB1
  clear hW1
  obtain ⟨bs, hL⟩ : ∃ bs, bs = s.data.toList := ⟨_, rfl⟩
  have hLn : bs.length = s.size := by rw [hL, Lib.size_eq]
  rw [← hL] at hB ⊢
  clear hL
  have HPN : Hid (puN bs = digs 16 0 bs) := by
    show _ = _
    rw [puN, if_neg]
    intro h
    rw [h] at hLn
    simp at hLn
    omega
  have hmx : IntKind.u64.wrap (IntKind.u64.wrap 18446744073709551616 - 1) = 18446744073709551615 := by decide
  go_enter Tryd.func74, Tryd.ntmps74
  go_wp2
  clear hmx
  go_loop [12, 13, 101] (fun vu vn vi => ∃ (k : Nat) (a : Int), vu = .bool false ∧ vn = .int .u64 a ∧ vi = .int .i64 k ∧ k ≤ s.size ∧ 0 ≤ a ∧ a ≤ 18446744073709551615 ∧ Hid (bs.length ≤ 8 → ∃ acc : Nat, a = (acc : Int) ∧ acc < 16 ^ k ∧ digs 16 0 bs = digs 16 acc (bs.drop k)))
    (fun _ _ vi => s.size - (intOf vi).toNat)
  case atStart => exact ⟨0, 0, rfl, rfl, rfl, by omega, by omega, by omega, fun _ => ⟨0, rfl, by decide, rfl⟩⟩
  case round =>
    obtain ⟨k, a, rfl, rfl, rfl, hk, a0, a1, hh⟩ := hrel
    by_cases hkn : k < s.size
    · have hc := hB k hkn
      have hdrop : bs.drop k = bs[k]'(by omega) :: bs.drop (k + 1) := List.drop_eq_getElem_cons (by omega)
      have hget : bs.getD k 0 = bs[k]'(by omega) := by simp [List.getD, List.getElem?_eq_getElem (show k < bs.length by omega)]
      have hh2 := hh.out
      rw [hdrop] at hh2
      rw [hget] at hc
      generalize bs[k]'(by omega) = c at hc hh2
      have hc256 : c.toNat < 256 := c.toNat_lt
      have HH := (show Hid (bs.length ≤ 8 → ∃ acc : Nat, a = (acc : Int) ∧ acc < 16 ^ k ∧ digs 16 0 bs = digs 16 acc (c :: bs.drop (k + 1))) from hh2)
      have HR : Hid (1152921504606846976 ≤ a → ¬ bs.length ≤ 8) := by
        intro ha h8
        obtain ⟨acc, e1, e2, _⟩ := HH.out h8
        have hpow : 16 ^ k ≤ 16 ^ 8 := Nat.pow_le_pow_right (by omega) (by omega)
        have : (16 : Nat) ^ 8 = 4294967296 := by decide
        omega
      have HS : Hid (dv c < 16 → bs.length ≤ 8 → ∃ acc : Nat, a * 16 + (dv c : Int) = (acc : Int) ∧ acc < 16 ^ (k + 1) ∧ digs 16 0 bs = digs 16 acc (bs.drop (k + 1))) := by
        intro hd h8
        obtain ⟨acc, e1, e2, e3⟩ := HH.out h8
        have hps : 16 ^ (k + 1) = 16 ^ k * 16 := Nat.pow_succ 16 k
        refine ⟨acc * 16 + dv c, by omega, by omega, ?_⟩
        rw [e3]
        simp only [digs]
        rw [if_pos hd, Nat.mul_comm 16 acc]
      have HN0 : Hid (¬ dv c < 16 → bs.length ≤ 8 → puN bs = none) := by
        intro hd h8
        obtain ⟨acc, e1, e2, e3⟩ := HH.out h8
        rw [HPN.out, e3]
        simp only [digs]
        rw [if_neg hd]
      clear hB hdrop hget hh hh2 HH
      have hcut : 1152921504606846976 ≤ a ∨ a < 1152921504606846976 := by omega
      by_cases hdig : 48 ≤ c.toNat ∧ c.toNat ≤ 57
      · obtain ⟨hd0, hd1⟩ := hdig
        have hdv : dv c = c.toNat - 48 := by unfold dv; rw [if_pos ⟨hd0, hd1⟩]
        rcases hcut with hcut | hcut
        · have HN := HR.out hcut
          have HQ : Hid (¬ bs.length ≤ 8) := HN
          clear HN hdv
          go_wp2
          go_ret2
          exact ⟨PuX.range HQ.out rfl, HB1.out⟩
        · have hq := HS.out (by omega)
          have HN : Hid (bs.length ≤ 8 → ∃ acc : Nat, a * 16 + ((c.toNat : Int) - 48) = (acc : Int) ∧ acc < 16 ^ (k + 1) ∧ digs 16 0 bs = digs 16 acc (bs.drop (k + 1))) := by
            intro h8
            obtain ⟨acc, e1, e2, e3⟩ := hq h8
            refine ⟨acc, ?_, e2, e3⟩
            rw [hdv] at e1
            exact pu_aux hd0 e1
          clear hdv hq
          go_wp2
          refine ⟨⟨k + 1, a * 16 + ((c.toNat : Int) - 48), rfl, (by first | rfl | (congr 1; omega)), (by first | rfl | (congr 1; omega)), by omega, by omega, by omega, HN⟩, by simp [intOf]; omega⟩
      · obtain ⟨⟨hv0, hv1⟩, hl1, hl2, h95⟩ := low_facts c hdig
        generalize hq : bits .or .u8 (c.toNat : Int) 32 = q at *
        have HLW := (show Hid (∀ W, Calls Tryd.prog 85 #[.int .u8 (c.toNat : Int)] W fun e w' => e = .returned (.int .u8 q) ∧ w' = W) from fun W => by rw [← hq]; exact internal_strconv_lower _ _)
        clear hq
        have hnd : (c.toNat : Int) < 48 ∨ (57 : Int) < (c.toNat : Int) := by omega
        by_cases hq1 : 97 ≤ q ∧ q ≤ 122
        · have hl := hl1 hq1
          obtain ⟨hqa, hqb⟩ := hq1
          have h95' : ((c.toNat : Int) == 95) = false := by
            rw [beq_eq_false_iff_ne]
            intro e
            have := h95 (by omega)
            omega
          by_cases hq2 : q < 103
          · rw [if_pos (by omega)] at hl
            rcases hcut with hcut | hcut
            · have HQ : Hid (¬ bs.length ≤ 8) := HR.out hcut
              clear hl hl1 hl2 hdig h95
              rcases hnd with hnd | hnd
              all_goals
                go_wp2_with (go_at_call 85; refine (HLW.out _).mono ?_; rintro e w' ⟨rfl, rfl⟩)
                go_ret2
                exact ⟨PuX.range HQ.out rfl, HB1.out⟩
            · have hqq := HS.out (by omega)
              have HN : Hid (bs.length ≤ 8 → ∃ acc : Nat, a * 16 + (q - 97 + 10) = (acc : Int) ∧ acc < 16 ^ (k + 1) ∧ digs 16 0 bs = digs 16 acc (bs.drop (k + 1))) := by
                intro h8
                obtain ⟨acc, e1, e2, e3⟩ := hqq h8
                refine ⟨acc, ?_, e2, e3⟩
                exact pu_aux2 hl e1
              clear hl hl1 hl2 hdig h95 hqq
              rcases hnd with hnd | hnd
              all_goals
                go_wp2_with (go_at_call 85; refine (HLW.out _).mono ?_; rintro e w' ⟨rfl, rfl⟩)
                refine ⟨⟨k + 1, a * 16 + (q - 97 + 10), rfl, (by first | rfl | (congr 1; omega)), (by first | rfl | (congr 1; omega)), by omega, by omega, by omega, HN⟩, by simp [intOf]; omega⟩
          · have HN : Hid (bs.length ≤ 8 → puN bs = none) := HN0.out (by split at hl <;> omega)
            clear hl hl1 hl2 hdig h95 hcut
            rcases hnd with hnd | hnd
            all_goals
              go_wp2_with (go_at_call 85; refine (HLW.out _).mono ?_; rintro e w' ⟨rfl, rfl⟩)
              go_ret2
              exact ⟨PuX.no HN.out rfl, HB1.out⟩
        · have hl := hl2 hq1
          have HN : Hid (bs.length ≤ 8 → puN bs = none) := HN0.out (by omega)
          by_cases hc95 : c.toNat = 95
          · obtain rfl : q = 127 := h95 hc95
            rw [hc95] at hc HLW
            have hc95i : ((95 : Nat) : Int) = 95 := rfl
            rw [hc95i] at hc HLW
            clear hl hl1 hl2 hdig h95 hc95 hc95i hq1 hv0 hv1 hnd hcut
            go_wp2_with (go_at_call 85; refine (HLW.out _).mono ?_; rintro e w' ⟨rfl, rfl⟩)
            all_goals go_ret2
            all_goals exact ⟨PuX.no HN.out rfl, HB1.out⟩
          · have h95' : ((c.toNat : Int) == 95) = false := by
              rw [beq_eq_false_iff_ne]
              omega
            clear hl hl1 hl2 hdig h95 hc95 hcut
            rcases hnd with hnd | hnd
            all_goals
              go_wp2_with (go_at_call 85; refine (HLW.out _).mono ?_; rintro e w' ⟨rfl, rfl⟩)
              all_goals go_ret2
              all_goals exact ⟨PuX.no HN.out rfl, HB1.out⟩
    · have hkk : k = s.size := by omega
      subst hkk
      have HN : Hid (bs.length ≤ 8 → ∃ n : Nat, puN bs = some n ∧ a = (n : Int)) := by
        intro h8
        obtain ⟨acc, e1, e2, e3⟩ := hh.out h8
        refine ⟨acc, ?_, e1⟩
        rw [HPN.out, e3, List.drop_eq_nil_of_le (by omega)]
        rfl
      clear hh
      go_wp2
      go_ret2
      exact ⟨PuX.yes a0 a1 HN.out rfl, HB1.out⟩
/-- What ParseUint tells. -/
def PbX (l : List UInt8) (e : Ending) : Prop :=
  ∃ x ev, e = .returned (.tuple #[.int .u64 x, ev]) ∧ 0 ≤ x ∧ x ≤ 18446744073709551615 ∧ (ev = .nilIface ∨ ∃ N, ev = .iface 133 (.pointer (some ⟨N, 0, none⟩))) ∧ (l.length ≤ 8 → (∃ n : Nat, puN l = some n ∧ x = (n : Int) ∧ ev = .nilIface) ∨ (puN l = none ∧ ev ≠ .nilIface))
set_option maxRecDepth 20000 in
set_option maxHeartbeats 1600000 in
theorem parsePub_any (s : ByteArray) (w : World) (h8 : s.size ≤ 1000000000) (he : Er w) :
    Calls Tryd.prog 58 #[.string s, .int .i64 16, .int .i64 64] w fun e w' => PbX s.data.toList e ∧ Below w.heap.size w w' := by
  have hlen : s.data.toList.length = s.size := by simp
  have HT := (show Hid (∀ W k, Er W → (k = 1 ∨ k = 2) → Calls Tryd.prog 75 #[.string ⟨#[80, 97, 114, 115, 101, 85, 105, 110, 116]⟩, .string s, .int .i64 16, .int .i64 64, .iface 131 (.int .i64 k)] W fun e w' => ∃ N, e = .returned (.iface 133 (.pointer (some ⟨N, 0, none⟩))) ∧ Below W.heap.size W w') from fun W k hW hk => by
    obtain ⟨⟨ev, h1, h2⟩, ev2, h3, h4⟩ := hW
    rcases hk with rfl | rfl
    · refine (strconv_toError_range _ s 16 64 ev2 W (by omega) h3 h4).mono ?_
      rintro e w' ⟨M, h5, -, -, h6⟩
      exact ⟨M, h5, h6⟩
    · refine (strconv_toError_syntax _ s 16 64 ev W (by omega) h1 h2).mono ?_
      rintro e w' ⟨M, h5, -, -, h6⟩
      exact ⟨M, h5, h6⟩)
  have HE : Hid (Er w) := he
  have HI : Hid (Calls Tryd.prog 74 #[.string s, .int .i64 16, .int .i64 64] w fun e w' => PuX s.data.toList e ∧ Below w.heap.size w w') := by
    by_cases h1 : 1 ≤ s.size
    · exact parseUint_any s w h1 h8
    · have hnil : s.data.toList = [] := List.eq_nil_of_length_eq_zero (by omega)
      have hse : s.toList.isEmpty = true := by rw [Lib.toList_data, hnil]; rfl
      have HNL : Hid (s.data.toList.length ≤ 8 → puN s.data.toList = none) := fun _ => by rw [hnil]; rfl
      clear hnil he HT HE
      go_enter Tryd.func74, Tryd.ntmps74
      go_wp2
      go_ret2
      exact ⟨PuX.no HNL.out rfl, Below.refl _ _⟩
  clear he
  go_enter Tryd.func58, Tryd.ntmps58
  go_wp2_with fail
  refine Calls.mono HI.out ?_
  rintro e w1 ⟨⟨x, ev, rfl, x0, x1, hev, hpu⟩, hb1⟩
  have HP := (show Hid _ from hpu)
  have HB : Hid (Below w.heap.size w w1) := hb1
  clear hpu hb1 HI
  rcases hev with rfl | rfl | rfl
  · go_wp2
    go_ret2
    refine ⟨⟨x, _, rfl, x0, x1, .inl rfl, fun h => ?_⟩, HB.out⟩
    rcases HP.out h with ⟨n, h1, h2, _⟩ | ⟨_, h⟩
    · exact .inl ⟨n, h1, h2, rfl⟩
    · cases h
  · have K := HT.out w1 2 (HE.out.below HB.out (Nat.le_refl _)) (.inr rfl)
    go_wp2_with fail
    refine Calls.mono K ?_
    rintro e w2 ⟨M, rfl, hb2⟩
    have HB2 : Hid (Below w.heap.size w w2) := HB.out.trans (hb2.mono (HB.out.size))
    clear hb2 K
    go_wp2
    go_ret2
    refine ⟨⟨x, _, rfl, x0, x1, .inr ⟨M, rfl⟩, fun h => ?_⟩, HB2.out⟩
    rcases HP.out h with ⟨n, _, _, h⟩ | ⟨h, _⟩
    · cases h
    · exact .inr ⟨h, by simp⟩
  · have K := HT.out w1 1 (HE.out.below HB.out (Nat.le_refl _)) (.inl rfl)
    go_wp2_with fail
    refine Calls.mono K ?_
    rintro e w2 ⟨M, rfl, hb2⟩
    have HB2 : Hid (Below w.heap.size w w2) := HB.out.trans (hb2.mono (HB.out.size))
    clear hb2 K
    go_wp2
    go_ret2
    refine ⟨⟨x, _, rfl, x0, x1, .inr ⟨M, rfl⟩, fun h => ?_⟩, HB2.out⟩
    rcases HP.out h with ⟨n, _, _, h⟩ | ⟨h, h'⟩
    · cases h
    · exact .inr ⟨h, by simp⟩
end Go.Proofs.YtgpjjlkkfddjnaaDoor
