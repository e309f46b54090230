/-
  The document's Unbase64 by its contract: the walk.
-/
import Derived.Test.YtbbjkdnebgeioaaRefUnb64
namespace Go.Proofs.Ytbbjkdnebgeioaa
open Go.RowKit

theorem findL_yes (c : Int) (w : World) (h0 : 0 ≤ c) (h1 : c ≤ 255) (h : svOk c = true) :
    Calls Try.prog 27 #[.string ⟨#[65, 66, 67, 68, 69, 70, 71, 72, 73, 74, 75, 76, 77, 78, 79, 80, 81, 82, 83, 84, 85, 86, 87, 88, 89, 90, 97, 98, 99, 100, 101, 102, 103, 104, 105, 106, 107, 108, 109, 110, 111, 112, 113, 114, 115, 116, 117, 118, 119, 120, 121, 122, 48, 49, 50, 51, 52, 53, 54, 55, 56, 57, 43, 47]⟩, .int .u8 c] w fun e w' => e = .returned (.int .i64 (svN c)) ∧ w = w' := findLet_yes c w h0 h1 h
theorem findL_no (c : Int) (w : World) (h0 : 0 ≤ c) (h1 : c ≤ 255) (h : svOk c = false) :
    Calls Try.prog 27 #[.string ⟨#[65, 66, 67, 68, 69, 70, 71, 72, 73, 74, 75, 76, 77, 78, 79, 80, 81, 82, 83, 84, 85, 86, 87, 88, 89, 90, 97, 98, 99, 100, 101, 102, 103, 104, 105, 106, 107, 108, 109, 110, 111, 112, 113, 114, 115, 116, 117, 118, 119, 120, 121, 122, 48, 49, 50, 51, 52, 53, 54, 55, 56, 57, 43, 47]⟩, .int .u8 c] w fun e w' => e = .returned (.int .i64 (-1)) ∧ w = w' := findLet_no c w h0 h1 h

theorem bad_group {l : List UInt8} {j k : Nat} (h4 : l.length % 4 = 0) (hj : 4 * j < l.length) (hk : k < 4) (hf : fine (cat l (4 * j) k) k = false) : ∀ y, b64 y ≠ l := by
  intro y hy
  subst hy
  have h := (rdec_b64 y.length y rfl).2 j (by omega)
  simp only [fineG, Bool.and_eq_true] at h
  have hk4 : k = 0 ∨ k = 1 ∨ k = 2 ∨ k = 3 := by omega
  rcases hk4 with rfl | rfl | rfl | rfl
  · rw [h.1.1.1] at hf; simp at hf
  · rw [h.1.1.2] at hf; simp at hf
  · rw [h.1.2] at hf; simp at hf
  · rw [h.2] at hf; simp at hf
theorem bad_whole {l : List UInt8} (hb : b64 (rdec l (l.length / 4)) ≠ l) : ∀ y, b64 y ≠ l := by
  intro y hy
  subst hy
  rw [(rdec_b64 y.length y rfl).1] at hb
  exact hb rfl

set_option maxHeartbeats 8000000 in
theorem refUnbase64_any (s : ByteArray) (w : World) (hr : s.size ≤ 140737488351232) :
    Calls Try.prog 14 #[.string s] w fun e w' => ∃ v x ok, e = .returned (.tuple #[v, .bool ok]) ∧ Own w' w.heap.size v x ∧ UB s.data.toList x ok ∧ Below w.heap.size w w' := by
  have HL : Hid (s.data.toList.length = s.size) := by show _ = _; simp
  obtain ⟨i0, hi, hz0, hz1, hz2⟩ := info_parts info5
  by_cases hodd : s.size % 4 = 0
  · have hodd' : ((s.size : Int) % 4 != 0) = false := by simp; omega
    have HO : Hid (s.size % 4 = 0) := hodd
    clear hodd
    go_enter Try.func14, Try.ntmps14
    go_wp2
    go_loopw [4, 5] (fun b i wr => ∃ j p : Nat, p = 4 * j ∧ p ≤ s.size ∧ i = .int .i64 p ∧ Own wr w.heap.size b (rdec s.data.toList j) ∧ Below w.heap.size w wr)
      (fun _ i _ => s.size - (intOf i).toNat)
    case atStart => exact ⟨0, 0, rfl, Nat.zero_le _, rfl, World.ownsRow_nil _ _ _ _, Below.refl _ _⟩
    case round =>
      obtain ⟨j, p, hpj, hps, rfl, hown, hnx⟩ := hrel
      have HPJ : Hid (p = 4 * j) := hpj
      have hsz := hnx.size
      clear hpj
      by_cases hlt : p < s.size
      · have hp4 : p + 4 ≤ s.size := by have := HO.out; have := HPJ.out; omega
        obtain ⟨wo, ewo⟩ : ∃ x, x = wr := ⟨_, rfl⟩
        subst ewo
        go_wp2_with fail
        go_loopw [6, 7, 8] (fun n z k wq => ∃ q : Nat, q ≤ 4 ∧ n = .int .i64 (nv (cat s.data.toList p) q) ∧ z = .int .i64 (szv (cat s.data.toList p) q) ∧ k = .int .i64 q ∧ (∀ x, x < q → fine (cat s.data.toList p x) x = true) ∧ wo = wq)
          (fun _ _ k _ => 4 - (intOf k).toNat)
        case atStart => exact ⟨0, by omega, rfl, rfl, rfl, fun x hx => by omega, rfl⟩
        case round =>
          obtain ⟨q, hq4, rfl, rfl, rfl, hfine, rfl⟩ := hrel
          have HF : Hid (∀ x, x < q → fine (cat s.data.toList p x) x = true) := hfine
          have hzb := szv_bd (cat s.data.toList p) q hq4 hfine
          clear hfine
          by_cases hq : q < 4
          · have hix : p + q < s.size := by omega
            have hnb := nv_small (cat s.data.toList p) hq
            have b1 : (s[p + q].toNat : Int) ≤ 255 := by have := s[p + q].toNat_lt; omega
            have HC : Hid (cat s.data.toList p q = s[p + q]) := by
              show _ = _
              rw [cat, getD_byte hix]
            have vb : 0 ≤ svN (s[p + q].toNat : Int) ∧ svN (s[p + q].toNat : Int) ≤ 63 := svN_bd s[p + q]
            by_cases o1 : svOk (s[p + q].toNat : Int) = true
            · have OK : Hid (okB (cat s.data.toList p q) = true) := by
                show _ = _
                rw [HC.out]
                exact o1
              go_wp2_with fail
              refine (findL_yes _ _ (by omega) (by omega) o1).mono ?_
              rintro e w' ⟨rfl, rfl⟩
              go_wp2
              go_roundw
              case rel =>
                refine ⟨q + 1, by omega, ?_, ?_, by go_num, ?_, trivial⟩
                · rw [nv, cvv, if_pos OK.out, HC.out]
                  rfl
                · rw [szv, if_pos OK.out]
                · intro x hx
                  by_cases hxq : x = q
                  · rw [hxq, fine, OK.out]; rfl
                  · exact HF.out x (by omega)
              case measure => simp [intOf]; omega
            · have o1' : svOk (s[p + q].toNat : Int) = false := by simpa using o1
              have NOK : Hid (okB (cat s.data.toList p q) = false) := by
                show _ = _
                rw [HC.out]
                exact o1'
              clear o1
              by_cases h61 : (s[p + q].toNat : Int) = 61
              · have hq61 : ((s[p + q].toNat : Int) != 61) = false := by simp [h61]
                have H61 : Hid ((s[p + q].toNat : Int) = 61) := h61
                clear h61
                by_cases hq2 : q < 2
                · have HN : Hid (∀ y, b64 y ≠ s.data.toList) := bad_group (j := j) (k := q) (by rw [HL.out]; exact HO.out) (by rw [HL.out, ← HPJ.out]; exact hlt) hq (by
                    rw [← HPJ.out, fine, NOK.out, Bool.false_or, Bool.and_eq_false_iff]
                    exact .inr (decide_eq_false (by omega)))
                  go_wp2_with fail
                  refine (findL_no _ _ (by omega) (by omega) o1').mono ?_
                  rintro e w' ⟨rfl, rfl⟩
                  go_wp2
                  go_ret2
                  exact ⟨_, [], false, rfl, own_nil _ _ rfl, ub_no HN.out, hnx⟩
                · go_wp2_with fail
                  refine (findL_no _ _ (by omega) (by omega) o1').mono ?_
                  rintro e w' ⟨rfl, rfl⟩
                  go_wp2
                  go_roundw
                  case rel =>
                    refine ⟨q + 1, by omega, ?_, ?_, by go_num, ?_, trivial⟩
                    · rw [nv, cvv, NOK.out]
                      simp
                    · rw [szv, NOK.out]
                      have e : (if ((q : Int) - 1 < szv (cat s.data.toList p) q) then (q : Int) - 1 else szv (cat s.data.toList p) q) = min (szv (cat s.data.toList p) q) ((q : Int) - 1) := by split <;> omega
                      rw [e]
                      rfl
                    · intro x hx
                      by_cases hxq : x = q
                      · rw [hxq, fine, NOK.out, HC.out, Bool.false_or, Bool.and_eq_true]
                        exact ⟨decide_eq_true (eq61.2 H61.out), decide_eq_true (by omega)⟩
                      · exact HF.out x (by omega)
                  case measure => simp [intOf]; omega
              · have hq61 : ((s[p + q].toNat : Int) != 61) = true := by simp [h61]
                have HN : Hid (∀ y, b64 y ≠ s.data.toList) := bad_group (j := j) (k := q) (by rw [HL.out]; exact HO.out) (by rw [HL.out, ← HPJ.out]; exact hlt) hq (by
                  rw [← HPJ.out, fine, NOK.out, Bool.false_or, Bool.and_eq_false_iff]
                  refine .inl (decide_eq_false fun hh => h61 ?_)
                  rw [HC.out] at hh
                  exact eq61.1 hh)
                clear h61
                go_wp2_with fail
                refine (findL_no _ _ (by omega) (by omega) o1').mono ?_
                rintro e w' ⟨rfl, rfl⟩
                go_wp2
                go_ret2
                exact ⟨_, [], false, rfl, own_nil _ _ rfl, ub_no HN.out, hnx⟩
          · obtain rfl : q = 4 := by omega
            have hnb := nv_bd (cat s.data.toList p)
            obtain ⟨n, hn⟩ : ∃ n : Int, n = nv (cat s.data.toList p) 4 := ⟨_, rfl⟩
            obtain ⟨m, hm⟩ : ∃ m : Nat, (m : Int) = szv (cat s.data.toList p) 4 := ⟨(szv (cat s.data.toList p) 4).toNat, by omega⟩
            have hn0 : 0 ≤ n := by omega
            have hn1 : n ≤ 16777215 := by omega
            have hm1 : 1 ≤ m := by omega
            have hm3 : m ≤ 3 := by omega
            have HNV : Hid (n = nv (cat s.data.toList p) 4) := hn
            have HMV : Hid ((m : Int) = szv (cat s.data.toList p) 4) := hm
            have HRB : Hid (rb (cat s.data.toList p) = [byte (n / 65536 % 256).toNat, byte (n / 256 % 256).toNat, byte (n % 256).toNat].take m) := by
              show _ = _
              rw [rb, ← HNV.out, ← HMV.out]
              rfl
            have hrl := rdec_length s.data.toList j
            have hj4 : 4 * j ≤ s.size := by have := HPJ.out; omega
            rw [← HNV.out, ← HMV.out]
            clear hn hm hnb hzb
            go_wp2_with fail
            go_loopw [4, 10] (fun b k wq => ∃ q : Nat, q ≤ m ∧ k = .int .i64 q ∧ Own wq w.heap.size b (rdec s.data.toList j ++ [byte (n / 65536 % 256).toNat, byte (n / 256 % 256).toNat, byte (n % 256).toNat].take q) ∧ Below w.heap.size w wq)
              (fun _ k _ => 4 - (intOf k).toNat)
            case atStart => exact ⟨0, by omega, rfl, by simpa using hown, hnx⟩
            case round =>
              obtain ⟨q, hqm, rfl, hown2, hnx2⟩ := hrel
              have hsz2 := hnx2.size
              by_cases hq : q < m
              · have h3 : q = 0 ∨ q = 1 ∨ q = 2 := by omega
                rcases h3 with rfl | rfl | rfl
                · have hol : Hid (wr.ownsRow w.heap.size 5 1 u4 (rdec s.data.toList j ++ [byte (n / 65536 % 256).toNat, byte (n / 256 % 256).toNat, byte (n % 256).toNat].take 0).length (bcs (rdec s.data.toList j ++ [byte (n / 65536 % 256).toNat, byte (n / 256 % 256).toNat, byte (n % 256).toNat].take 0))) := hown2
                  have hlen : (rdec s.data.toList j ++ [byte (n / 65536 % 256).toNat, byte (n / 256 % 256).toNat, byte (n % 256).toNat].take 0).length ≤ 3 * j + 3 := by simp; omega
                  obtain ⟨X, hX⟩ : ∃ X, X = rdec s.data.toList j ++ [byte (n / 65536 % 256).toNat, byte (n / 256 % 256).toNat, byte (n % 256).toNat].take 0 := ⟨_, rfl⟩
                  have HX : Hid (X = rdec s.data.toList j ++ [byte (n / 65536 % 256).toNat, byte (n / 256 % 256).toNat, byte (n % 256).toNat].take 0) := hX
                  rw [← hX] at hlen hol
                  clear hX hown2
                  go_wp2_with (at_builtin; refine wpList_append_own _ rfl (.tmp 56) (.tmp 64) 22 rfl w.heap.size 5 i0 (.int .u8 0) 1 1 Try.underlying22 hi hz0 hz1 hz2 rfl (by decide) _ _ _ rfl (hol.out.alloc _) ⟨wr.heap.size, 0, none⟩ 1 1 [.int .u8 (n / 65536 % 256)] rfl rfl ?c1a ?c2a ?c3a ?c4a ?c5a ?_)
                  case c1a => exact cell_one_new _ _ _
                  case c2a => exact one_one _ rfl
                  case c3a => unfold maxLen; omega
                  case c4a => omega
                  case c5a => simp; omega
                  intro v' w1 hown1 hgrow1 _
                  have R : Own w1 w.heap.size v' (rdec s.data.toList j ++ [byte (n / 65536 % 256).toNat, byte (n / 256 % 256).toNat, byte (n % 256).toNat].take 1) := by
                    have e : rdec s.data.toList j ++ [byte (n / 65536 % 256).toNat, byte (n / 256 % 256).toNat, byte (n % 256).toNat].take 1 = X ++ [byte (n / 65536 % 256).toNat] := by
                      rw [HX.out, List.append_assoc]
                      rfl
                    rw [e]
                    unfold Own
                    rw [List.length_append, bcs_append, byte_cell (by omega)]
                    have ec : (((n / 65536 % 256).toNat : Nat) : Int) = n / 65536 % 256 := by omega
                    rw [ec]
                    exact hown1
                  have hB1 : Below w.heap.size w w1 := (hnx2.alloc hsz2 _).grown hgrow1 (by simp; omega) (fun x hx => (World.ownsRow.lt hol.out x hx).1)
                  clear hown1 hgrow1
                  go_wp2
                  go_roundw
                  case rel => (repeat apply Exists.intro); exact ⟨⟨1, by omega, rfl, R, hB1⟩, rfl⟩
                  case measure => simp [intOf]
                · have hol : Hid (wr.ownsRow w.heap.size 5 1 u4 (rdec s.data.toList j ++ [byte (n / 65536 % 256).toNat, byte (n / 256 % 256).toNat, byte (n % 256).toNat].take 1).length (bcs (rdec s.data.toList j ++ [byte (n / 65536 % 256).toNat, byte (n / 256 % 256).toNat, byte (n % 256).toNat].take 1))) := hown2
                  have hlen : (rdec s.data.toList j ++ [byte (n / 65536 % 256).toNat, byte (n / 256 % 256).toNat, byte (n % 256).toNat].take 1).length ≤ 3 * j + 3 := by simp; omega
                  obtain ⟨X, hX⟩ : ∃ X, X = rdec s.data.toList j ++ [byte (n / 65536 % 256).toNat, byte (n / 256 % 256).toNat, byte (n % 256).toNat].take 1 := ⟨_, rfl⟩
                  have HX : Hid (X = rdec s.data.toList j ++ [byte (n / 65536 % 256).toNat, byte (n / 256 % 256).toNat, byte (n % 256).toNat].take 1) := hX
                  rw [← hX] at hlen hol
                  clear hX hown2
                  go_wp2_with (at_builtin; refine wpList_append_own _ rfl (.tmp 56) (.tmp 64) 22 rfl w.heap.size 5 i0 (.int .u8 0) 1 1 Try.underlying22 hi hz0 hz1 hz2 rfl (by decide) _ _ _ rfl (hol.out.alloc _) ⟨wr.heap.size, 0, none⟩ 1 1 [.int .u8 (n / 256 % 256)] rfl rfl ?c1b ?c2b ?c3b ?c4b ?c5b ?_)
                  case c1b => exact cell_one_new _ _ _
                  case c2b => exact one_one _ rfl
                  case c3b => unfold maxLen; omega
                  case c4b => omega
                  case c5b => simp; omega
                  intro v' w1 hown1 hgrow1 _
                  have R : Own w1 w.heap.size v' (rdec s.data.toList j ++ [byte (n / 65536 % 256).toNat, byte (n / 256 % 256).toNat, byte (n % 256).toNat].take 2) := by
                    have e : rdec s.data.toList j ++ [byte (n / 65536 % 256).toNat, byte (n / 256 % 256).toNat, byte (n % 256).toNat].take 2 = X ++ [byte (n / 256 % 256).toNat] := by
                      rw [HX.out, List.append_assoc]
                      rfl
                    rw [e]
                    unfold Own
                    rw [List.length_append, bcs_append, byte_cell (by omega)]
                    have ec : (((n / 256 % 256).toNat : Nat) : Int) = n / 256 % 256 := by omega
                    rw [ec]
                    exact hown1
                  have hB1 : Below w.heap.size w w1 := (hnx2.alloc hsz2 _).grown hgrow1 (by simp; omega) (fun x hx => (World.ownsRow.lt hol.out x hx).1)
                  clear hown1 hgrow1
                  go_wp2
                  go_roundw
                  case rel => (repeat apply Exists.intro); exact ⟨⟨2, by omega, rfl, R, hB1⟩, rfl⟩
                  case measure => simp [intOf]
                · have hol : Hid (wr.ownsRow w.heap.size 5 1 u4 (rdec s.data.toList j ++ [byte (n / 65536 % 256).toNat, byte (n / 256 % 256).toNat, byte (n % 256).toNat].take 2).length (bcs (rdec s.data.toList j ++ [byte (n / 65536 % 256).toNat, byte (n / 256 % 256).toNat, byte (n % 256).toNat].take 2))) := hown2
                  have hlen : (rdec s.data.toList j ++ [byte (n / 65536 % 256).toNat, byte (n / 256 % 256).toNat, byte (n % 256).toNat].take 2).length ≤ 3 * j + 3 := by simp; omega
                  obtain ⟨X, hX⟩ : ∃ X, X = rdec s.data.toList j ++ [byte (n / 65536 % 256).toNat, byte (n / 256 % 256).toNat, byte (n % 256).toNat].take 2 := ⟨_, rfl⟩
                  have HX : Hid (X = rdec s.data.toList j ++ [byte (n / 65536 % 256).toNat, byte (n / 256 % 256).toNat, byte (n % 256).toNat].take 2) := hX
                  rw [← hX] at hlen hol
                  clear hX hown2
                  go_wp2_with (at_builtin; refine wpList_append_own _ rfl (.tmp 56) (.tmp 64) 22 rfl w.heap.size 5 i0 (.int .u8 0) 1 1 Try.underlying22 hi hz0 hz1 hz2 rfl (by decide) _ _ _ rfl (hol.out.alloc _) ⟨wr.heap.size, 0, none⟩ 1 1 [.int .u8 (n % 256)] rfl rfl ?c1c ?c2c ?c3c ?c4c ?c5c ?_)
                  case c1c => exact cell_one_new _ _ _
                  case c2c => exact one_one _ rfl
                  case c3c => unfold maxLen; omega
                  case c4c => omega
                  case c5c => simp; omega
                  intro v' w1 hown1 hgrow1 _
                  have R : Own w1 w.heap.size v' (rdec s.data.toList j ++ [byte (n / 65536 % 256).toNat, byte (n / 256 % 256).toNat, byte (n % 256).toNat].take 3) := by
                    have e : rdec s.data.toList j ++ [byte (n / 65536 % 256).toNat, byte (n / 256 % 256).toNat, byte (n % 256).toNat].take 3 = X ++ [byte (n % 256).toNat] := by
                      rw [HX.out, List.append_assoc]
                      rfl
                    rw [e]
                    unfold Own
                    rw [List.length_append, bcs_append, byte_cell (by omega)]
                    have ec : (((n % 256).toNat : Nat) : Int) = n % 256 := by omega
                    rw [ec]
                    exact hown1
                  have hB1 : Below w.heap.size w w1 := (hnx2.alloc hsz2 _).grown hgrow1 (by simp; omega) (fun x hx => (World.ownsRow.lt hol.out x hx).1)
                  clear hown1 hgrow1
                  go_wp2
                  go_roundw
                  case rel => (repeat apply Exists.intro); exact ⟨⟨3, by omega, rfl, R, hB1⟩, rfl⟩
                  case measure => simp [intOf]
              · obtain rfl : q = m := by omega
                have R : Own wr w.heap.size u4 (rdec s.data.toList (j + 1)) := by
                  rw [rdec_succ, ← HPJ.out, HRB.out]
                  exact hown2
                clear hown2
                go_wp2
                go_roundw
                case rel => exact ⟨j + 1, p + 4, by have := HPJ.out; omega, by omega, by go_num, R, hnx2⟩
                case measure => simp [intOf]; omega
      · have hps' : p = s.size := by omega
        have HJ : Hid (j = s.data.toList.length / 4) := by show _ = _; rw [HL.out]; have := HPJ.out; omega
        obtain ⟨x, cx, rfl, hx⟩ := hown.bytes
        have hrl := rdec_length s.data.toList j
        have hj4 : 4 * j ≤ s.size := by have := HPJ.out; omega
        clear hps'
        by_cases heq : b64 (rdec s.data.toList j) = s.data.toList
        · have hq : (!b64 (rdec s.data.toList j) == s.toList) = false := by simp [ByteArray.toList_eq, heq]
          have HE : Hid (b64 (rdec s.data.toList j) = s.data.toList) := heq
          clear heq
          go_wp2_with fail
          refine (refBase64_any x (rdec s.data.toList j) cx _ (by omega) hx).mono ?_
          rintro e w' ⟨rfl, rfl⟩
          go_wp2
          go_ret2
          exact ⟨_, _, true, rfl, hown, ub_yes HE.out, hnx⟩
        · have hq : (!b64 (rdec s.data.toList j) == s.toList) = true := by simp only [ByteArray.toList_eq, Bool.not_eq_true', beq_eq_false_iff_ne]; exact heq
          have HN : Hid (∀ y, b64 y ≠ s.data.toList) := bad_whole (by rw [← HJ.out]; exact heq)
          clear heq
          go_wp2_with fail
          refine (refBase64_any x (rdec s.data.toList j) cx _ (by omega) hx).mono ?_
          rintro e w' ⟨rfl, rfl⟩
          go_wp2
          go_ret2
          exact ⟨_, [], false, rfl, own_nil _ _ rfl, ub_no HN.out, hnx⟩
  · have hodd' : ((s.size : Int) % 4 != 0) = true := by simp; omega
    have HN : Hid (∀ y, b64 y ≠ s.data.toList) := by
      intro y hy
      have := b64_len4 y
      rw [hy, HL.out] at this
      exact hodd this
    clear hodd
    go_enter Try.func14, Try.ntmps14
    go_wp2
    go_ret2
    exact ⟨_, [], false, rfl, own_nil _ _ rfl, ub_no HN.out, Below.refl _ _⟩
end Go.Proofs.Ytbbjkdnebgeioaa
