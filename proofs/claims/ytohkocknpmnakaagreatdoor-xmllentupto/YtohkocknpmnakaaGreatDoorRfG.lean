/-
  The document's Unescape.
-/
import Derived.Test.YtohkocknpmnakaaGreatDoorRfF
namespace Go.Proofs.YtohkocknpmnakaaGreatDoor
open Go.RowKit

theorem une_nil : une [] = some [] := rfl
theorem une_cr (r : List UInt8) : une (13 :: r) = (une (if r.head? = some 10 then r.drop 1 else r)).map (10 :: ·) := by
  rw [← unR_eq (r.length + 1) (13 :: r) (by simp)]
  simp only [unR, if_true]
  rw [unR_eq]
  split <;> simp
theorem une_amp (r : List UInt8) : une (38 :: r) = if (upto 59 r).length = r.length then none else (entL (upto 59 r)).bind fun t => (une (r.drop ((upto 59 r).length + 1))).map (t ++ ·) := by
  rw [← unR_eq (r.length + 1) (38 :: r) (by simp)]
  simp only [unR, if_true]
  rw [if_neg (by decide)]
  split
  · rfl
  · congr 1
    funext t
    rw [unR_eq _ _ (by simp)]
theorem une_cons (c : UInt8) (r : List UInt8) (h : c ≠ 13) (h2 : c ≠ 38) : une (c :: r) = (une r).map (c :: ·) := by
  rw [← unR_eq (r.length + 1) (c :: r) (by simp)]
  simp only [unR, if_neg h, if_neg h2]
  rw [unR_eq _ _ (by simp)]
theorem enc_len4 (n : Nat) (hv : n < 55296 ∨ (57343 < n ∧ n ≤ 1114111)) : (Lib.encodeRune (n : Int)).length ≤ 4 := by
  rw [enc_rune n hv, enc_list n hv]
  (repeat' split) <;> simp
theorem ent_len4 {a t : List UInt8} (h : entL a = some t) : t.length ≤ 4 := by
  have hn : ∀ b ds t, numL b ds = some t → t.length ≤ 4 := by
    intro b ds t h
    unfold numL at h
    split at h
    · simp only [Option.bind_eq_some_iff] at h
      obtain ⟨n, _, h⟩ := h
      split at h
      · next hc =>
        simp only [Option.some.injEq] at h
        subst h
        exact enc_len4 n (ch_valid hc)
      · cases h
    · cases h
  unfold entL at h
  split at h
  · cases h; decide
  · split at h
    · cases h; decide
    · split at h
      · cases h; decide
      · split at h
        · cases h; decide
        · split at h
          · cases h; decide
          · split at h
            · exact hn _ _ _ h
            · simp only [Option.bind_eq_some_iff] at h
              obtain ⟨ds, _, h⟩ := h
              exact hn _ _ _ h

set_option maxRecDepth 20000 in
set_option maxHeartbeats 3200000 in
theorem unesc_ref (m : List UInt8) (w : World) (hl : m.length ≤ 17592186044416) :
    Calls Tryz.prog 21 #[.string ⟨m.toArray⟩] w fun e w' => e = .returned (entV (une m)) ∧ Below w.heap.size w w' := by
  obtain ⟨s, hs⟩ : ∃ s : ByteArray, s = ⟨m.toArray⟩ := ⟨_, rfl⟩
  have HS : Hid (s = ⟨m.toArray⟩ ∧ s.size = m.length) := ⟨hs, by rw [hs, mk_size]⟩
  have hsl : s.size ≤ 17592186044416 := by rw [HS.out.2]; omega
  obtain ⟨O, hO⟩ : ∃ O, O = une m := ⟨_, rfl⟩
  rw [← hs, ← hO]
  have HO0 : Hid (O = (une (m.drop 0)).map ([] ++ ·)) := by
    show _ = _
    rw [hO]
    simp
  clear hs hl hO
  go_enter Tryz.func21, Tryz.ntmps21
  go_wp2
  go_loopw [4, 5] (fun v i wx => ∃ (k : Nat) (A : List UInt8), k ≤ s.size ∧ i = .int .i64 k ∧ v = .string ⟨A.toArray⟩ ∧ A.length ≤ 4 * k ∧ O = (une (m.drop k)).map (A ++ ·) ∧ Below w.heap.size w wx) (fun _ i _ => s.size - (intOf i).toNat)
  case atStart => exact ⟨0, [], Nat.zero_le _, rfl, rfl, by simp, HO0.out, Below.refl _ _⟩
  case round =>
    obtain ⟨k, A, hk, rfl, rfl, hA, hO, hbw⟩ := hrel
    by_cases hlt : k < s.size
    · have hkl : k < m.length := by rw [← HS.out.2]; exact hlt
      have hsk : (s[k].toNat : Int) = (m[k].toNat : Int) := by
        have e : ∀ (t : ByteArray) (h : t = ⟨m.toArray⟩) (hk : k < t.size), t[k] = m[k] := by
          rintro t rfl hk
          rfl
        rw [e s HS.out.1 hlt]
      have hdr : m.drop k = m[k] :: m.drop (k + 1) := (List.getElem_cons_drop ..).symm
      rw [hdr] at hO
      have HB : Hid (Below w.heap.size w wr) := hbw
      clear hdr hbw
      by_cases hc : m[k] = 13
      · rw [hc, une_cr] at hO
        rw [hc] at hsk
        have a1 := add_list A [10] (by simp; omega)
        have hsn : (s[k].toNat : Int) = 13 := hsk
        by_cases hk1 : k + 1 < s.size
        · have hkl1 : k + 1 < m.length := by rw [← HS.out.2]; exact hk1
          have hki : (k : Int) + 1 < (s.size : Int) := by omega
          have hsk1 : (s[k + 1].toNat : Int) = (m[k + 1].toNat : Int) := by
            have e : ∀ (t : ByteArray) (h : t = ⟨m.toArray⟩) (hk : k + 1 < t.size), t[k + 1] = m[k + 1] := by
              rintro t rfl hk
              rfl
            rw [e s HS.out.1 hk1]
          have hhd : (m.drop (k + 1)).head? = some m[k + 1] := by simp [hkl1]
          rw [hhd] at hO
          by_cases hd : m[k + 1] = 10
          · rw [if_pos (by rw [hd])] at hO
            have HO2 : Hid (O = (une (m.drop (k + 2))).map ((A ++ [10]) ++ ·)) := by
              show _ = _
              rw [hO, List.drop_drop, Option.map_map]
              congr 1
              funext x
              simp
            have hs1 : (s[k + 1].toNat : Int) = 10 := by rw [hsk1, hd]; rfl
            clear hsk hc hsk1 hd hhd hO
            go_wp2
            all_goals
              go_roundw
              case rel => exact ⟨k + 2, A ++ [10], by omega, by go_num, rfl, by simp; omega, HO2.out, HB.out⟩
              case measure => simp [intOf]; omega
          · rw [if_neg (by simpa using hd)] at hO
            have HO2 : Hid (O = (une (m.drop (k + 1))).map ((A ++ [10]) ++ ·)) := by
              show _ = _
              rw [hO, Option.map_map]
              congr 1
              funext x
              simp
            have hs1 : ¬ (s[k + 1].toNat : Int) = 10 := by
              rw [hsk1]
              intro h
              exact hd (UInt8.toNat_inj.1 (by simp; omega))
            clear hsk hc hsk1 hd hhd hO
            go_wp2
            all_goals
              go_roundw
              case rel => exact ⟨k + 1, A ++ [10], by omega, by go_num, rfl, by simp; omega, HO2.out, HB.out⟩
              case measure => simp [intOf]; omega
        · have hhd : (m.drop (k + 1)) = [] := List.drop_eq_nil_of_le (by rw [← HS.out.2]; omega)
          have hki : ¬ (k : Int) + 1 < (s.size : Int) := by omega
          have HO2 : Hid (O = (une (m.drop (k + 1))).map ((A ++ [10]) ++ ·)) := by
            show _ = _
            rw [hO, hhd, if_neg (by simp), Option.map_map]
            congr 1
            funext x
            simp
          clear hsk hc hhd hO
          go_wp2
          all_goals
            go_roundw
            case rel => exact ⟨k + 1, A ++ [10], by omega, by go_num, rfl, by simp; omega, HO2.out, HB.out⟩
            case measure => simp [intOf]; omega
      · have hs13 : ¬ (s[k].toNat : Int) = 13 := by
          rw [hsk]
          intro h
          exact hc (UInt8.toNat_inj.1 (by simp; omega))
        by_cases h38 : m[k] = 38
        · rw [h38, une_amp] at hO
          rw [h38] at hsk
          have hsn : (s[k].toNat : Int) = 38 := hsk
          have hx : s.extract (k + 1) s.size = ⟨(m.drop (k + 1)).toArray⟩ := by
            rw [HS.out.1, mk_ext, mk_size, List.take_length]
          have hki2 : (k : Int) + 1 ≤ (s.size : Int) := by omega
          have hrl : (m.drop (k + 1)).length = s.size - (k + 1) := by rw [HS.out.2]; simp
          generalize hr : m.drop (k + 1) = r at *
          have KC := (show Hid (∀ W, Calls Tryz.prog 44 #[.string ⟨r.toArray⟩, .int .u8 59] W fun e w' => e = .returned (if (upto 59 r).length = r.length then .tuple #[.string ⟨r.toArray⟩, .string ⟨#[]⟩, .bool false] else .tuple #[.string ⟨(upto 59 r).toArray⟩, .string ⟨(r.drop ((upto 59 r).length + 1)).toArray⟩, .bool true]) ∧ Below W.heap.size W w') from fun W => cut_ref r 59 W (by omega))
          have KE := (show Hid (∀ a W, a.length ≤ s.size → Calls Tryz.prog 45 #[.string ⟨a.toArray⟩] W fun e w' => e = .returned (.tuple #[.string ⟨((entL a).getD []).toArray⟩, .bool (entL a).isSome]) ∧ Below W.heap.size W w') from fun a W h => entity_any a W (by omega))
          have hul := upto_le 59 r
          by_cases hn : (upto 59 r).length = r.length
          · rw [if_pos hn] at hO
            have HO2 : Hid (O = none) := hO
            simp only [if_pos hn] at KC
            have hrz : r.length ≤ s.size := by omega
            clear hO hsk hc h38 hs13
            go_wp2_with (first | (go_at_call 44; refine (KC.out _).mono ?_; rintro e w1 ⟨rfl, hb1⟩) | (go_at_call 45; refine (KE.out _ _ hrz).mono ?_; rintro e w2 ⟨rfl, hb2⟩))
            all_goals
              go_ret2
              exact ⟨by rw [HO2.out]; rfl, (HB.out.trans (hb1.mono HB.out.size)).trans (hb2.mono (HB.out.trans (hb1.mono HB.out.size)).size)⟩
          · rw [if_neg hn] at hO
            simp only [if_neg hn] at KC
            have hrz : (upto 59 r).length ≤ s.size := by omega
            have hdd : r.drop ((upto 59 r).length + 1) = m.drop (k + 1 + (upto 59 r).length + 1) := by
              rw [← hr, List.drop_drop]
              congr 1
              
            have KE2 := (show Hid (∀ W, Calls Tryz.prog 45 #[.string ⟨(upto 59 r).toArray⟩] W fun e w' => e = .returned (.tuple #[.string ⟨((entL (upto 59 r)).getD []).toArray⟩, .bool (entL (upto 59 r)).isSome]) ∧ Below W.heap.size W w') from fun W => KE.out _ W hrz)
            have hun : (⟨(upto 59 r).toArray⟩ : ByteArray).size = (upto 59 r).length := mk_size _
            rw [hdd] at hO
            clear hdd
            generalize r.drop ((upto 59 r).length + 1) = rr at *
            have hult : (upto 59 r).length < r.length := by omega
            generalize upto 59 r = u at *
            cases he : entL u with
            | none =>
              rw [he] at hO KE2
              have HO2 : Hid (O = none) := hO
              simp only [Option.getD_none, Option.isSome_none] at KE2
              clear hO hsk hc h38 hs13 he KE
              go_wp2_with (first | (go_at_call 44; refine (KC.out _).mono ?_; rintro e w1 ⟨rfl, hb1⟩) | (go_at_call 45; refine (KE2.out _).mono ?_; rintro e w2 ⟨rfl, hb2⟩))
              all_goals
                go_ret2
                exact ⟨by rw [HO2.out]; rfl, (HB.out.trans (hb1.mono HB.out.size)).trans (hb2.mono (HB.out.trans (hb1.mono HB.out.size)).size)⟩
            | some t =>
              have ht4 := ent_len4 he
              rw [he] at hO KE2
              have HO2 : Hid (O = (une (m.drop (k + 1 + u.length + 1))).map ((A ++ t) ++ ·)) := by
                show _ = _
                rw [hO, Option.bind_some, Option.map_map]
                congr 1
                funext x
                simp
              have a1 := add_list A t (by omega)
              simp only [Option.getD_some, Option.isSome_some] at KE2
              clear hO hsk hc h38 hs13 he KE
              go_wp2_with (first | (go_at_call 44; refine (KC.out _).mono ?_; rintro e w1 ⟨rfl, hb1⟩) | (go_at_call 45; refine (KE2.out _).mono ?_; rintro e w2 ⟨rfl, hb2⟩))
              all_goals
                go_roundw
                case rel => exact ⟨k + 1 + u.length + 1, A ++ t, by omega, by go_num, rfl, by simp; omega, HO2.out, (HB.out.trans (hb1.mono HB.out.size)).trans (hb2.mono (HB.out.trans (hb1.mono HB.out.size)).size)⟩
                case measure => simp [intOf]; omega
        · have hs38 : ¬ (s[k].toNat : Int) = 38 := by
            rw [hsk]
            intro h
            exact h38 (UInt8.toNat_inj.1 (by simp; omega))
          rw [une_cons _ _ hc h38] at hO
          have hex : s.extract k (k + 1) = ⟨[m[k]].toArray⟩ := by
            rw [HS.out.1, mk_ext]
            congr 2
            rw [List.take_succ_eq_append_getElem hkl, List.drop_append_of_le_length (by simp; omega), List.drop_eq_nil_of_le (by simp; omega), List.nil_append]
          generalize m[k] = c at *
          have HO2 : Hid (O = (une (m.drop (k + 1))).map ((A ++ [c]) ++ ·)) := by
            show _ = _
            rw [hO, Option.map_map]
            congr 1
            funext x
            simp
          have a1 := add_list A [c] (by simp; omega)
          clear hO hsk hc h38
          go_wp2
          all_goals
            go_roundw
            case rel => exact ⟨k + 1, A ++ [c], by omega, by go_num, rfl, by simp; omega, HO2.out, HB.out⟩
            case measure => simp [intOf]; omega
    · have HO2 : Hid (O = some A) := by
        show _ = _
        rw [hO, List.drop_eq_nil_of_le (by rw [← HS.out.2]; omega), une_nil]
        simp
      clear hO
      go_wp2
      go_ret2
      exact ⟨by rw [HO2.out]; rfl, hbw⟩
end Go.Proofs.YtohkocknpmnakaaGreatDoor
