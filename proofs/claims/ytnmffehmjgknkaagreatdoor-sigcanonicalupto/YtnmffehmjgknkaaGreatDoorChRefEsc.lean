/-
  The document's Escape by its contract.
-/
import Derived.Test.YtnmffehmjgknkaaGreatDoorChUne
import Derived.Deep.QuietTactic
import Derived.BigQuiet
namespace Go.Proofs.YtnmffehmjgknkaaGreatDoor.Ch
open Go.RowKit

def inL (l : List UInt8) (c : Int) : Bool := l.any fun b => decide ((b.toNat : Int) = c)
theorem inL_hit {l : List UInt8} {c : Int} {k : Nat} (hk : k < l.length) (h : (l[k].toNat : Int) = c) : inL (l.drop k) c = true := by
  rw [inL, List.drop_eq_getElem_cons hk, List.any_cons, decide_eq_true h, Bool.true_or]
theorem inL_miss {l : List UInt8} {c : Int} {k : Nat} (hk : k < l.length) (h : ¬ (l[k].toNat : Int) = c) : inL (l.drop k) c = inL (l.drop (k + 1)) c := by
  rw [inL, List.drop_eq_getElem_cons hk, List.any_cons, decide_eq_false h, Bool.false_or]
  rfl
theorem refIn_any (s : ByteArray) (c : Int) (w : World) (hs : s.size ≤ maxLen) :
    Calls Tryz.prog 104 #[.string s, .int .u8 c] w fun e w' => e = .returned (.bool (inL s.data.toList c)) ∧ w = w' := by
  unfold maxLen at hs
  go_enter Tryz.func104, Tryz.ntmps104
  go_wp2
  go_loop [5] (fun i => ∃ k : Nat, k ≤ s.size ∧ i = .int .i64 k ∧ inL (s.data.toList.drop k) c = inL s.data.toList c) (fun i => s.size - (intOf i).toNat)
  case atStart => exact ⟨0, Nat.zero_le _, rfl, rfl⟩
  case round =>
    obtain ⟨k, hk, rfl, hf⟩ := hrel
    have HF : Hid (inL (s.data.toList.drop k) c = inL s.data.toList c) := hf
    clear hf
    by_cases hlt : k < s.size
    · have hlt' : k < s.data.toList.length := by simpa using hlt
      by_cases hh : (s[k].toNat : Int) = c
      · have hq : ((s[k].toNat : Int) == c) = true := by simp [hh]
        have HH : Hid ((s.data.toList[k].toNat : Int) = c) := hh
        clear hh
        go_wp2
        go_ret
        exact ⟨ret_bool (by rw [← HF.out, inL_hit hlt' HH.out]), rfl⟩
      · have hq : ((s[k].toNat : Int) == c) = false := by simp [hh]
        have HH : Hid (¬ (s.data.toList[k].toNat : Int) = c) := hh
        clear hh
        go_wp2
        go_round
        case rel => exact ⟨k + 1, by omega, by go_num, by rw [← HF.out, inL_miss hlt' HH.out]⟩
        case measure => simp [intOf]; omega
    · have hz : s.data.toList.drop k = [] := List.drop_eq_nil_of_le (by simp; omega)
      have HZ : Hid (s.data.toList.drop k = []) := hz
      clear hz
      go_wp2
      go_ret
      exact ⟨ret_bool (by rw [← HF.out, HZ.out]; rfl), rfl⟩

/-- A character that is one holds a byte 0 just if it is the character 0. -/
theorem in4_t : ∀ n : Nat, n < 256 → inL [45, 46, 95, 126] (n : Int) = (decide ((n : Int) = 45) || decide ((n : Int) = 46) || decide ((n : Int) = 95) || decide ((n : Int) = 126)) := by decide +kernel
theorem one_of (s : ByteArray) (k : Nat) (h : k < s.size) : s.extract k (k + 1) = ⟨#[s[k]]⟩ := by
  obtain ⟨⟨l⟩⟩ := s
  have h' : k < l.length := h
  show ByteArray.extract ⟨⟨l⟩⟩ k (k + 1) = ⟨#[l[k]]⟩
  have : (ByteArray.extract ⟨⟨l⟩⟩ k (k + 1)).data = #[l[k]] := by
    rw [ByteArray.data_extract]
    apply Array.toList_inj.1
    simp only [Array.toList_extract, List.extract_eq_take_drop]
    rw [List.drop_eq_getElem_cons h', show k + 1 - k = 1 from by omega]
    rfl
  exact congrArg ByteArray.mk this

theorem hexUp_cut : ∀ v : Fin 16, (hexUp.extract v.val (v.val + 1)).data = #[hx v.val] := by decide +kernel
theorem cut_at (n : Nat) (v : Int) (hv : v = (n : Int)) (h : n < 16) (w : World) :
    (Instr.slice 9 (.string ⟨#[48, 49, 50, 51, 52, 53, 54, 55, 56, 57, 65, 66, 67, 68, 69, 70]⟩) (some (.int .u8 v)) (some (.int .u8 (v + 1))) none).run Tryz.prog w = .ok (.string ⟨#[hx n]⟩) w := by
  subst hv
  rw [run_slice_string w 9 _ .u8 .u8 _ _ Tryz.underlying9 (by omega) (by omega) (by show (n : Int) + 1 ≤ 16; omega)]
  have e1 : ((n : Int)).toNat = n := by omega
  have e2 : ((n : Int) + 1).toNat = n + 1 := by omega
  rw [e1, e2]
  exact congrArg (fun z => Result.ok (Value.string z) w) (congrArg ByteArray.mk (hexUp_cut ⟨n, h⟩))
theorem ba_app (A : List UInt8) (x y z : UInt8) : (⟨(A ++ [x, y]).toArray⟩ : ByteArray) ++ ⟨#[z]⟩ = ⟨(A ++ [x, y, z]).toArray⟩ := by
  rw [show (⟨#[z]⟩ : ByteArray) = ⟨[z].toArray⟩ from rfl, ByteArray.mk_append_mk]
  simp
theorem wrap_u8 (v : Int) (h0 : 0 ≤ v) (h1 : v < 256) : IntKind.u8.wrap v = v := by rw [IntKind.wrap_u8']; omega
theorem add_one_str (A : List UInt8) (c : UInt8) (h : A.length ≤ 281474976710656) (wx : World) : (Op.stringOp .add ⟨A.toArray⟩ ⟨#[c]⟩).run Tryz.prog wx = .ok (.string ⟨(A ++ [c]).toArray⟩) wx := by
  rw [run_string_add_sum wx _ _ (by simp [ByteArray.size]; omega)]
  exact congrArg (fun z => Result.ok (Value.string z) wx) (ByteArray.mk_append_mk _ [c])

set_option maxHeartbeats 1000000 in
theorem refEscape_any (s : ByteArray) (slash : Bool) (w : World) (hr : s.size ≤ 17592186044416) :
    Calls Tryz.prog 42 #[.string s, .bool slash] w fun e w' => e = .returned (.string ⟨(escL slash s.data.toList).toArray⟩) ∧ Below w.heap.size w w' := by
  have hL : s.data.toList.length = s.size := by simp
  have HL : Hid (s.data.toList.length = s.size) := hL
  clear hL
  go_enter Tryz.func42, Tryz.ntmps42
  go_wp2
  go_loopw [5, 6] (fun v i wr => ∃ k : Nat, k ≤ s.size ∧ i = .int .i64 k ∧ v = .string ⟨(escL slash (s.data.toList.take k)).toArray⟩ ∧ Below w.heap.size w wr)
    (fun _ i _ => s.size - (intOf i).toNat)
  case atStart => exact ⟨0, Nat.zero_le _, rfl, rfl, Below.refl _ _⟩
  case round =>
    obtain ⟨k, hk, rfl, rfl, hnx⟩ := hrel
    have hle := escL_len slash (s.data.toList.take k)
    have hlk : (s.data.toList.take k).length ≤ k := List.length_take_le _ _
    by_cases hlt : k < s.size
    · have HE : Hid (escL slash (s.data.toList.take (k + 1)) = escL slash (s.data.toList.take k) ++ e1 slash s[k]) := escL_snoc slash _ _ (by rw [HL.out]; omega)
      obtain ⟨A, hA⟩ : ∃ A, A = escL slash (s.data.toList.take k) := ⟨_, rfl⟩
      rw [← hA] at HE hle
      rw [← hA]
      have HX1 : Hid (s.extract k (k + 1) = ⟨#[s[k]]⟩) := one_of s k hlt
      obtain ⟨c, hc⟩ : ∃ c, s[k] = c := ⟨_, rfl⟩
      rw [hc] at HE HX1
      obtain ⟨n, hn⟩ : ∃ n : Nat, n = c.toNat := ⟨_, rfl⟩
      have hcn : (s[k].toNat : Int) = (n : Int) := by rw [hc, hn]
      have hn2 : n < 256 := by rw [hn]; exact c.toNat_lt
      have b1 : (n : Int) ≤ 255 := by omega
      have HN : Hid (n = c.toNat) := hn
      clear hn hc hA
      have hAl : A.length ≤ 52776558133248 := by omega
      have HS : Hid (∀ W, Calls Tryz.prog 103 #[.int .u8 (n : Int)] W fun e w' => e = .returned (.bool (alnB (n : Int))) ∧ W = w') := fun W => refAlnum_any (n : Int) W (Int.natCast_nonneg n) b1
      have HI : Hid (∀ W, Calls Tryz.prog 104 #[.string ⟨#[45, 46, 95, 126]⟩, .int .u8 (n : Int)] W fun e w' => e = .returned (.bool (inL [45, 46, 95, 126] (n : Int))) ∧ W = w') := fun W => refIn_any ⟨#[45, 46, 95, 126]⟩ (n : Int) W (by decide)
      have HY : Hid (stays slash c = ((alnB (n : Int) || inL [45, 46, 95, 126] (n : Int)) || (slash && decide ((n : Int) = 47)))) := by
        show stays slash c = _
        rw [stays, ← HN.out, stayB, in4_t n hn2]
      by_cases hyes : stays slash c = true
      · have HX : Hid (e1 slash c = [c]) := by show e1 slash c = [c]; rw [e1, if_pos hyes]
        have hs1 : ∀ (wx : World), (Op.stringOp .add ⟨A.toArray⟩ (s.extract k (k + 1))).run Tryz.prog wx = .ok (.string ⟨(A ++ [c]).toArray⟩) wx := fun wx => by
          rw [HX1.out, run_string_add_sum wx _ _ (by simp [ByteArray.size]; omega)]
          exact congrArg (fun z => Result.ok (Value.string z) wx) (ByteArray.mk_append_mk _ [c])
        have hcond : alnB (n : Int) = true ∨ (alnB (n : Int) = false ∧ inL [45, 46, 95, 126] (n : Int) = true) ∨ (alnB (n : Int) = false ∧ inL [45, 46, 95, 126] (n : Int) = false ∧ slash = true ∧ ((n : Int) == 47) = true) := by
          rw [HY.out] at hyes
          cases h1 : alnB (n : Int) <;> cases h2 : inL [45, 46, 95, 126] (n : Int) <;> rw [h1, h2] at hyes <;> simp at hyes ⊢
          exact hyes
        clear hyes
        rcases hcond with h1 | ⟨h1, h2⟩ | ⟨h1, h2, rfl, h47⟩
        all_goals
          rw [h1] at HS
          try rw [h2] at HI
          go_wp2_with (first
            | (go_at_call 103; refine (HS.out _).mono ?_; rintro e w' ⟨rfl, rfl⟩)
            | (go_at_call 104; refine (HI.out _).mono ?_; rintro e w' ⟨rfl, rfl⟩))
          go_roundw
          case rel => exact ⟨k + 1, by omega, by go_num, by rw [HE.out, HX.out], hnx⟩
          case measure => simp [intOf]; omega
      · have hno : stays slash c = false := by simpa using hyes
        have HX : Hid (e1 slash c = [37, hx (n / 16), hx (n % 16)]) := by show e1 slash c = _; rw [e1, hno, HN.out]; rfl
        have hs0 := add_one_str A 37 (by omega)
        have hs1 := add_one_str (A ++ [37]) (hx (n / 16)) (by simp; omega)
        have hs2 := add_one_str (A ++ [37] ++ [hx (n / 16)]) (hx (n % 16)) (by simp; omega)
        have hsa := cut_at (n / 16) ((n : Int) / 16) (by omega) (by omega)
        have hsb := cut_at (n % 16) ((n : Int) % 16) (by omega) (by omega)
        have hwa := wrap_u8 ((n : Int) / 16 + 1) (by omega) (by omega)
        have hwb := wrap_u8 ((n : Int) % 16 + 1) (by omega) (by omega)
        have hcond : alnB (n : Int) = false ∧ inL [45, 46, 95, 126] (n : Int) = false ∧ (slash = false ∨ (slash = true ∧ ((n : Int) == 47) = false)) := by
          rw [HY.out] at hno
          cases h1 : alnB (n : Int) <;> cases h2 : inL [45, 46, 95, 126] (n : Int) <;> rw [h1, h2] at hno <;> simp at hno ⊢
          cases slash
          · exact .inl rfl
          · exact .inr ⟨rfl, by simpa using hno⟩
        clear hyes hno
        obtain ⟨h1, h2, h3⟩ := hcond
        rw [h1] at HS
        rw [h2] at HI
        rcases h3 with rfl | ⟨rfl, h47⟩
        all_goals
          go_wp2_with (first
            | (go_at_call 103; refine (HS.out _).mono ?_; rintro e w' ⟨rfl, rfl⟩)
            | (go_at_call 104; refine (HI.out _).mono ?_; rintro e w' ⟨rfl, rfl⟩))
          go_quiet (fail)
          clear hs0 hs1 hs2 hsa hsb hwa hwb
          go_wp2
          go_roundw
          case rel => exact ⟨k + 1, by omega, by go_num, by rw [HE.out, HX.out]; exact congrArg Value.string (ba_app _ _ _ _), below_drewN hnx _⟩
          case measure => simp [intOf]; omega
    · obtain rfl : k = s.size := by omega
      have HTK : Hid (s.data.toList.take s.size = s.data.toList) := List.take_of_length_le (by rw [HL.out]; omega)
      clear hlk hle
      go_wp2
      go_ret
      exact ⟨ret_str (by rw [HTK.out]), hnx⟩
end Go.Proofs.YtnmffehmjgknkaaGreatDoor.Ch
