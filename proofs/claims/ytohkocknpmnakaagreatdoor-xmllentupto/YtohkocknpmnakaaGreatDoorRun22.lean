/-
  The document's Begins, Cut, utf8.
-/
import Derived.Test.YtohkocknpmnakaaGreatDoorEsc
import Derived.BigQuiet
import Derived.OwnWalk
namespace Go.Proofs.YtohkocknpmnakaaGreatDoor
open Go.RowKit

theorem char60 (c : Int) (w : World) (_h0 : 0 ≤ c) (_h1 : c ≤ 1099511627776) :
    Calls Tryz.prog 60 #[.int .i64 c] w fun e w' => e = .returned (.bool (charB c)) ∧ w = w' := by
  go_enter Tryz.func60, Tryz.ntmps60
  go_wp2
  all_goals
    go_ret
    exact ⟨ret_bool (by rw [Bool.eq_iff_iff]; simp [charB]; try omega), rfl⟩

theorem pre_take (m p : List UInt8) : Lib.hasPrefix m p = decide (p.length ≤ m.length ∧ m.take p.length = p) := by
  unfold Lib.hasPrefix
  rw [Bool.eq_iff_iff, List.isPrefixOf_iff_prefix, decide_eq_true_eq]
  constructor
  · intro h
    exact ⟨h.length_le, (List.prefix_iff_eq_take.1 h).symm⟩
  · rintro ⟨_, h⟩
    exact List.prefix_iff_eq_take.2 h.symm

set_option maxHeartbeats 800000 in
theorem begins_any (m p : List UInt8) (w : World) (hl : m.length ≤ 281474976710656) (hp : p.length ≤ 281474976710656) :
    Calls Tryz.prog 61 #[.string ⟨m.toArray⟩, .string ⟨p.toArray⟩] w fun e w' => e = .returned (.bool (Lib.hasPrefix m p)) ∧ w = w' := by
  obtain ⟨s, hs⟩ : ∃ s : ByteArray, s = ⟨m.toArray⟩ := ⟨_, rfl⟩
  obtain ⟨t, ht⟩ : ∃ t : ByteArray, t = ⟨p.toArray⟩ := ⟨_, rfl⟩
  have hsz : s.size = m.length := by rw [hs, mk_size]
  have htz : t.size = p.length := by rw [ht, mk_size]
  have HR : Hid (Lib.hasPrefix m p = decide (p.length ≤ m.length ∧ m.take p.length = p)) := pre_take m p
  obtain ⟨O, hO⟩ : ∃ O, O = Lib.hasPrefix m p := ⟨_, rfl⟩
  rw [← hO] at HR ⊢
  have hx : s.extract 0 t.size = ⟨(m.take p.length).toArray⟩ := by
    rw [hs, mk_ext, htz]
    rfl
  have hq : ((s.extract 0 t.size).toList == t.toList) = decide (m.take p.length = p) := by
    rw [hx, ht, Lib.toList_data, Lib.toList_data, Bool.eq_iff_iff]
    simp
  rw [← hs, ← ht]
  by_cases hle : p.length ≤ m.length
  · have HZ : Hid (O = decide (m.take p.length = p)) := by
      show _ = _
      rw [HR.out]
      simp [hle]
    have h1 : t.size ≤ s.size := by omega
    have h1i : (t.size : Int) ≤ (s.size : Int) := by omega
    have h2 : s.size ≤ 281474976710656 := by omega
    rw [← hq] at HZ
    clear hs ht hx hq HR hO hsz htz
    go_enter Tryz.func61, Tryz.ntmps61
    go_wp2
    all_goals
      go_ret
      exact ⟨ret_bool HZ.out.symm, rfl⟩
  · have HZ : Hid (O = false) := by
      show _ = _
      rw [HR.out]
      simp [hle]
    have h1 : ¬ t.size ≤ s.size := by omega
    have h1i : ¬ (t.size : Int) ≤ (s.size : Int) := by omega
    have h2 : s.size ≤ 281474976710656 := by omega
    have h3 : t.size ≤ 281474976710656 := by omega
    clear hs ht hx hq HR hO hsz htz
    go_enter Tryz.func61, Tryz.ntmps61
    go_wp2
    all_goals
      go_ret
      exact ⟨ret_bool HZ.out.symm, rfl⟩

theorem ret_ssb {a b c d : ByteArray} {p q : Bool} (h : a = b) (h2 : c = d) (g : p = q) : Ending.returned (.tuple #[.string a, .string c, .bool p]) = .returned (.tuple #[.string b, .string d, .bool q]) := by rw [h, h2, g]
set_option maxRecDepth 20000 in
set_option maxHeartbeats 1600000 in
theorem cut_ref (m : List UInt8) (c : UInt8) (w : World) (hl : m.length ≤ 281474976710656) :
    Calls Tryz.prog 44 #[.string ⟨m.toArray⟩, .int .u8 (c.toNat : Int)] w fun e w' => e = .returned (if (upto c m).length = m.length then .tuple #[.string ⟨m.toArray⟩, .string ⟨#[]⟩, .bool false] else .tuple #[.string ⟨(upto c m).toArray⟩, .string ⟨(m.drop ((upto c m).length + 1)).toArray⟩, .bool true]) ∧ Below w.heap.size w w' := by
  obtain ⟨s, hs⟩ : ∃ s : ByteArray, s = ⟨m.toArray⟩ := ⟨_, rfl⟩
  have HS : Hid (s = ⟨m.toArray⟩ ∧ s.size = m.length) := ⟨hs, by rw [hs, mk_size]⟩
  have hsl : s.size ≤ 281474976710656 := by rw [HS.out.2]; omega
  rw [← hs]
  obtain ⟨n, hn⟩ : ∃ n : Int, n = (c.toNat : Int) := ⟨_, rfl⟩
  have HN : Hid (n = (c.toNat : Int)) := hn
  rw [← hn]
  obtain ⟨O, hO⟩ : ∃ O, O = (if (upto c m).length = m.length then Value.tuple #[.string s, .string ⟨#[]⟩, .bool false] else .tuple #[.string ⟨(upto c m).toArray⟩, .string ⟨(m.drop ((upto c m).length + 1)).toArray⟩, .bool true]) := ⟨_, rfl⟩
  have HO : Hid (O = (if (upto c m).length = m.length then Value.tuple #[.string s, .string ⟨#[]⟩, .bool false] else .tuple #[.string ⟨(upto c m).toArray⟩, .string ⟨(m.drop ((upto c m).length + 1)).toArray⟩, .bool true])) := hO
  rw [← hO]
  clear hs hl hO hn
  go_enter Tryz.func44, Tryz.ntmps44
  go_wp2
  go_loop [7] (fun i => ∃ k : Nat, k ≤ s.size ∧ i = .int .i64 k ∧ c ∉ m.take k) (fun i => s.size - (intOf i).toNat)
  case atStart => exact ⟨0, Nat.zero_le _, rfl, by simp⟩
  case round =>
    obtain ⟨k, hk, rfl, hno⟩ := hrel
    have HNo : Hid (c ∉ m.take k) := hno
    clear hno
    by_cases hlt : k < s.size
    · have hkl : k < m.length := by rw [← HS.out.2]; exact hlt
      have hsk : (s[k].toNat : Int) = (m[k].toNat : Int) := by
        have e : ∀ (t : ByteArray) (h : t = ⟨m.toArray⟩) (hk : k < t.size), t[k] = m[k] := by
          rintro t rfl hk
          rfl
        rw [e s HS.out.1 hlt]
      by_cases hc : m[k] = c
      · have hsn : (s[k].toNat : Int) = n := by rw [hsk, hc, HN.out]
        have hki : (k : Int) ≤ (s.size : Int) := by omega
        have hki2 : (k : Int) + 1 ≤ (s.size : Int) := by omega
        have hup : upto c m = m.take k := by
          have e : m = m.take k ++ c :: m.drop (k + 1) := by
            rw [← hc, List.getElem_cons_drop, List.take_append_drop]
          conv => lhs; rw [e]
          exact upto_app HNo.out
        have HZ : Hid (O = .tuple #[.string (s.extract 0 k), .string (s.extract (k + 1) s.size), .bool true]) := by
          show _ = _
          rw [HO.out, hup, if_neg (by simp; omega), HS.out.1, mk_ext, mk_ext, mk_size]
          have h1 : (m.take k).length = k := by simp; omega
          rw [h1, List.take_length]
          rfl
        clear hsk hup hc
        go_wp2
        go_quiet (fail)
        go_wp2
        go_ret3
        exact ⟨congrArg Ending.returned HZ.out.symm, below_drewN (Below.refl _ _) _⟩
      · have hsn : ((s[k].toNat : Int) == n) = false := by
          rw [hsk, HN.out, beq_eq_false_iff_ne]
          intro h
          exact hc (UInt8.toNat_inj.1 (by omega))
        have HNo2 : Hid (c ∉ m.take (k + 1)) := by
          show _ ∉ _
          rw [List.take_succ_eq_append_getElem hkl]
          intro h
          rcases List.mem_append.1 h with h | h
          · exact HNo.out h
          · simp at h; exact hc h.symm
        have hsn' : ¬ ((s[k].toNat : Int) = n) := by simpa using hsn
        clear hsk hc
        go_wp2
        all_goals exact ⟨⟨k + 1, by omega, by go_num, HNo2.out⟩, by simp [intOf]; omega⟩
    · have HZ : Hid (O = .tuple #[.string s, .string ⟨#[]⟩, .bool false]) := by
        show _ = _
        have : m.take k = m := List.take_of_length_le (by rw [← HS.out.2]; omega)
        rw [HO.out, if_pos (upto_none.2 (by rw [← this]; exact HNo.out))]
      go_wp2
      go_ret3
      exact ⟨congrArg Ending.returned HZ.out.symm, Below.refl _ _⟩
end Go.Proofs.YtohkocknpmnakaaGreatDoor
/-
  The document's utf8.
-/
namespace Go.Proofs.YtohkocknpmnakaaGreatDoor
open Go.RowKit

theorem conv_cells (w : World) (l : List UInt8) (n : Nat) (hn : n = l.length) (cs : Array Value) (hc : cs.toList = l.map fun c => Value.int .u8 (c.toNat : Int)) :
    (convert 64 9 (.slice (some ⟨w.heap.size, 0, none⟩) n n)).run Tryz.prog (w.alloc (.cells cs 5)) = .ok (.string ⟨l.toArray⟩) (w.alloc (.cells cs 5)) := by
  subst hn
  refine run_convert_bytes_back _ 64 9 5 ⟨w.heap.size, 0, none⟩ l.length l Tryz.underlying64 Tryz.underlying5 Tryz.underlying9 ?_
  intro j hj
  have e : (⟨w.heap.size, 0, none⟩ : Addr).add j = ⟨w.heap.size, j, none⟩ := by cases j <;> simp [Addr.add]
  rw [e, World.cell?_alloc_mark, ← Array.getElem?_toList, hc]
  simp [hj]
theorem u8n (n : Nat) (h : n < 256) : Value.int .u8 (n : Int) = Value.int .u8 ((UInt8.ofNat n).toNat : Int) := by
  congr 2
  rw [UInt8.toNat_ofNat']
  omega

set_option maxRecDepth 20000 in
set_option maxHeartbeats 1600000 in
theorem utf8_ref (n : Nat) (hv : n < 55296 ∨ (57343 < n ∧ n ≤ 1114111)) (w : World) :
    Calls Tryz.prog 75 #[.int .i64 (n : Int)] w fun e w' => e = .returned (.string ⟨(Lib.encodeRune (n : Int)).toArray⟩) ∧ Below w.heap.size w w' := by
  obtain ⟨O, hO⟩ : ∃ O, O = Lib.encodeRune (n : Int) := ⟨_, rfl⟩
  rw [← hO]
  rw [enc_rune n hv, enc_list n hv] at hO
  by_cases a : n < 128
  · rw [if_pos a] at hO
    have hcv := conv_cells w O 1 (by rw [hO]; rfl) #[.int .u8 (n : Int)] (by rw [hO]; simp only [List.map]; rw [u8n n (by omega)])
    have HB : Hid (∀ x, Below w.heap.size w (w.alloc x)) := fun x => (Below.refl _ _).alloc (Nat.le_refl _) _
    clear hO
    go_enter Tryz.func75, Tryz.ntmps75
    go_wp2
    go_ret
    exact ⟨rfl, HB.out _⟩
  · rw [if_neg a] at hO
    by_cases b : n < 2048
    · rw [if_pos b] at hO
      have hcv := conv_cells w O 2 (by rw [hO]; rfl) #[.int .u8 (192 + (n : Int) / 64), .int .u8 (128 + (n : Int) % 64)] (by
        rw [hO]; simp only [List.map]
        rw [← u8n _ (by omega), ← u8n _ (by omega)]
        simp)
      have HB : Hid (∀ x, Below w.heap.size w (w.alloc x)) := fun x => (Below.refl _ _).alloc (Nat.le_refl _) _
      clear hO
      go_enter Tryz.func75, Tryz.ntmps75
      go_wp2
      go_ret
      exact ⟨rfl, HB.out _⟩
    · rw [if_neg b] at hO
      by_cases c : n < 65536
      · rw [if_pos c] at hO
        have hcv := conv_cells w O 3 (by rw [hO]; rfl) #[.int .u8 (224 + (n : Int) / 4096), .int .u8 (128 + (n : Int) / 64 % 64), .int .u8 (128 + (n : Int) % 64)] (by
          rw [hO]; simp only [List.map]
          rw [← u8n _ (by omega), ← u8n _ (by omega), ← u8n _ (by omega)]
          simp)
        have HB : Hid (∀ x, Below w.heap.size w (w.alloc x)) := fun x => (Below.refl _ _).alloc (Nat.le_refl _) _
        have z1 : 2048 ≤ (n : Int) ∧ (n : Int) ≤ 1114111 := by omega
        have z2 : (n : Int) < 65536 := by omega
        clear hO a b c hv
        generalize (n : Int) = z at *
        clear n
        obtain ⟨z1, z3⟩ := z1
        go_enter Tryz.func75, Tryz.ntmps75
        go_wp2
        go_ret
        exact ⟨rfl, HB.out _⟩
      · rw [if_neg c] at hO
        have hcv := conv_cells w O 4 (by rw [hO]; rfl) #[.int .u8 (240 + (n : Int) / 262144), .int .u8 (128 + (n : Int) / 4096 % 64), .int .u8 (128 + (n : Int) / 64 % 64), .int .u8 (128 + (n : Int) % 64)] (by
          rw [hO]; simp only [List.map]
          rw [← u8n _ (by omega), ← u8n _ (by omega), ← u8n _ (by omega), ← u8n _ (by omega)]
          simp)
        have HB : Hid (∀ x, Below w.heap.size w (w.alloc x)) := fun x => (Below.refl _ _).alloc (Nat.le_refl _) _
        have z1 : 2048 ≤ (n : Int) ∧ (n : Int) ≤ 1114111 := by omega
        have z2 : 65536 ≤ (n : Int) := by omega
        clear hO a b c hv
        generalize (n : Int) = z at *
        clear n
        obtain ⟨z1, z3⟩ := z1
        go_enter Tryz.func75, Tryz.ntmps75
        go_wp2
        go_ret
        exact ⟨rfl, HB.out _⟩
end Go.Proofs.YtohkocknpmnakaaGreatDoor
