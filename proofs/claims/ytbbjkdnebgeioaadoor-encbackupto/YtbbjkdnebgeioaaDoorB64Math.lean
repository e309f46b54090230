/-
  Base64 as lists: what Unbase64 reads is what Base64 wrote.
-/
import Derived.Test.YtbbjkdnebgeioaaDoorB64
namespace Go.Proofs.YtbbjkdnebgeioaaDoor

/-- The value of a character, as a number below 64. -/
def sv (c : UInt8) : Nat := (svN (N c)).toNat
theorem tabA : ∀ d : Nat, d < 64 → svOk (N (sdB d)) = true ∧ sv (sdB d) = d := by decide +kernel
theorem tabB : ∀ c : Nat, c < 256 → svOk (c : Int) = true → (svN (c : Int)).toNat < 64 ∧ (sdB (svN (c : Int))).toNat = c := by decide +kernel
theorem sv_of {d : Int} (h0 : 0 ≤ d) (h1 : d < 64) : svOk (N (sdB d)) = true ∧ (sv (sdB d) : Int) = d := by
  obtain ⟨k, rfl⟩ := Int.eq_ofNat_of_zero_le h0
  have := tabA k (by omega)
  exact ⟨this.1, by rw [this.2]⟩
theorem ok_61 : svOk (N 61) = false := by decide
theorem sv_lt {c : UInt8} (h : svOk (N c) = true) : sv c < 64 := (tabB c.toNat c.toNat_lt h).1
theorem sd_sv {c : UInt8} (h : svOk (N c) = true) : sdB (sv c : Nat) = c := by
  have h2 := tabB c.toNat c.toNat_lt h
  have hb : 0 ≤ svN (N c) := by
    unfold svN
    have := N_bd c
    repeat' split
    all_goals omega
  have e : ((sv c : Nat) : Int) = svN (N c) := by unfold sv; omega
  rw [e]
  exact UInt8.toNat_inj.1 h2.2

def byte (n : Nat) : UInt8 := UInt8.ofNat n
/-- What Unbase64's loop has told, and what it still holds, behind the digits ds. -/
def dec : List Nat → List UInt8
  | a :: b :: c :: d :: r => byte (a * 4 + b / 16) :: byte (b % 16 * 16 + c / 4) :: byte (c % 4 * 64 + d) :: dec r
  | [a, b, c] => [byte (a * 4 + b / 16), byte (b % 16 * 16 + c / 4)]
  | [a, b] => [byte (a * 4 + b / 16)]
  | _ => []
def held : List Nat → Nat
  | _ :: _ :: _ :: _ :: r => held r
  | [_, _, c] => c % 4
  | [_, b] => b % 16
  | [a] => a
  | [] => 0
theorem dec_snoc (x : Nat) : ∀ (m : Nat) (l : List Nat), l.length = m → (∀ y ∈ l, y < 64) → x < 64 →
    (l.length % 4 = 0 → held l = 0 ∧ dec (l ++ [x]) = dec l ∧ held (l ++ [x]) = x) ∧
    (l.length % 4 = 1 → held l < 64 ∧ dec (l ++ [x]) = dec l ++ [byte (held l * 4 + x / 16)] ∧ held (l ++ [x]) = x % 16) ∧
    (l.length % 4 = 2 → held l < 16 ∧ dec (l ++ [x]) = dec l ++ [byte (held l * 16 + x / 4)] ∧ held (l ++ [x]) = x % 4) ∧
    (l.length % 4 = 3 → held l < 4 ∧ dec (l ++ [x]) = dec l ++ [byte (held l * 64 + x)] ∧ held (l ++ [x]) = 0) := by
  intro m
  induction m using Nat.strongRecOn with
  | _ m ih =>
    intro l hl hy hx
    match l, hl, hy with
    | [], _, _ => simp [dec, held]
    | [a], _, hy => have := hy a (by simp); simp [dec, held]; omega
    | [a, b], _, hy => simp [dec, held]; omega
    | [a, b, c], _, hy => simp [dec, held]; omega
    | a :: b :: c :: d :: r, hl, hy =>
      have h := ih r.length (by simp at hl; omega) r rfl (fun y hh => hy y (by simp [hh])) hx
      have e : (a :: b :: c :: d :: r).length % 4 = r.length % 4 := by simp only [List.length_cons]; omega
      rw [e]
      simp only [List.cons_append, dec, held]
      refine ⟨fun hm => ?_, fun hm => ?_, fun hm => ?_, fun hm => ?_⟩
      · obtain ⟨h1, h2, h3⟩ := h.1 hm
        exact ⟨h1, by rw [h2], h3⟩
      · obtain ⟨h1, h2, h3⟩ := h.2.1 hm
        exact ⟨h1, by rw [h2], h3⟩
      · obtain ⟨h1, h2, h3⟩ := h.2.2.1 hm
        exact ⟨h1, by rw [h2], h3⟩
      · obtain ⟨h1, h2, h3⟩ := h.2.2.2 hm
        exact ⟨h1, by rw [h2], h3⟩

def okB (c : UInt8) : Bool := svOk (N c)
theorem byte_N {n : Nat} (h : n < 256) : N (byte n) = n := by
  rw [N, byte, UInt8.toNat_ofNat', Nat.mod_eq_of_lt h]

theorem g3_dec {a b c d : UInt8} (ha : okB a = true) (hb : okB b = true) (hc : okB c = true) (hd : okB d = true) :
    g3 (byte (sv a * 4 + sv b / 16)) (byte (sv b % 16 * 16 + sv c / 4)) (byte (sv c % 4 * 64 + sv d)) = [a, b, c, d] := by
  have h1 := sv_lt ha
  have h2 := sv_lt hb
  have h3 := sv_lt hc
  have h4 := sv_lt hd
  have e1 := sd_sv ha
  have e2 := sd_sv hb
  have e3 := sd_sv hc
  have e4 := sd_sv hd
  rw [g3, byte_N (by omega), byte_N (by omega), byte_N (by omega)]
  have f1 : ((sv a * 4 + sv b / 16 : Nat) : Int) / 4 = (sv a : Nat) := by omega
  have f2 : ((sv a * 4 + sv b / 16 : Nat) : Int) % 4 * 16 + ((sv b % 16 * 16 + sv c / 4 : Nat) : Int) / 16 = (sv b : Nat) := by omega
  have f3 : ((sv b % 16 * 16 + sv c / 4 : Nat) : Int) % 16 * 4 + ((sv c % 4 * 64 + sv d : Nat) : Int) / 64 = (sv c : Nat) := by omega
  have f4 : ((sv c % 4 * 64 + sv d : Nat) : Int) % 64 = (sv d : Nat) := by omega
  rw [f1, f2, f3, f4, e1, e2, e3, e4]
theorem g2_dec {a b c : UInt8} (ha : okB a = true) (hb : okB b = true) (hc : okB c = true) (h0 : sv c % 4 = 0) :
    g2 (byte (sv a * 4 + sv b / 16)) (byte (sv b % 16 * 16 + sv c / 4)) = [a, b, c, 61] := by
  have h1 := sv_lt ha
  have h2 := sv_lt hb
  have h3 := sv_lt hc
  rw [g2, byte_N (by omega), byte_N (by omega)]
  have f1 : ((sv a * 4 + sv b / 16 : Nat) : Int) / 4 = (sv a : Nat) := by omega
  have f2 : ((sv a * 4 + sv b / 16 : Nat) : Int) % 4 * 16 + ((sv b % 16 * 16 + sv c / 4 : Nat) : Int) / 16 = (sv b : Nat) := by omega
  have f3 : ((sv b % 16 * 16 + sv c / 4 : Nat) : Int) % 16 * 4 = (sv c : Nat) := by omega
  rw [f1, f2, f3, sd_sv ha, sd_sv hb, sd_sv hc]
theorem g1_dec {a b : UInt8} (ha : okB a = true) (hb : okB b = true) (h0 : sv b % 16 = 0) :
    g1 (byte (sv a * 4 + sv b / 16)) = [a, b, 61, 61] := by
  have h1 := sv_lt ha
  have h2 := sv_lt hb
  rw [g1, byte_N (by omega)]
  have f1 : ((sv a * 4 + sv b / 16 : Nat) : Int) / 4 = (sv a : Nat) := by omega
  have f2 : ((sv a * 4 + sv b / 16 : Nat) : Int) % 4 * 16 = (sv b : Nat) := by omega
  rw [f1, f2, sd_sv ha, sd_sv hb]

/-- What is read from good digits, with nothing held at the end, is what these characters are the text of. -/
theorem b64_sound : ∀ (m : Nat) (D : List UInt8) (p : Nat), D.length = m → (D.length + p) % 4 = 0 → p ≤ 2 → (∀ c ∈ D, okB c = true) → held (D.map sv) = 0 → b64 (dec (D.map sv)) = D ++ List.replicate p 61 := by
  intro m
  induction m using Nat.strongRecOn with
  | _ m ih =>
    intro D p hm hp4 hp hok hh
    match D, hm, hok, hh, hp4 with
    | [], _, _, _, hp4 =>
      obtain rfl : p = 0 := by simp at hp4; omega
      rfl
    | [a], _, _, _, hp4 => simp at hp4; omega
    | [a, b], _, hok, hh, hp4 =>
      obtain rfl : p = 2 := by simp at hp4; omega
      simp only [List.map_cons, List.map_nil, dec, held, b64] at hh ⊢
      rw [g1_dec (hok a (by simp)) (hok b (by simp)) hh]
      rfl
    | [a, b, c], _, hok, hh, hp4 =>
      obtain rfl : p = 1 := by simp at hp4; omega
      simp only [List.map_cons, List.map_nil, dec, held, b64] at hh ⊢
      rw [g2_dec (hok a (by simp)) (hok b (by simp)) (hok c (by simp)) hh]
      rfl
    | a :: b :: c :: d :: r, hm, hok, hh, hp4 =>
      simp only [List.map_cons, dec, held, b64] at hh ⊢
      rw [g3_dec (hok a (by simp)) (hok b (by simp)) (hok c (by simp)) (hok d (by simp)), ih r.length (by simp at hm; omega) r p rfl (by simp only [List.length_cons] at hp4; omega) hp (fun y hy => hok y (by simp [hy])) hh]
      rfl

/-- The digits of a text, and how many signs fill it up. -/
def dg : List UInt8 → List UInt8
  | a :: b :: c :: r => g3 a b c ++ dg r
  | [a, b] => [sdB (N a / 4), sdB (N a % 4 * 16 + N b / 16), sdB (N b % 16 * 4)]
  | [a] => [sdB (N a / 4), sdB (N a % 4 * 16)]
  | [] => []
def pad : List UInt8 → Nat
  | _ :: _ :: _ :: r => pad r
  | [_, _] => 1
  | [_] => 2
  | [] => 0
theorem sv_nat {d : Int} (h0 : 0 ≤ d) (h1 : d < 64) : sv (sdB d) = d.toNat := by have := (sv_of h0 h1).2; omega
theorem okB_of {d : Int} (h0 : 0 ≤ d) (h1 : d < 64) : okB (sdB d) = true := (sv_of h0 h1).1
theorem dg_all : ∀ (m : Nat) (x : List UInt8), x.length = m → b64 x = dg x ++ List.replicate (pad x) 61 ∧ (∀ c ∈ dg x, okB c = true) ∧ held ((dg x).map sv) = 0 ∧ dec ((dg x).map sv) = x ∧ pad x ≤ 2 ∧ ((dg x).length + pad x) % 4 = 0 := by
  intro m
  induction m using Nat.strongRecOn with
  | _ m ih =>
    intro x hm
    match x, hm with
    | [], _ => exact ⟨rfl, by simp [dg], rfl, rfl, by simp [pad], rfl⟩
    | [a], _ =>
      have h1 := N_bd a
      have o1 := okB_of (d := N a / 4) (by omega) (by omega)
      have o2 := okB_of (d := N a % 4 * 16) (by omega) (by omega)
      have s1 := sv_nat (d := N a / 4) (by omega) (by omega)
      have s2 := sv_nat (d := N a % 4 * 16) (by omega) (by omega)
      refine ⟨rfl, ?_, ?_, ?_, by simp [pad], by simp [dg, pad]⟩
      · intro c hc
        simp only [dg, List.mem_cons, List.not_mem_nil, or_false] at hc
        rcases hc with rfl | rfl <;> assumption
      · simp only [dg, List.map_cons, List.map_nil, held, s2]
        omega
      · simp only [dg, List.map_cons, List.map_nil, dec, s1, s2]
        congr 1
        apply UInt8.toNat_inj.1
        unfold N at h1 ⊢
        rw [byte, UInt8.toNat_ofNat']
        omega
    | [a, b], _ =>
      have h1 := N_bd a
      have h2 := N_bd b
      have o1 := okB_of (d := N a / 4) (by omega) (by omega)
      have o2 := okB_of (d := N a % 4 * 16 + N b / 16) (by omega) (by omega)
      have o3 := okB_of (d := N b % 16 * 4) (by omega) (by omega)
      have s1 := sv_nat (d := N a / 4) (by omega) (by omega)
      have s2 := sv_nat (d := N a % 4 * 16 + N b / 16) (by omega) (by omega)
      have s3 := sv_nat (d := N b % 16 * 4) (by omega) (by omega)
      refine ⟨rfl, ?_, ?_, ?_, by simp [pad], by simp [dg, pad]⟩
      · intro c hc
        simp only [dg, List.mem_cons, List.not_mem_nil, or_false] at hc
        rcases hc with rfl | rfl | rfl <;> assumption
      · simp only [dg, List.map_cons, List.map_nil, held, s3]
        omega
      · simp only [dg, List.map_cons, List.map_nil, dec, s1, s2, s3]
        unfold N at h1 h2 ⊢
        congr 1
        · apply UInt8.toNat_inj.1
          rw [byte, UInt8.toNat_ofNat']
          omega
        · congr 1
          apply UInt8.toNat_inj.1
          rw [byte, UInt8.toNat_ofNat']
          omega
    | a :: b :: c :: r, hm =>
      obtain ⟨i1, i2, i3, i4, i5, i6⟩ := ih r.length (by simp at hm; omega) r rfl
      have h1 := N_bd a
      have h2 := N_bd b
      have h3 := N_bd c
      have o1 := okB_of (d := N a / 4) (by omega) (by omega)
      have o2 := okB_of (d := N a % 4 * 16 + N b / 16) (by omega) (by omega)
      have o3 := okB_of (d := N b % 16 * 4 + N c / 64) (by omega) (by omega)
      have o4 := okB_of (d := N c % 64) (by omega) (by omega)
      have s1 := sv_nat (d := N a / 4) (by omega) (by omega)
      have s2 := sv_nat (d := N a % 4 * 16 + N b / 16) (by omega) (by omega)
      have s3 := sv_nat (d := N b % 16 * 4 + N c / 64) (by omega) (by omega)
      have s4 := sv_nat (d := N c % 64) (by omega) (by omega)
      refine ⟨?_, ?_, ?_, ?_, i5, ?_⟩
      · rw [b64, dg, pad, i1, List.append_assoc]
      · intro y hy
        rw [dg, List.mem_append] at hy
        rcases hy with hy | hy
        · simp only [g3, List.mem_cons, List.not_mem_nil, or_false] at hy
          rcases hy with rfl | rfl | rfl | rfl <;> assumption
        · exact i2 y hy
      · simp only [dg, g3, List.cons_append, List.nil_append, List.map_cons, held]
        exact i3
      · simp only [dg, g3, List.cons_append, List.nil_append, List.map_cons, dec, i4, s1, s2, s3, s4]
        unfold N at h1 h2 h3 ⊢
        congr 1
        · apply UInt8.toNat_inj.1
          rw [byte, UInt8.toNat_ofNat']
          omega
        · congr 1
          · apply UInt8.toNat_inj.1
            rw [byte, UInt8.toNat_ofNat']
            omega
          · congr 1
            apply UInt8.toNat_inj.1
            rw [byte, UInt8.toNat_ofNat']
            omega
      · simp only [dg, pad, g3, List.length_append, List.length_cons, List.length_nil]
        omega

theorem okB_61 : okB 61 = false := ok_61
theorem b64_filter (x : List UInt8) : (b64 x).filter okB = dg x := by
  obtain ⟨i1, i2, _⟩ := dg_all x.length x rfl
  rw [i1, List.filter_append, List.filter_eq_self.2 i2]
  simp [okB_61]
theorem b64_inj {x y : List UInt8} (h : b64 x = b64 y) : x = y := by
  have e : dg x = dg y := by rw [← b64_filter x, h, b64_filter y]
  rw [← (dg_all x.length x rfl).2.2.2.1, e, (dg_all y.length y rfl).2.2.2.1]

/-- p signs fill the text l up, at the most two, and the one ahead of them is none if there is room for it. -/
def Pad (l : List UInt8) (p : Nat) : Prop := p ≤ 2 ∧ p ≤ l.length ∧ (∀ j, j < p → l.getD (l.length - 1 - j) 0 = 61) ∧ (p < 2 → p < l.length → l.getD (l.length - 1 - p) 0 ≠ 61)

theorem pad_split {l : List UInt8} {p : Nat} (h : Pad l p) : l = l.take (l.length - p) ++ List.replicate p 61 := by
  obtain ⟨_, h2, h3, _⟩ := h
  apply List.ext_getElem
  · simp; omega
  · intro i a b
    by_cases hi : i < l.length - p
    · rw [List.getElem_append_left (by simp; omega)]
      simp
    · rw [List.getElem_append_right (by simp; omega)]
      have := h3 (l.length - 1 - i) (by omega)
      rw [show l.length - 1 - (l.length - 1 - i) = i by omega] at this
      simp only [List.getElem_replicate]
      simpa [List.getD, List.getElem?_eq_getElem a] using this
theorem pad_eq {x : List UInt8} {p : Nat} (h : Pad (b64 x) p) : p = pad x := by
  obtain ⟨i1, i2, _, _, i5, _⟩ := dg_all x.length x rfl
  obtain ⟨h1, h2, h3, h4⟩ := h
  rw [i1] at h2 h3 h4
  have hlen : (dg x ++ List.replicate (pad x) 61).length = (dg x).length + pad x := by simp
  rw [hlen] at h2 h3 h4
  rcases Nat.lt_trichotomy p (pad x) with hlt | he | hgt
  · exfalso
    apply h4 (by omega) (by omega)
    have e : (dg x ++ List.replicate (pad x) 61).getD ((dg x).length + pad x - 1 - p) 0 = 61 := by
      rw [List.getD, List.getElem?_append_right (by omega), List.getElem?_replicate, if_pos (by omega)]
      rfl
    exact e
  · exact he
  · exfalso
    have hp := h3 (pad x) hgt
    have hpos : 0 < (dg x).length := by omega
    have e : (dg x ++ List.replicate (pad x) 61).getD ((dg x).length + pad x - 1 - pad x) 0 = (dg x)[(dg x).length - 1] := by
      rw [show (dg x).length + pad x - 1 - pad x = (dg x).length - 1 by omega, List.getD, List.getElem?_append_left (by omega), List.getElem?_eq_getElem (by omega)]
      rfl
    rw [e] at hp
    have := i2 _ (List.getElem_mem (l := dg x) (n := (dg x).length - 1) (by omega))
    rw [hp, okB_61] at this
    simp at this
theorem pad_take {x : List UInt8} {p : Nat} (h : Pad (b64 x) p) : (b64 x).take ((b64 x).length - p) = dg x := by
  have hp := pad_eq h
  obtain ⟨i1, _⟩ := dg_all x.length x rfl
  subst hp
  rw [i1]
  have : (dg x ++ List.replicate (pad x) 61).length - pad x = (dg x).length := by simp
  rw [this, List.take_left' rfl]
theorem b64_len4 (x : List UInt8) : (b64 x).length % 4 = 0 := by
  obtain ⟨i1, _, _, _, _, i6⟩ := dg_all x.length x rfl
  rw [i1]
  simpa using i6
end Go.Proofs.YtbbjkdnebgeioaaDoor
