/-
  Dates there and back as plain mathematics: parts of what Of answers, digits as numbers, texts cut into their parts.
-/
import Derived.Test.YtbemlmhchpinhaaDoorParse
namespace Go.Proofs.YtbemlmhchpinhaaDoor

theorem of_parts {y m d h i s : Int} (hb : ofB y m d h i s = true) : timeB (ofN y m d h i s) = true ∧ ofN y m d h i s / 86400 = dayN y m d ∧
    yO (ofN y m d h i s / 86400) = y ∧ mO (ofN y m d h i s / 86400) = m ∧ dO (ofN y m d h i s / 86400) = d ∧ hO (ofN y m d h i s) = h ∧ iO (ofN y m d h i s) = i ∧ sO (ofN y m d h i s) = s := by
  have hb' := hb
  simp only [ofB, Bool.and_eq_true] at hb'
  obtain ⟨h1, h2⟩ := hb'
  have hn := dayN_bd h1
  have ho := O_of (dateB_day h1).1
  simp only [clockB, decide_eq_true_eq] at h2
  have e : ofN y m d h i s = dayN y m d * 86400 + h * 3600 + i * 60 + s := by unfold ofN; rw [if_pos hb]
  rw [e]
  have e2 : (dayN y m d * 86400 + h * 3600 + i * 60 + s) / 86400 = dayN y m d := by omega
  rw [e2]
  refine ⟨?_, rfl, ho.1, ho.2.1, ho.2.2, ?_, ?_, ?_⟩
  · simp only [timeB, decide_eq_true_eq]; omega
  · unfold hO; omega
  · unfold iO; omega
  · unfold sO; omega
/-- A time's parts make it. -/
theorem of_back {t : Int} (ht : timeB t = true) : ofB (yO (t / 86400)) (mO (t / 86400)) (dO (t / 86400)) (hO t) (iO t) (sO t) = true ∧ ofN (yO (t / 86400)) (mO (t / 86400)) (dO (t / 86400)) (hO t) (iO t) (sO t) = t := by
  have hp := parts_bd ht
  simp only [timeB, decide_eq_true_eq] at ht
  have hd := isDay_O (n := t / 86400) (by omega)
  have hb : ofB (yO (t / 86400)) (mO (t / 86400)) (dO (t / 86400)) (hO t) (iO t) (sO t) = true := by
    simp only [ofB, dateB, clockB, Bool.and_eq_true, decide_eq_true_eq]
    have := hd.2.2.2.2.1
    omega
  refine ⟨hb, ?_⟩
  unfold ofN
  rw [if_pos hb]
  have e : dayN (yO (t / 86400)) (mO (t / 86400)) (dO (t / 86400)) = t / 86400 := hd.2.2.2.2.2.symm
  rw [e]
  unfold hO iO sO
  omega

theorem dg_toNat {v : Nat} (h : v < 10) : (dg v).toNat = 48 + v := by
  unfold dg
  rw [UInt8.toNat_ofNat', Nat.mod_eq_of_lt (by omega)]
theorem dg_ok {v : Nat} (h : v < 10) : dOk (dg v) = true := by
  simp only [dOk, decide_eq_true_eq, dg_toNat h]; omega
theorem dg_of {c : UInt8} (h : dOk c = true) : c = dg (c.toNat - 48) ∧ c.toNat - 48 < 10 ∧ 48 ≤ c.toNat := by
  simp only [dOk, decide_eq_true_eq] at h
  refine ⟨?_, by omega, h.1⟩
  unfold dg
  rw [show 48 + (c.toNat - 48) = c.toNat by omega]
  exact (UInt8.ofNat_toNat).symm
theorem numV_p2 {v : Int} (h0 : 0 ≤ v) (h : v < 100) : numV (p2 v) = v := by
  obtain ⟨n, rfl⟩ := Int.eq_ofNat_of_zero_le h0
  have e : p2 (n : Int) = [dg (n / 10), dg (n % 10)] := rfl
  rw [e]
  unfold numV
  rw [if_pos (by simp [dg_ok (v := n / 10) (by omega), dg_ok (v := n % 10) (by omega)])]
  simp only [nval, List.foldl_cons, List.foldl_nil, dg_toNat (v := n / 10) (by omega), dg_toNat (v := n % 10) (by omega)]
  omega
theorem numV_p4 {v : Int} (h0 : 0 ≤ v) (h : v < 10000) : numV (p4 v) = v := by
  obtain ⟨n, rfl⟩ := Int.eq_ofNat_of_zero_le h0
  have e : p4 (n : Int) = [dg (n / 1000), dg (n / 100 % 10), dg (n / 10 % 10), dg (n % 10)] := rfl
  rw [e]
  unfold numV
  rw [if_pos (by simp [dg_ok (v := n / 1000) (by omega), dg_ok (v := n / 100 % 10) (by omega), dg_ok (v := n / 10 % 10) (by omega), dg_ok (v := n % 10) (by omega)])]
  simp only [nval, List.foldl_cons, List.foldl_nil, dg_toNat (v := n / 1000) (by omega), dg_toNat (v := n / 100 % 10) (by omega), dg_toNat (v := n / 10 % 10) (by omega), dg_toNat (v := n % 10) (by omega)]
  omega
theorem p2_numV {l : List UInt8} (hl : l.length = 2) (h : 0 ≤ numV l) : p2 (numV l) = l := by
  obtain ⟨a, b, rfl⟩ : ∃ a b, l = [a, b] := by
    match l, hl with
    | [a, b], _ => exact ⟨a, b, rfl⟩
  have ha : ([a, b] : List UInt8).all dOk = true := by
    by_cases x : ([a, b] : List UInt8).all dOk = true
    · exact x
    · unfold numV at h; rw [if_neg x] at h; omega
  simp only [List.all_cons, List.all_nil, Bool.and_true, Bool.and_eq_true] at ha
  obtain ⟨a1, a2, a3⟩ := dg_of ha.1
  obtain ⟨b1, b2, b3⟩ := dg_of ha.2
  have e : numV [a, b] = (((a.toNat - 48) * 10 + (b.toNat - 48) : Nat) : Int) := by
    unfold numV
    rw [if_pos (by simp [ha.1, ha.2])]
    simp only [nval, List.foldl_cons, List.foldl_nil]
    omega
  rw [e]
  show [dg (((a.toNat - 48) * 10 + (b.toNat - 48)) / 10), dg (((a.toNat - 48) * 10 + (b.toNat - 48)) % 10)] = [a, b]
  rw [show ((a.toNat - 48) * 10 + (b.toNat - 48)) / 10 = a.toNat - 48 by omega, show ((a.toNat - 48) * 10 + (b.toNat - 48)) % 10 = b.toNat - 48 by omega, ← a1, ← b1]
theorem p4_numV {l : List UInt8} (hl : l.length = 4) (h : 0 ≤ numV l) : p4 (numV l) = l := by
  obtain ⟨a, b, c, d, rfl⟩ : ∃ a b c d, l = [a, b, c, d] := by
    match l, hl with
    | [a, b, c, d], _ => exact ⟨a, b, c, d, rfl⟩
  have ha : ([a, b, c, d] : List UInt8).all dOk = true := by
    by_cases x : ([a, b, c, d] : List UInt8).all dOk = true
    · exact x
    · unfold numV at h; rw [if_neg x] at h; omega
  simp only [List.all_cons, List.all_nil, Bool.and_true, Bool.and_eq_true] at ha
  obtain ⟨a1, a2, a3⟩ := dg_of ha.1
  obtain ⟨b1, b2, b3⟩ := dg_of ha.2.1
  obtain ⟨c1, c2, c3⟩ := dg_of ha.2.2.1
  obtain ⟨d1, d2, d3⟩ := dg_of ha.2.2.2
  have e : numV [a, b, c, d] = ((((((a.toNat - 48) * 10 + (b.toNat - 48)) * 10) + (c.toNat - 48)) * 10 + (d.toNat - 48) : Nat) : Int) := by
    unfold numV
    rw [if_pos (by simp [ha.1, ha.2.1, ha.2.2.1, ha.2.2.2])]
    simp only [nval, List.foldl_cons, List.foldl_nil]
    omega
  rw [e]
  generalize hN : (((((a.toNat - 48) * 10 + (b.toNat - 48)) * 10) + (c.toNat - 48)) * 10 + (d.toNat - 48)) = N
  show [dg (N / 1000), dg (N / 100 % 10), dg (N / 10 % 10), dg (N % 10)] = [a, b, c, d]
  rw [show N / 1000 = a.toNat - 48 by omega, show N / 100 % 10 = b.toNat - 48 by omega, show N / 10 % 10 = c.toNat - 48 by omega, show N % 10 = d.toNat - 48 by omega, ← a1, ← b1, ← c1, ← d1]

/-- A list of eight bytes by its parts. -/
theorem cut8 {l : List UInt8} (hl : l.length = 8) : l = sub l 0 4 ++ sub l 4 6 ++ sub l 6 8 ∧ (sub l 0 4).length = 4 ∧ (sub l 4 6).length = 2 ∧ (sub l 6 8).length = 2 := by
  match l, hl with
  | [a, b, c, d, e, f, g, h], _ => exact ⟨rfl, rfl, rfl, rfl⟩

def midT : List UInt8 := [84, 48, 48, 48, 48, 48, 48, 90]
theorem day_as_basic {l : List UInt8} (hl : l.length = 8) : pbB (l ++ midT) = pdB l ∧ pbN (l ++ midT) = pdN l := by
  have hs : sub (l ++ midT) 0 4 = sub l 0 4 ∧ sub (l ++ midT) 4 6 = sub l 4 6 ∧ sub (l ++ midT) 6 8 = sub l 6 8 ∧ sub (l ++ midT) 9 11 = [48, 48] ∧ sub (l ++ midT) 11 13 = [48, 48] ∧ sub (l ++ midT) 13 15 = [48, 48] ∧ (l ++ midT).length = 16 := by
    match l, hl with
    | [a, b, c, d, e, f, g, h], _ => exact ⟨rfl, rfl, rfl, rfl, rfl, rfl, rfl⟩
  obtain ⟨s1, s2, s3, s4, s5, s6, s7⟩ := hs
  have n0 : numV [48, 48] = 0 := by decide
  obtain ⟨c1, c2, c3, c4⟩ := cut8 hl
  have hB : bB (l ++ midT) = ofB (numV (sub l 0 4)) (numV (sub l 4 6)) (numV (sub l 6 8)) 0 0 0 := by unfold bB; rw [s1, s2, s3, s4, s5, s6, n0]
  have hT : bT (l ++ midT) = ofN (numV (sub l 0 4)) (numV (sub l 4 6)) (numV (sub l 6 8)) 0 0 0 := by unfold bT; rw [s1, s2, s3, s4, s5, s6, n0]
  have hd : pdB l = ofB (numV (sub l 0 4)) (numV (sub l 4 6)) (numV (sub l 6 8)) 0 0 0 := by unfold pdB; rw [hl]; rfl
  have hp : pbB (l ++ midT) = pdB l := by
    unfold pbB
    rw [s7, hB, hT, hd]
    by_cases hb : ofB (numV (sub l 0 4)) (numV (sub l 4 6)) (numV (sub l 6 8)) 0 0 0 = true
    · obtain ⟨t1, _, t2, t3, t4, t5, t6, t7⟩ := of_parts hb
      have e : basicL (ofN (numV (sub l 0 4)) (numV (sub l 4 6)) (numV (sub l 6 8)) 0 0 0) = l ++ midT := by
        unfold basicL
        rw [if_pos t1, t2, t3, t4, t5, t6, t7]
        have hb' := hb
        simp only [ofB, dateB, Bool.and_eq_true, decide_eq_true_eq] at hb'
        have hm : 1 ≤ numV (sub l 4 6) := by
          by_cases x : 1 ≤ numV (sub l 4 6)
          · exact x
          · have := mlen_out (numV (sub l 0 4)) (m := numV (sub l 4 6)) (by omega); omega
        unfold txBasic txDay
        rw [p4_numV c2 (by omega), p2_numV c3 (by omega), p2_numV c4 (by omega), ← c1]
        simp only [List.append_assoc]
        rfl
      rw [e, hb]
      simp
    · have hb' : ofB (numV (sub l 0 4)) (numV (sub l 4 6)) (numV (sub l 6 8)) 0 0 0 = false := by simpa using hb
      rw [hb']
      simp
  refine ⟨hp, ?_⟩
  unfold pbN pdN
  rw [hp, hT]

/-- The month of a text that Http tells. -/
theorem sub_http {k : Nat} (hk : k < 7) {y m d h i s : Int} (hm : 1 ≤ m ∧ m ≤ 12) : sub (txHttp k y m d h i s) 8 11 = monL (m - 1).toNat := by
  have h1 := wd_len k hk
  have h2 := mon_len (m - 1).toNat (by omega)
  unfold txHttp
  generalize wdL k = A at *
  generalize monL (m - 1).toNat = B at *
  match A, h1, B, h2 with
  | [a, b, c], _, [e, f, g], _ => rfl
theorem http_key {l : List UInt8} {m : Int} (h : hOk l m = true) : hM l = m ∧ 1 ≤ m ∧ m ≤ 12 := by
  unfold hOk at h
  rw [Bool.and_eq_true] at h
  obtain ⟨h1, h2⟩ := h
  have h2 : httpL (hT l m) = l := by simpa using h2
  obtain ⟨t1, t0, t2, t3, t4, t5, t6, t7⟩ := of_parts h1
  have hb := h1
  unfold hB at hb
  simp only [ofB, dateB, Bool.and_eq_true, decide_eq_true_eq] at hb
  have hm : 1 ≤ m ∧ m ≤ 12 := by
    by_cases x : 1 ≤ m ∧ m ≤ 12
    · exact x
    · have := mlen_out (numV (sub l 12 16)) (m := m) (by omega); omega
  refine ⟨?_, hm⟩
  unfold httpL at h2
  unfold hT at h2
  rw [if_pos t1, t2, t3, t4, t5, t6, t7] at h2
  unfold hM
  have e : sub l 8 11 = monL (m - 1).toNat := by
    rw [← h2]
    exact sub_http (by omega) hm
  rw [e, mNam_at (i := (m - 1).toNat) (by omega) rfl]
  omega
end Go.Proofs.YtbemlmhchpinhaaDoor
