/-
  The document's reader of requests: mathematics.
-/
import Derived.Test.YtmodmeabjhaklabGreatDoorRunF
import Derived.Test.YtmodmeabjhaklabGreatDoorRunC
import Derived.Test.YtmodmeabjhaklabGreatDoorRunE
import Derived.BigQuiet
namespace Go.Proofs.YtmodmeabjhaklabGreatDoor
open Go.RowKit

/-- Where a line's end stands from a place on. -/
def endI (l : List UInt8) (k : Nat) : Int := match fndL (l.drop k) with | some n => ((k + n : Nat) : Int) | none => -1
theorem end_none {l : List UInt8} {k : Nat} (h : l.length ≤ k + 1) : endI l k = -1 := by
  unfold endI
  cases hf : fndL (l.drop k) with
  | none => rfl
  | some n => have := fnd_room _ hf; rw [List.length_drop] at this; omega
theorem drop_two {l : List UInt8} {k : Nat} (h : k + 1 < l.length) : l.drop k = l[k] :: l[k + 1] :: l.drop (k + 2) := by
  rw [List.drop_eq_getElem_cons (by omega), List.drop_eq_getElem_cons h]
theorem end_hit {l : List UInt8} {k : Nat} (h : k + 1 < l.length) (h1 : l[k] = 13) (h2 : l[k + 1] = 10) : endI l k = (k : Int) := by
  unfold endI
  rw [drop_two h, h1, h2]
  simp [fndL]
theorem end_next {l : List UInt8} {k : Nat} (h : k + 1 < l.length) (h1 : ¬ (l[k] = 13 ∧ l[k + 1] = 10)) : endI l k = endI l (k + 1) := by
  unfold endI
  have e : fndL (l.drop k) = (fndL (l.drop (k + 1))).map (· + 1) := by
    rw [List.drop_eq_getElem_cons (show k < l.length by omega), fndL, if_neg]
    rw [List.drop_eq_getElem_cons h, List.head?_cons, Option.some.injEq]
    exact h1
  rw [e]
  cases fndL (l.drop (k + 1)) with
  | none => rfl
  | some n => simp only [Option.map_some]; omega
/-- No byte of a line's end. -/
def nbB (c : Int) : Bool := !(decide (c = 13) || decide (c = 10))
def barB (s : List UInt8) : Bool := !allB nbB s
theorem allB_imp {p q : Int → Bool} (h : ∀ c, p c = true → q c = true) {l : List UInt8} (hl : allB p l = true) : allB q l = true := by
  unfold allB at hl ⊢
  rw [List.all_eq_true] at hl ⊢
  exact fun x hx => h _ (hl x hx)
theorem allB_app (p : Int → Bool) (a b : List UInt8) : allB p (a ++ b) = (allB p a && allB p b) := by simp [allB]
theorem allB_cons (p : Int → Bool) (c : UInt8) (b : List UInt8) : allB p (c :: b) = (p (c.toNat : Int) && allB p b) := by simp [allB]
theorem nb_cases {c : Int} (h : nbB c = false) : c = 13 ∨ c = 10 := by
  simp [nbB] at h
  omega
theorem tok_nb (c : Int) (h : tokB c = true) : nbB c = true := by
  cases hn : nbB c with
  | true => rfl
  | false => rcases nb_cases hn with rfl | rfl <;> revert h <;> decide
theorem val_nb (c : Int) (h : valB c = true) : nbB c = true := by
  cases hn : nbB c with
  | true => rfl
  | false => rcases nb_cases hn with rfl | rfl <;> revert h <;> decide
theorem cut_cases (c : UInt8) (m : List UInt8) : (c ∉ m ∧ Lib.cut m [c] = (m, [], false)) ∨ ∃ a b, m = a ++ c :: b ∧ c ∉ a ∧ Lib.cut m [c] = (a, b, true) := by
  by_cases h : c ∈ m
  · right
    obtain ⟨a, b, rfl, ha⟩ := List.eq_append_cons_of_mem h
    refine ⟨a, b, rfl, ha, ?_⟩
    have := cut_hit (m := a ++ c :: b) (c := c) (k := a.length) (by simp) (by simp) (by simpa using ha)
    simpa using this
  · exact .inl ⟨h, cut_miss h⟩
theorem hdr_bare {s : List UInt8} (h : barB s = true) : hdrL s = none := by
  unfold hdrL
  rw [if_neg]
  intro hh
  rcases cut_cases 58 s with ⟨_, e⟩ | ⟨a, b, rfl, _, e⟩
  · rw [e] at hh; simp at hh
  · rw [e] at hh
    simp only [Bool.and_eq_true, tokenB] at hh
    obtain ⟨⟨_, _, h1⟩, h2⟩ := hh
    rw [barB, allB_app, allB_cons, allB_imp tok_nb h1, allB_imp val_nb h2] at h
    revert h
    decide
theorem digs_nb (b : Nat) (hb : b ≤ 99) : ∀ (l : List UInt8) (n m : Nat), digs b n l = some m → allB nbB l = true
  | [], _, _, _ => rfl
  | c :: r, n, m, h => by
    unfold digs at h
    split at h
    · next hc =>
      rw [allB_cons, digs_nb b hb r _ _ h, Bool.and_true]
      cases hn : nbB (c.toNat : Int) with
      | true => rfl
      | false =>
        have h2 : c.toNat = 13 ∨ c.toNat = 10 := by rcases nb_cases hn with h | h <;> omega
        have : dv c = 99 := by unfold dv; rcases h2 with h | h <;> rw [h] <;> rfl
        omega
    · cases h
theorem chk_bare {s : List UInt8} (h : barB s = true) : chkL s = none := by
  unfold chkL
  split
  · next hh =>
    cases hd : digs 16 0 (Lib.cut s [59]).1 with
    | none => rfl
    | some n =>
      have h1 := digs_nb 16 (by omega) _ _ _ hd
      rcases cut_cases 59 s with ⟨_, e⟩ | ⟨a, b, rfl, _, e⟩
      · rw [e] at h1
        rw [barB, h1] at h
        cases h
      · rw [e] at h1 hh
        rw [barB, allB_app, allB_cons, h1, allB_imp val_nb hh.2.2] at h
        exact absurd h (by decide)
  · rfl
theorem split_no {c : UInt8} : ∀ {m : List UInt8}, c ∉ m → splitL c m = [m]
  | [], _ => rfl
  | a :: r, h => by
    simp only [List.mem_cons, not_or] at h
    rw [splitL, if_neg (fun e => h.1 e.symm), split_no h.2]
theorem split_yes {c : UInt8} {b : List UInt8} : ∀ {a : List UInt8}, c ∉ a → splitL c (a ++ c :: b) = a :: splitL c b
  | [], _ => by simp [splitL]
  | a :: r, h => by
    simp only [List.mem_cons, not_or] at h
    rw [List.cons_append, splitL, if_neg (fun e => h.1 e.symm), split_yes h.2]
theorem three_of : ∀ t : List UInt8, t.length = 3 → ∃ a b c, t = [a, b, c] := by
  intro t h
  rcases t with _ | ⟨a, _ | ⟨b, _ | ⟨c, _ | ⟨d, t⟩⟩⟩⟩ <;> simp at h
  exact ⟨a, b, c, rfl⟩
theorem ver_split {v : List UInt8} (h : verB v = true) : ∃ a c : UInt8, v = httpT ++ [a, 46, c] ∧ digB (a.toNat : Int) = true ∧ digB (c.toNat : Int) = true := by
  unfold verB at h
  simp only [Bool.and_eq_true, decide_eq_true_eq] at h
  obtain ⟨⟨⟨⟨h1, h2⟩, h3⟩, h4⟩, h5⟩ := h
  obtain ⟨t, rfl⟩ := List.isPrefixOf_iff_prefix.1 h1
  have h3' : t.length = 3 := by simp [httpT] at h2; omega
  obtain ⟨a, b, c, rfl⟩ := three_of t h3'
  refine ⟨a, c, ?_, h3, h5⟩
  have : b = 46 := UInt8.toNat.inj h4
  rw [this]
theorem dig_ne {c : UInt8} (h : digB (c.toNat : Int) = true) : 48 ≤ c.toNat ∧ c.toNat ≤ 57 := by
  simp [digB] at h
  omega
theorem ver_sp {v : List UInt8} (h : verB v = true) : (32 : UInt8) ∉ v := by
  obtain ⟨a, c, rfl, h1, h2⟩ := ver_split h
  have := dig_ne h1
  have := dig_ne h2
  simp only [httpT, List.cons_append, List.nil_append, List.mem_cons, List.not_mem_nil, or_false]
  rintro (h | h | h | h | h | h | h | h)
  · revert h; decide
  · revert h; decide
  · revert h; decide
  · revert h; decide
  · revert h; decide
  · have h1 := congrArg UInt8.toNat h; have h2 : (32 : UInt8).toNat = 32 := rfl; omega
  · revert h; decide
  · have h1 := congrArg UInt8.toNat h; have h2 : (32 : UInt8).toNat = 32 := rfl; omega
theorem ver_nb {v : List UInt8} (h : verB v = true) : allB nbB v = true := by
  obtain ⟨a, c, rfl, h1, h2⟩ := ver_split h
  have := dig_ne h1
  have := dig_ne h2
  have e : ∀ x : UInt8, 48 ≤ x.toNat → nbB (x.toNat : Int) = true := fun x hx => by
    cases hn : nbB (x.toNat : Int) with
    | true => rfl
    | false => rcases nb_cases hn with h | h <;> omega
  simp only [httpT, List.cons_append, List.nil_append, allB_cons, e a (by omega), e c (by omega)]
  decide
theorem tar_nb {t : List UInt8} (h : tarB t = true) : allB nbB t = true := by
  unfold tarB at h
  simp only [Bool.and_eq_true] at h
  unfold allB
  rw [List.all_eq_true]
  intro x hx
  have h1 := List.all_eq_true.1 h.1 x hx
  simp only [tarC, decide_eq_true_eq] at h1
  cases hn : nbB (x.toNat : Int) with
  | true => rfl
  | false => rcases nb_cases hn with h | h <;> omega
/-- The request line by its parts. -/
def reqP (m t v : List UInt8) : Rq := if (metB m && tarB t && verB v) = false then .bad 308 else if v ≠ http11 then .bad 340 else if t.getD 0 0 ≠ 47 ∧ t ≠ [42] then .bad 331 else .ok m t
theorem req_bad {m t v : List UInt8} (h : (metB m && tarB t && verB v) = false) : reqP m t v = .bad 308 := if_pos h
theorem req_parts (x : List UInt8) : (∃ m t v, splitL 32 x = [m, t, v] ∧ reqL x = reqP m t v ∧ x = m ++ 32 :: (t ++ 32 :: v)) ∨ ((splitL 32 x).length ≠ 3 ∧ reqL x = .bad 308) := by
  have hr : reqL x = reqP (Lib.cut x [32]).1 (Lib.cut (Lib.cut x [32]).2.1 [32]).1 (Lib.cut (Lib.cut x [32]).2.1 [32]).2.1 := rfl
  have hnt : tarB [] = false := by decide
  have hnv : verB [] = false := by decide
  have hc0 : Lib.cut [] [32] = ([], [], false) := cut_miss (by simp)
  rw [hr]
  rcases cut_cases 32 x with ⟨hn, e⟩ | ⟨m, r, rfl, hm, e⟩
  · right
    rw [e, split_no hn]
    simp only [hc0]
    exact ⟨by simp, req_bad (by rw [hnt]; simp)⟩
  · rw [e]
    dsimp only
    rw [split_yes hm]
    rcases cut_cases 32 r with ⟨hn, e⟩ | ⟨t, v, rfl, ht, e⟩
    · right
      rw [e, split_no hn]
      exact ⟨by simp, req_bad (by dsimp only; rw [hnv]; simp)⟩
    · rw [e]
      dsimp only
      rw [split_yes ht]
      by_cases hv : (32 : UInt8) ∈ v
      · right
        obtain ⟨a, b, rfl, ha⟩ := List.eq_append_cons_of_mem hv
        refine ⟨?_, req_bad ?_⟩
        · rw [split_yes ha]
          have := splitL_ne 32 b
          cases hb : splitL 32 b with
          | nil => exact absurd hb this
          | cons y ys => simp
        · cases hvb : verB (a ++ 32 :: b) with
          | true => exact absurd hv (ver_sp hvb)
          | false => simp
      · left
        exact ⟨m, t, v, by rw [split_no hv], rfl, rfl⟩
theorem req_bare {x : List UInt8} (h : barB x = true) : reqL x = .bad 308 := by
  rcases req_parts x with ⟨m, t, v, _, e, rfl⟩ | ⟨_, e⟩
  · rw [e]
    refine req_bad ?_
    cases hh : metB m && tarB t && verB v with
    | false => rfl
    | true =>
      simp only [Bool.and_eq_true, metB, tokenB] at hh
      obtain ⟨⟨⟨_, _, h1⟩, h2⟩, h3⟩ := hh
      rw [barB, allB_app, allB_cons, allB_app, allB_cons, allB_imp tok_nb h1, tar_nb h2, ver_nb h3] at h
      revert h
      decide
  · exact e
/-- A state on the way of the whole reading. -/
def At (l : List UInt8) (q : Nat) (s : St) : Prop := s.at_ ≤ l.length ∧ (q = 5 → 1 ≤ s.size) ∧ ∃ n, mu l q s ≤ n ∧ runF l n q s = parseL l
theorem At.go {l : List UInt8} {q q' : Nat} {s s' : St} (h : At l q s) (hs : stepF l q s = .go q' s') : At l q' s' := by
  obtain ⟨h0, h5, n, hn, hr⟩ := h
  have h1 := mu_step hs h5
  have h2 := step_at h0 hs
  cases n with
  | zero => omega
  | succ n =>
    unfold runF at hr
    rw [hs] at hr
    exact ⟨h2.2.1, h2.2.2, n, by omega, hr⟩
theorem At.fin {l : List UInt8} {q : Nat} {s : St} {t : Tld} (h : At l q s) (hs : stepF l q s = .fin t) : parseL l = t := by
  obtain ⟨h0, h5, n, hn, hr⟩ := h
  cases n with
  | zero => simp only [mu] at hn; split at hn <;> omega
  | succ n =>
    unfold runF at hr
    rw [hs] at hr
    exact hr.symm
theorem at_st0 (l : List UInt8) : At l 0 st0 := ⟨Nat.zero_le _, fun h => by omega, 2 * l.length + 6, by simp only [mu, st0]; omega, rfl⟩
theorem fld_hs (l : List UInt8) (s : St) (x : List Hd) : fldL l { s with hs := x } = match fldL l s with | .fin t => .fin t | .ok s' h => .ok { s' with hs := x } h := by
  unfold fldL
  dsimp only
  split <;> try rfl
  split <;> try rfl
  split <;> try rfl
  split <;> rfl
end Go.Proofs.YtmodmeabjhaklabGreatDoor
/-
  The document's reader in memory; where a line ends, and the next line.
-/
namespace Go.Proofs.YtmodmeabjhaklabGreatDoor
open Go.RowKit

set_option maxRecDepth 20000 in
set_option maxHeartbeats 1000000 in
theorem end_any (l : List UInt8) (k : Nat) (w : World) (hk : k ≤ l.length) (hl : l.length ≤ 1000000000) :
    Calls Tryz.prog 65 #[.string ⟨l.toArray⟩, .int .i64 (k : Int)] w fun e w' => e = .returned (.int .i64 (endI l k)) ∧ w = w' := by
  obtain ⟨S, hS⟩ : ∃ S : ByteArray, S = ⟨l.toArray⟩ := ⟨_, rfl⟩
  have hsz : S.size = l.length := by rw [hS, mk_size]
  have hget : ∀ k (h : k < S.size), S[k] = l[k]'(by omega) := by subst hS; intro k h; rfl
  obtain ⟨E, hE⟩ : ∃ E, E = endI l k := ⟨_, rfl⟩
  have HE : Hid (E = endI l k) := hE
  rw [← hS, ← hE]
  clear hS hE
  go_enter Tryz.func65, Tryz.ntmps65
  go_wp2
  go_loop [5] (fun i => ∃ j : Nat, j ≤ l.length ∧ i = .int .i64 j ∧ Hid (E = endI l j)) (fun i => l.length - (intOf i).toNat)
  case atStart => exact ⟨k, hk, rfl, HE⟩
  case round =>
    obtain ⟨j, hj, rfl, he⟩ := hrel
    by_cases hlt : j + 1 < l.length
    · have h1 : (j : Int) + 1 < (S.size : Int) := by omega
      have h2 : (j : Int) < (S.size : Int) := by omega
      have h3 : (0 : Int) ≤ (j : Int) := by omega
      have b0 := hget j (by omega)
      have b1 := hget (j + 1) (by omega)
      by_cases hc : l[j] = 13
      · have q0 : ((S[j].toNat : Int) == 13) = true := by rw [b0, hc]; rfl
        by_cases hd : l[j + 1] = 10
        · have q1 : ((S[j + 1].toNat : Int) == 10) = true := by rw [b1, hd]; rfl
          have HV : Hid (E = (j : Int)) := by show E = _; rw [he.out, end_hit hlt hc hd]
          clear hget b0 b1 hc hd
          go_wp2
          go_ret
          exact ⟨by rw [HV.out]; rfl, rfl⟩
        · have q1 : ((S[j + 1].toNat : Int) == 10) = false := by rw [b1, beq_eq_false_iff_ne]; intro h; exact hd (UInt8.toNat.inj (by show _ = 10; omega))
          have HV : Hid (E = endI l (j + 1)) := by show E = _; rw [he.out, end_next hlt (fun h => hd h.2)]
          clear hget b0 b1 hc hd
          go_wp2
          go_round
          case rel => exact ⟨j + 1, by omega, by go_num, HV⟩
          case measure => simp [intOf]; omega
      · have q0 : ((S[j].toNat : Int) == 13) = false := by rw [b0, beq_eq_false_iff_ne]; intro h; exact hc (UInt8.toNat.inj (by show _ = 13; omega))
        have HV : Hid (E = endI l (j + 1)) := by show E = _; rw [he.out, end_next hlt (fun h => hc h.1)]
        clear hget b0 b1 hc
        go_wp2
        go_round
        case rel => exact ⟨j + 1, by omega, by go_num, HV⟩
        case measure => simp [intOf]; omega
    · have HV : Hid (E = -1) := by show E = _; rw [he.out, end_none (by omega)]
      clear hget
      have h1 : ¬ ((j : Int) + 1 < (S.size : Int)) := by omega
      go_wp2
      go_ret
      exact ⟨by rw [HV.out]; rfl, rfl⟩
set_option maxRecDepth 20000 in
set_option maxHeartbeats 1000000 in
theorem bare_any (l : List UInt8) (w : World) (hl : l.length ≤ 1000000000) :
    Calls Tryz.prog 66 #[.string ⟨l.toArray⟩] w fun e w' => e = .returned (.bool (barB l)) ∧ w = w' := by
  obtain ⟨S, hS⟩ : ∃ S : ByteArray, S = ⟨l.toArray⟩ := ⟨_, rfl⟩
  have hsz : S.size = l.length := by rw [hS, mk_size]
  have hget : ∀ k (h : k < S.size), S[k] = l[k]'(by omega) := by subst hS; intro k h; rfl
  obtain ⟨E, hE⟩ : ∃ E, E = barB l := ⟨_, rfl⟩
  have HE : Hid (E = barB l) := hE
  rw [← hS, ← hE]
  clear hS hE
  go_enter Tryz.func66, Tryz.ntmps66
  go_wp2
  go_loop [3] (fun i => ∃ j : Nat, j ≤ l.length ∧ i = .int .i64 j ∧ Hid (∀ x (hx : x < l.length), x < j → nbB (l[x].toNat : Int) = true)) (fun i => l.length - (intOf i).toNat)
  case atStart => exact ⟨0, Nat.zero_le _, rfl, fun x hx h => by omega⟩
  case round =>
    obtain ⟨j, hj, rfl, he⟩ := hrel
    by_cases hlt : j < l.length
    · have h2 : (j : Int) < (S.size : Int) := by omega
      have h3 : (0 : Int) ≤ (j : Int) := by omega
      have b0 := hget j (by omega)
      by_cases hc : l[j] = 13
      · have q0 : ((S[j].toNat : Int) == 13) = true := by rw [b0, hc]; rfl
        have HV : Hid (E = true) := by show E = _; rw [HE.out, barB, allB_no hlt (by rw [hc]; rfl)]; rfl
        clear hget b0 hc
        go_wp2
        go_ret
        exact ⟨by rw [HV.out]; rfl, rfl⟩
      · have q0 : ((S[j].toNat : Int) == 13) = false := by rw [b0, beq_eq_false_iff_ne]; intro h; exact hc (UInt8.toNat.inj (by show _ = 13; omega))
        by_cases hd : l[j] = 10
        · have q1 : ((S[j].toNat : Int) == 10) = true := by rw [b0, hd]; rfl
          have HV : Hid (E = true) := by show E = _; rw [HE.out, barB, allB_no hlt (by rw [hd]; rfl)]; rfl
          clear hget b0 hc hd
          go_wp2
          go_ret
          exact ⟨by rw [HV.out]; rfl, rfl⟩
        · have q1 : ((S[j].toNat : Int) == 10) = false := by rw [b0, beq_eq_false_iff_ne]; intro h; exact hd (UInt8.toNat.inj (by show _ = 10; omega))
          have HV : Hid (nbB (l[j].toNat : Int) = true) := by
            show _ = _
            cases hn : nbB (l[j].toNat : Int) with
            | true => rfl
            | false =>
              rcases nb_cases hn with h | h
              · exact absurd (UInt8.toNat.inj (show l[j].toNat = (13 : UInt8).toNat by show _ = 13; omega)) hc
              · exact absurd (UInt8.toNat.inj (show l[j].toNat = (10 : UInt8).toNat by show _ = 10; omega)) hd
          clear hget b0 hc hd
          go_wp2
          go_round
          case rel =>
            refine ⟨j + 1, by omega, by go_num, fun x hx h => ?_⟩
            by_cases e : x = j
            · subst e; exact HV.out
            · exact he.out x hx (by omega)
          case measure => simp [intOf]; omega
    · have HV : Hid (E = false) := by show E = _; rw [HE.out, barB, allB_yes (fun x hx => he.out x hx (by omega))]; rfl
      clear hget
      have h1 : ¬ ((j : Int) < (S.size : Int)) := by omega
      go_wp2
      go_ret
      exact ⟨by rw [HV.out]; rfl, rfl⟩

/-- The document's reader at p. -/
def Dr (w : World) (p : Nat) (l : List UInt8) (k h n : Nat) (m : Bool) (x : Int) : Prop := w.heap[p]? = some (.cells ([.string ⟨l.toArray⟩, .int .i64 (k : Int), .int .i64 (h : Int), .int .i64 (n : Int), .bool m, .int .i64 x, .slice none 0 0] : List Value).toArray 52 (0, 0))
/-- A reader that has told all, and its fault. -/
def DF (w : World) (p : Nat) (l : List UInt8) (x : Int) : Prop := ∃ k h n m, Dr w p l k h n m x
theorem Dr.lt {w : World} {p : Nat} {l : List UInt8} {k h n : Nat} {m : Bool} {x : Int} (hd : Dr w p l k h n m x) : p < w.heap.size := blk_lt hd
theorem Dr.below {w w' : World} {p : Nat} {l : List UInt8} {k h n : Nat} {m : Bool} {x : Int} (hd : Dr w p l k h n m x) (hb : Below w.heap.size w w') : Dr w' p l k h n m x := (hb.block p hd.lt).trans hd
theorem Dr.of {w : World} {p : Nat} {l : List UInt8} {k h n : Nat} {m : Bool} {x : Int} {c : List Value} (h0 : w.heap[p]? = some (.cells c.toArray 52 (0, 0))) (e : c = [.string ⟨l.toArray⟩, .int .i64 (k : Int), .int .i64 (h : Int), .int .i64 (n : Int), .bool m, .int .i64 x, .slice none 0 0]) : Dr w p l k h n m x := by rw [Dr, ← e]; exact h0
def failS : Ending := .returned (.tuple #[.string ⟨#[]⟩, .bool false])
/-- What the document's line tells. -/
def LrR (w w' : World) (p : Nat) (l : List UInt8) (k h n : Nat) (flt : Int) (e : Ending) : Ln → Prop
  | .more => e = failS ∧ DF w' p l 0 ∧ Md (· = p) w w'
  | .long => e = failS ∧ DF w' p l flt ∧ Md (· = p) w w'
  | .ok s => (barB s = true ∧ e = failS ∧ DF w' p l 308 ∧ Md (· = p) w w') ∨ (barB s = false ∧ e = .returned (.tuple #[.string ⟨s.toArray⟩, .bool true]) ∧ Dr w' p l (k + (s.length + 2)) h n false 0 ∧ Md (· = p) w w')
theorem LrR.more {w w' : World} {p : Nat} {l : List UInt8} {k h n : Nat} {flt : Int} {e : Ending} {ln : Ln} (hl : ln = .more) (he : e = failS) (h1 : DF w' p l 0) (h2 : Md (· = p) w w') : LrR w w' p l k h n flt e ln := by rw [hl]; exact ⟨he, h1, h2⟩
theorem LrR.long {w w' : World} {p : Nat} {l : List UInt8} {k h n : Nat} {flt : Int} {e : Ending} {ln : Ln} (hl : ln = .long) (he : e = failS) (h1 : DF w' p l flt) (h2 : Md (· = p) w w') : LrR w w' p l k h n flt e ln := by rw [hl]; exact ⟨he, h1, h2⟩
theorem LrR.bare {w w' : World} {p : Nat} {l s : List UInt8} {k h n : Nat} {flt : Int} {e : Ending} {ln : Ln} (hl : ln = .ok s) (hb : barB s = true) (he : e = failS) (h1 : DF w' p l 308) (h2 : Md (· = p) w w') : LrR w w' p l k h n flt e ln := by rw [hl]; exact .inl ⟨hb, he, h1, h2⟩
theorem LrR.ok {w w' : World} {p : Nat} {l s : List UInt8} {k h n : Nat} {flt : Int} {e : Ending} {ln : Ln} (hl : ln = .ok s) (hb : barB s = false) (he : e = .returned (.tuple #[.string ⟨s.toArray⟩, .bool true])) (h1 : Dr w' p l (k + (s.length + 2)) h n false 0) (h2 : Md (· = p) w w') : LrR w w' p l k h n flt e ln := by rw [hl]; exact .inr ⟨hb, he, h1, h2⟩
end Go.Proofs.YtmodmeabjhaklabGreatDoor
/-
  The document's next line.
-/
namespace Go.Proofs.YtmodmeabjhaklabGreatDoor
open Go.RowKit

theorem Dr.cell {w : World} {p : Nat} {l : List UInt8} {k h n : Nat} {m : Bool} {x : Int} (hd : Dr w p l k h n m x) (j : Nat) {v : Value} (hv : ([.string ⟨l.toArray⟩, .int .i64 (k : Int), .int .i64 (h : Int), .int .i64 (n : Int), .bool m, .int .i64 x, .slice none 0 0] : List Value)[j]? = some v) : w.cell? ⟨p, j, none⟩ = some v := (cell_blk hd j).trans (by rw [List.getElem?_toArray]; exact hv)
theorem Dr.fz {w : World} {p : Nat} {l : List UInt8} {k h n : Nat} {m : Bool} {x : Int} (hd : Dr w p l k h n m x) (j : Nat) : w.frozen? ⟨p, j, none⟩ = false := frozen_blk hd j
theorem end_of {l : List UInt8} {k m : Nat} (h : fndL (l.drop k) = some m) : endI l k = ((k + m : Nat) : Int) := by rw [endI, h]
theorem end_not {l : List UInt8} {k : Nat} (h : fndL (l.drop k) = none) : endI l k = -1 := by rw [endI, h]
theorem piece_of (l : List UInt8) (k m : Nat) : (l.take (k + m)).drop k = (l.drop k).take m := by rw [List.drop_take]; congr 1; omega
set_option maxRecDepth 20000 in
set_option maxHeartbeats 4000000 in
theorem lineR_any (p : Nat) (l : List UInt8) (k h n : Nat) (bound flt : Int) (w : World) (hd : Dr w p l k h n false 0) (hk : k ≤ l.length) (hl : l.length ≤ 1000000000) (hb0 : 0 ≤ bound) (hb1 : bound ≤ 100000) :
    Calls Tryz.prog 41 #[.pointer (some ⟨p, 0, none⟩), .int .i64 bound, .int .i64 flt] w fun e w' => LrR w w' p l k h n flt e (lnL bound (bound + 1) (l.drop k)) := by
  have HE := (show Hid (∀ W, Calls Tryz.prog 65 #[.string ⟨l.toArray⟩, .int .i64 (k : Int)] W fun e w' => e = .returned (.int .i64 (endI l k)) ∧ W = w') from fun W => end_any l k W hk hl)
  have HBa := (show Hid (∀ x : List UInt8, x.length ≤ l.length → ∀ W, Calls Tryz.prog 66 #[.string ⟨x.toArray⟩] W fun e w' => e = .returned (.bool (barB x)) ∧ W = w') from fun x hx W => bare_any x W (by omega))
  obtain ⟨S, hS⟩ : ∃ S : ByteArray, S = ⟨l.toArray⟩ := ⟨_, rfl⟩
  have hsz : S.size = l.length := by rw [hS, mk_size]
  have HX : Hid (∀ a b, S.extract a b = ⟨((l.take b).drop a).toArray⟩) := by subst hS; exact fun a b => mk_ext l a b
  have c0 := hd.cell 0 rfl
  have c1 := hd.cell 1 rfl
  rw [← hS] at c0 HE
  have c4 := hd.cell 4 rfl
  have c5 := hd.cell 5 rfl
  have f1 := hd.fz 1
  have f4 := hd.fz 4
  have f5 := hd.fz 5
  have HD := (show Hid (∀ W : World, W.heap = w.heap → Dr W p l k h n false 0) from fun W hW => by rw [Dr, hW]; exact hd)
  have hk0 : (0 : Int) ≤ (k : Int) := by omega
  have hk9 : (k : Int) ≤ 1000000000 := by omega
  have hl9 : (l.length : Int) ≤ 1000000000 := by omega
  clear hS hd
  cases hf : fndL (l.drop k) with
  | none =>
    rw [end_not hf] at HE
    have hdl : (l.drop k).length = l.length - k := by simp
    by_cases ho : ((l.drop k).length : Int) ≤ bound + 1
    · have HL : Hid (lnL bound (bound + 1) (l.drop k) = .more) := ln_more hf ho
      have ho' : ¬ ((l.length : Int) - (k : Int) ≥ bound + 2) := by omega
      have hq : decide (bound + 2 ≤ (l.length : Int) - (k : Int)) = false := by simpa using ho'
      have hg : decide ((k : Int) + bound < -1) = false := by simp; omega
      clear hf hdl ho ho'
      go_enter Tryz.func41, Tryz.ntmps41
      go_wp2
      go_quiet ((go_at_call 65; exact (HE.out _).mono (fun _ _ h => ⟨h.1, _, h.2.symm⟩)))
      go_wp2
      go_quiet (fail)
      go_wp2
      go_ret2
      exact LrR.more HL.out rfl ⟨k, h, n, true, Dr.of (set_lst (HD.out _ rfl) 4 _) rfl⟩ ((Md.ofBelow (drewN_below w _)).setp _ _)
    · have HL : Hid (lnL bound (bound + 1) (l.drop k) = .long) := ln_long hf ho
      have hq : decide (bound + 2 ≤ (l.length : Int) - (k : Int)) = true := by simp; omega
      have hg : decide ((k : Int) + bound < -1) = false := by simp; omega
      clear hf hdl ho
      go_enter Tryz.func41, Tryz.ntmps41
      go_wp2
      go_quiet ((go_at_call 65; exact (HE.out _).mono (fun _ _ h => ⟨h.1, _, h.2.symm⟩)))
      go_wp2
      go_quiet (fail)
      go_wp2
      go_ret2
      exact LrR.long HL.out rfl ⟨k, h, n, false, Dr.of (set_lst (HD.out _ rfl) 5 _) rfl⟩ ((Md.ofBelow (drewN_below w _)).setp _ _)
  | some m =>
    have hr := fnd_room _ hf
    rw [List.length_drop] at hr
    rw [end_of hf] at HE
    obtain ⟨j, hj⟩ : ∃ j, j = k + m := ⟨_, rfl⟩
    rw [← hj] at HE
    have hj0 : ¬ (j : Int) < 0 := by omega
    have hjk : (k : Int) ≤ (j : Int) := by omega
    have hjl : (j : Int) + 2 ≤ (l.length : Int) := by omega
    by_cases hmo : (m : Int) ≤ bound
    · obtain ⟨s, hs⟩ : ∃ s, s = (l.drop k).take m := ⟨_, rfl⟩
      have hsl : s.length = m := by rw [hs, List.length_take, List.length_drop]; omega
      have HL : Hid (lnL bound (bound + 1) (l.drop k) = .ok s) := by show _ = _; rw [hs]; exact ln_yes hf hmo
      have HP : Hid (S.extract k j = ⟨s.toArray⟩) := by show _ = _; rw [HX.out, hj, piece_of, hs]
      have hg : decide ((k : Int) + bound < (j : Int)) = false := by simp; omega
      have hg2 : decide ((j : Int) < 0) = false := by simp
      have HK : Hid (((k + (s.length + 2) : Nat) : Int) = (j : Int) + 2) := by show _ = _; omega
      have HS := (show Hid (∀ W, Calls Tryz.prog 66 #[.string (S.extract k j)] W fun e w' => e = .returned (.bool (barB s)) ∧ W = w') from fun W => by rw [HP.out]; exact HBa.out s (by omega) W)
      have hj1 : (j : Int) ≤ (S.size : Int) := by omega
      clear hf hmo hr hj hs hsl HX
      cases hbr : barB s with
      | true =>
        rw [hbr] at HS
        have HBr : Hid (barB s = true) := hbr
        clear hbr
        go_enter Tryz.func41, Tryz.ntmps41
        go_wp2
        go_quiet ((go_at_call 65; exact (HE.out _).mono (fun _ _ h => ⟨h.1, _, h.2.symm⟩)))
        go_wp2
        go_quiet (fail)
        go_wp2
        go_quiet (fail)
        go_wp2_with (go_at_call 66; refine Calls.mono (HS.out _) ?_; rintro e w' ⟨rfl, rfl⟩)
        go_ret2
        exact LrR.bare HL.out HBr.out rfl ⟨k + (s.length + 2), h, n, false, Dr.of (set_lst (set_lst (HD.out _ rfl) 1 _) 5 _) (by rw [HK.out]; rfl)⟩ (((Md.ofBelow (drewN_below w _)).setp _ _).setp _ _)
      | false =>
        rw [hbr] at HS
        have HBr : Hid (barB s = false) := hbr
        clear hbr
        go_enter Tryz.func41, Tryz.ntmps41
        go_wp2
        go_quiet ((go_at_call 65; exact (HE.out _).mono (fun _ _ h => ⟨h.1, _, h.2.symm⟩)))
        go_wp2
        go_quiet (fail)
        go_wp2
        go_quiet (fail)
        go_wp2_with (go_at_call 66; refine Calls.mono (HS.out _) ?_; rintro e w' ⟨rfl, rfl⟩)
        go_ret2
        exact LrR.ok HL.out HBr.out (by rw [HP.out]; rfl) (Dr.of (set_lst (HD.out _ rfl) 1 _) (by rw [HK.out]; rfl)) ((Md.ofBelow (drewN_below w _)).setp _ _)
    · have HL : Hid (lnL bound (bound + 1) (l.drop k) = .long) := ln_long2 hf hmo
      have hg : decide ((k : Int) + bound < (j : Int)) = true := by simp; omega
      clear hf hmo hr hj
      go_enter Tryz.func41, Tryz.ntmps41
      go_wp2
      go_quiet ((go_at_call 65; exact (HE.out _).mono (fun _ _ h => ⟨h.1, _, h.2.symm⟩)))
      go_wp2
      go_quiet (fail)
      go_wp2
      go_ret2
      exact LrR.long HL.out rfl ⟨k, h, n, false, Dr.of (set_lst (HD.out _ rfl) 5 _) rfl⟩ ((Md.ofBelow (drewN_below w _)).setp _ _)
end Go.Proofs.YtmodmeabjhaklabGreatDoor
/-
  The document's next header.
-/
namespace Go.Proofs.YtmodmeabjhaklabGreatDoor
open Go.RowKit

/-- The error that a reading ends with; 0: none. -/
def tC : Tld → Int
  | .bad e => e
  | _ => 0
def hdE (n v : List UInt8) (b : Bool) : Ending := .returned (.tuple #[.agg #[.string ⟨n.toArray⟩, .string ⟨v.toArray⟩], .bool b])
def HrR (w w' : World) (p : Nat) (l : List UInt8) (e : Ending) : Fl → Prop
  | .fin t => e = hdE [] [] false ∧ DF w' p l (tC t) ∧ Md (· = p) w w'
  | .ok s' h => e = hdE (hdV h).1 (hdV h).2 true ∧ Dr w' p l s'.at_ s'.head s'.fields false 0 ∧ Md (· = p) w w' ∧ s'.fields ≤ 100
theorem HrR.fin {w w' : World} {p : Nat} {l : List UInt8} {e : Ending} {f : Fl} {t : Tld} (hf : f = .fin t) (he : e = hdE [] [] false) (h1 : DF w' p l (tC t)) (h2 : Md (· = p) w w') : HrR w w' p l e f := by rw [hf]; exact ⟨he, h1, h2⟩
theorem HrR.ok {w w' : World} {p : Nat} {l : List UInt8} {e : Ending} {f : Fl} {s' : St} {h : Option Hd} (hf : f = .ok s' h) (he : e = hdE (hdV h).1 (hdV h).2 true) (h1 : Dr w' p l s'.at_ s'.head s'.fields false 0) (h2 : Md (· = p) w w') (h3 : s'.fields ≤ 100) : HrR w w' p l e f := by rw [hf]; exact ⟨he, h1, h2, h3⟩
theorem setN {w W : World} {p N : Nat} {l : List UInt8} {k h n : Nat} {m : Bool} {x : Int} (hd : Dr W p l k h n m x) (hm : Md (· = p) w W) (hN : w.heap.size ≤ N) (hp : p ≠ N) (v0 v1 : Value) : Dr ((W.setCell ⟨N, 0, none⟩ v0).setCell ⟨N, 1, none⟩ v1) p l k h n m x ∧ Md (· = p) w ((W.setCell ⟨N, 0, none⟩ v0).setCell ⟨N, 1, none⟩ v1) :=
  ⟨keep_blk (F := (· = N)) hd (((Md.refl _ _).setp _ _).setp _ _) hp, (hm.set (.inr hN) _ _).set (.inr hN) _ _⟩
theorem fin_at {w W : World} {p N : Nat} {l : List UInt8} {k h n : Nat} {m : Bool} {x : Int} {f : Fl} {t : Tld} {v0 v1 : Value} (hf : f = .fin t) (hx : x = tC t) (hd : Dr W p l k h n m x) (hm : Md (· = p) w W) (hN : w.heap.size ≤ N) (hp : p ≠ N) : HrR w ((W.setCell ⟨N, 0, none⟩ v0).setCell ⟨N, 1, none⟩ v1) p l (.returned (.tuple #[.agg #[.string ⟨#[]⟩, .string ⟨#[]⟩], .bool false])) f := by
  have := setN hd hm hN hp v0 v1
  exact HrR.fin hf rfl ⟨k, h, n, m, by rw [← hx]; exact this.1⟩ this.2
theorem ok_at {w W : World} {p N : Nat} {l : List UInt8} {k h n : Nat} {f : Fl} {s' : St} {z : Option Hd} {v0 v1 : Value} {a b : List UInt8} (hf : f = .ok s' z) (hz : hdV z = (a, b)) (hd : Dr W p l k h n false 0) (e : k = s'.at_ ∧ h = s'.head ∧ n = s'.fields) (h3 : n ≤ 100) (hm : Md (· = p) w W) (hN : w.heap.size ≤ N) (hp : p ≠ N) : HrR w ((W.setCell ⟨N, 0, none⟩ v0).setCell ⟨N, 1, none⟩ v1) p l (.returned (.tuple #[.agg #[.string ⟨a.toArray⟩, .string ⟨b.toArray⟩], .bool true])) f := by
  have := setN hd hm hN hp v0 v1
  obtain ⟨rfl, rfl, rfl⟩ := e
  exact HrR.ok hf (by rw [hz]; rfl) this.1 this.2 h3
set_option maxRecDepth 20000 in
set_option maxHeartbeats 4000000 in
theorem headerR_any (p : Nat) (l : List UInt8) (s : St) (w : World) (hd : Dr w p l s.at_ s.head s.fields false 0) (hk : s.at_ ≤ l.length) (hl : l.length ≤ 1000000000) (hh : s.head ≤ 1000000000) (hf : s.fields ≤ 100) :
    Calls Tryz.prog 45 #[.pointer (some ⟨p, 0, none⟩)] w fun e w' => HrR w w' p l e (fldL l s) := by
  obtain ⟨k, hkk⟩ : ∃ k, k = s.at_ := ⟨_, rfl⟩
  obtain ⟨h, hhh⟩ : ∃ h, h = s.head := ⟨_, rfl⟩
  obtain ⟨n, hnn⟩ : ∃ n, n = s.fields := ⟨_, rfl⟩
  have HE := (show Hid (∀ W, Calls Tryz.prog 65 #[.string ⟨l.toArray⟩, .int .i64 (k : Int)] W fun e w' => e = .returned (.int .i64 (endI l k)) ∧ W = w') from fun W => end_any l k W (by omega) hl)
  obtain ⟨S, hS⟩ : ∃ S : ByteArray, S = ⟨l.toArray⟩ := ⟨_, rfl⟩
  have hsz : S.size = l.length := by rw [hS, mk_size]
  have HX : Hid (∀ a b, S.extract a b = ⟨((l.take b).drop a).toArray⟩) := by subst hS; exact fun a b => mk_ext l a b
  obtain ⟨N, hN⟩ : ∃ N, N = w.heap.size := ⟨_, rfl⟩
  obtain ⟨WA, hWA⟩ : ∃ WA, WA = w.alloc (.cells #[.string ⟨#[]⟩, .string ⟨#[]⟩] 31) := ⟨_, rfl⟩
  have hbA : Below w.heap.size w WA := by rw [hWA]; exact (Below.refl _ _).alloc (Nat.le_refl _) _
  have hnA : WA.heap[N]? = some (.cells #[.string ⟨#[]⟩, .string ⟨#[]⟩] 31 (0, 0)) := by rw [hWA, hN]; exact heap_alloc_new w _
  have hpN : p ≠ N := by have := hd.lt; omega
  have hNp : N ≠ p := fun h => hpN h.symm
  have hdA : Dr WA p l k h n false 0 := by rw [hkk, hhh, hnn]; exact hd.below hbA
  have c0 := hdA.cell 0 rfl
  have c1 := hdA.cell 1 rfl
  have c2 := hdA.cell 2 rfl
  have c3 := hdA.cell 3 rfl
  have c4 := hdA.cell 4 rfl
  have c5 := hdA.cell 5 rfl
  rw [← hS] at c0 HE
  have f1 := hdA.fz 1
  have f2 := hdA.fz 2
  have f3 := hdA.fz 3
  have f4 := hdA.fz 4
  have f5 := hdA.fz 5
  have d0 := cell_blk hnA 0
  have d1 := cell_blk hnA 1
  have g0 := frozen_blk hnA 0
  have g1 := frozen_blk hnA 1
  simp at d0 d1
  have HD := (show Hid (∀ q, Dr (WA.drewN q) p l k h n false 0) from fun q => hdA.below (drewN_below WA q))
  have HMd := (show Hid (∀ q, Md (· = p) w (WA.drewN q)) from fun q => (Md.ofBelow hbA).below (drewN_below WA q))
  have HNb := (show Hid (∀ q, (WA.drewN q).heap[N]? = some (.cells #[.string ⟨#[]⟩, .string ⟨#[]⟩] 31 (0, 0))) from fun q => hnA)
  have HN : Hid (w.heap.size ≤ N) := by show _ ≤ _; omega
  have hk0 : (0 : Int) ≤ (k : Int) := by omega
  have hk9 : (k : Int) ≤ 1000000000 := by omega
  have hh9 : (h : Int) ≤ 1000000000 := by omega
  have hn9 : (n : Int) ≤ 100 := by omega
  have hl9 : (l.length : Int) ≤ 1000000000 := by omega
  have HS0 : Hid (k = s.at_ ∧ h = s.head ∧ n = s.fields) := ⟨hkk, hhh, hnn⟩
  have hdl : (l.drop k).length = l.length - k := by simp
  have hlk : (k : Int) ≤ (l.length : Int) := by omega
  cases hfn : fndL (l.drop k) with
  | none =>
    rw [end_not hfn] at HE
    by_cases ho : ((l.drop k).length : Int) ≤ 65536 - (h : Int)
    · have HL : Hid (fldL l s = .fin .more) := fld_more (by rw [← hkk, ← hhh]; exact ln_more hfn ho)
      have hq : decide (65536 < (h : Int) + ((l.length : Int) - (k : Int))) = false := by simp; omega
      clear hfn hdl ho hd hdA hnA hbA hS hkk hhh hnn hk hl hh hf
      go_enter Tryz.func45, Tryz.ntmps45
      go_wp2
      rw [← hN, ← hWA]
      clear hN hWA
      go_quiet ((go_at_call 65; exact (HE.out _).mono (fun _ _ h => ⟨h.1, _, h.2.symm⟩)))
      go_wp2
      go_quiet (fail)
      go_wp2
      refine bodyPost_ret (v := .tuple #[.agg #[.string ⟨#[]⟩, .string ⟨#[]⟩], .bool false]) (by simp [results, Tryz.results45, go_sem, d0, d1]) rfl ?_
      exact fin_at (m := true) HL.out rfl (Dr.of (set_lst (HD.out _) 4 _) rfl) ((HMd.out _).setp _ _) HN.out hpN
    · have HL : Hid (fldL l s = .fin (.bad 339)) := fld_long (by rw [← hkk, ← hhh]; exact ln_long hfn ho)
      have hq : decide (65536 < (h : Int) + ((l.length : Int) - (k : Int))) = true := by simp; omega
      clear hfn hdl ho hd hdA hnA hbA hS hkk hhh hnn hk hl hh hf
      go_enter Tryz.func45, Tryz.ntmps45
      go_wp2
      rw [← hN, ← hWA]
      clear hN hWA
      go_quiet ((go_at_call 65; exact (HE.out _).mono (fun _ _ h => ⟨h.1, _, h.2.symm⟩)))
      go_wp2
      go_quiet (fail)
      go_wp2
      refine bodyPost_ret (v := .tuple #[.agg #[.string ⟨#[]⟩, .string ⟨#[]⟩], .bool false]) (by simp [results, Tryz.results45, go_sem, d0, d1]) rfl ?_
      exact fin_at (m := false) HL.out rfl (Dr.of (set_lst (HD.out _) 5 _) rfl) ((HMd.out _).setp _ _) HN.out hpN
  | some m =>
    have hr := fnd_room _ hfn
    rw [List.length_drop] at hr
    rw [end_of hfn] at HE
    obtain ⟨j, hj⟩ : ∃ j, j = k + m := ⟨_, rfl⟩
    rw [← hj] at HE
    have hj0 : ¬ (j : Int) < 0 := by omega
    have hjk : (k : Int) ≤ (j : Int) := by omega
    have hjl : (j : Int) + 2 ≤ (l.length : Int) := by omega
    by_cases hmo : (m : Int) ≤ 65536 - (h : Int) - 2
    · have hq : decide (65536 < (h : Int) + ((j : Int) + 2 - (k : Int))) = false := by simp; omega
      obtain ⟨x, hx⟩ : ∃ x, x = (l.drop k).take m := ⟨_, rfl⟩
      have hxl : x.length = m := by rw [hx, List.length_take, List.length_drop]; omega
      have HLn : Hid (lnL (65536 - s.head - 2) (65536 - s.head) (l.drop s.at_) = .ok x) := by show _ = _; rw [← hkk, ← hhh, hx]; exact ln_yes hfn hmo
      have HP : Hid (S.extract k j = ⟨x.toArray⟩) := by show _ = _; rw [HX.out, hj, piece_of, hx]
      have hj1 : (j : Int) ≤ (S.size : Int) := by omega
      by_cases hm0 : m = 0
      · have hjk2 : ¬ (k : Int) < (j : Int) := by omega
        have hjk3 : decide ((k : Int) < (j : Int)) = false := by simp; omega
        have hx0 : x = [] := List.length_eq_zero_iff.1 (by omega)
        have HL : Hid (fldL l s = .ok { s with at_ := s.at_ + 2, head := s.head + 2 } none) := fld_nil (by rw [← hx0]; exact HLn.out)
        have hP : S.extract k j = ⟨#[]⟩ := by rw [HP.out, hx0]
        have HK : Hid (((k + 2 : Nat) : Int) = (j : Int) + 2 ∧ ((h + 2 : Nat) : Int) = (h : Int) + ((j : Int) + 2 - (k : Int))) := ⟨by omega, by omega⟩
        clear hfn hdl hd hdA hnA hbA hS hkk hhh hnn hk hl hh hmo hr hj hx hxl hm0 hx0 HX
        go_enter Tryz.func45, Tryz.ntmps45
        go_wp2
        rw [← hN, ← hWA]
        clear hN hWA
        go_quiet ((go_at_call 65; exact (HE.out _).mono (fun _ _ h => ⟨h.1, _, h.2.symm⟩)))
        go_wp2
        go_quiet (fail)
        go_wp2
        go_quiet (fail)
        go_wp2
        refine bodyPost_ret (v := .tuple #[.agg #[.string ⟨#[]⟩, .string ⟨#[]⟩], .bool true]) (by simp [results, Tryz.results45, go_sem, d0, d1]) rfl ?_
        exact ok_at (k := k + 2) (h := h + 2) (n := n) (a := []) (b := []) HL.out rfl (Dr.of (set_lst (set_lst (HD.out _) 1 _) 2 _) (by rw [HK.out.1, HK.out.2]; rfl)) ⟨by rw [HS0.out.1], by rw [HS0.out.2.1], by rw [HS0.out.2.2]⟩ (by omega) (((HMd.out _).setp _ _).setp _ _) HN.out hpN
      · have hjk2 : (k : Int) < (j : Int) := by omega
        have hjk3 : decide ((k : Int) < (j : Int)) = true := by simp; omega
        have hxn : x ≠ [] := by rintro rfl; simp at hxl; omega
        by_cases hnh : n = 100
        · have hnb : ((n : Int) == 100) = true := by rw [hnh]; rfl
          have HL : Hid (fldL l s = .fin (.bad 339)) := fld_many HLn.out hxn (by omega)
          clear hfn hdl hd hdA hnA hbA hS hkk hhh hnn hk hl hh hmo hr hj hx hxl hm0 hxn HX hf hnh
          go_enter Tryz.func45, Tryz.ntmps45
          go_wp2
          rw [← hN, ← hWA]
          clear hN hWA
          go_quiet ((go_at_call 65; exact (HE.out _).mono (fun _ _ h => ⟨h.1, _, h.2.symm⟩)))
          go_wp2
          go_quiet (fail)
          go_wp2
          refine bodyPost_ret (v := .tuple #[.agg #[.string ⟨#[]⟩, .string ⟨#[]⟩], .bool false]) (by simp [results, Tryz.results45, go_sem, d0, d1]) rfl ?_
          exact fin_at (m := false) HL.out rfl (Dr.of (set_lst (HD.out _) 5 _) rfl) ((HMd.out _).setp _ _) HN.out hpN
        · have hnb : ((n : Int) == 100) = false := by rw [beq_eq_false_iff_ne]; omega
          have hn99 : n ≤ 99 := by omega
          have hemp : (x == []) = false := by rw [beq_eq_false_iff_ne]; exact hxn
          have hP : S.extract k j = ⟨x.toArray⟩ := HP.out
          have HF1 : Hid (hdrL x = none → fldL l s = .fin (.bad 308)) := fun hh => fld_bad HLn.out hxn (by omega) hh
          have HF2 : Hid (∀ z, hdrL x = some z → fldL l s = .ok { s with at_ := s.at_ + (x.length + 2), head := s.head + (x.length + 2), fields := s.fields + 1 } (some z)) := fun z hh => fld_ok HLn.out hxn (by omega) hh
          have HH : Hid (hdrL x = if (Lib.cut x [58]).2.2 && tokenB (Lib.cut x [58]).1 && allB valB (Lib.cut x [58]).2.1 then some (lowL (Lib.cut x [58]).1, trimL (Lib.cut x [58]).2.1) else none) := rfl
          have hx9 : x.length ≤ 1000000000 := by omega
          have hcl := cut_len x [58]
          have HK : Hid (((k + (x.length + 2) : Nat) : Int) = (j : Int) + 2 ∧ ((h + (x.length + 2) : Nat) : Int) = (h : Int) + ((j : Int) + 2 - (k : Int))) := ⟨by omega, by omega⟩
          obtain ⟨G, hG⟩ : ∃ G : World → Prop, G = fun W => Dr W p l (k + (x.length + 2)) (h + (x.length + 2)) (n + 1) false 0 ∧ Md (· = p) w W ∧ W.heap[N]? = some (.cells #[.string ⟨#[]⟩, .string ⟨#[]⟩] 31 (0, 0)) := ⟨_, rfl⟩
          have HG : Hid (∀ W, G W ↔ (Dr W p l (k + (x.length + 2)) (h + (x.length + 2)) (n + 1) false 0 ∧ Md (· = p) w W ∧ W.heap[N]? = some (.cells #[.string ⟨#[]⟩, .string ⟨#[]⟩] 31 (0, 0)))) := fun W => by rw [hG]
          have HGb : Hid (∀ W W', G W → Below W.heap.size W W' → G W') := fun W W' h1 h2 => by
            rw [hG] at h1 ⊢
            exact ⟨h1.1.below h2, h1.2.1.below h2, (h2.block N (blk_lt h1.2.2)).trans h1.2.2⟩
          have HC := (show Hid (∀ W, G W → Calls Tryz.prog 69 #[.string ⟨x.toArray⟩, .int .u8 58] W fun e w' => e = .returned (.tuple #[.string ⟨(Lib.cut x [58]).1.toArray⟩, .string ⟨(Lib.cut x [58]).2.1.toArray⟩, .bool (Lib.cut x [58]).2.2]) ∧ G w') from fun W hW => by
            exact (refCut_any x 58 W hx9).mono fun e w' ⟨h1, h2⟩ => ⟨h1, HGb.out W w' hW h2⟩)
          have HBr := (show Hid (∀ W, Calls Tryz.prog 66 #[.string ⟨x.toArray⟩] W fun e w' => e = .returned (.bool (barB x)) ∧ W = w') from fun W => bare_any x W hx9)
          have HBn : Hid (barB x = true → hdrL x = none) := hdr_bare
          clear hfn hdl hd hdA hnA hbA hS hkk hhh hnn hk hl hh hmo hr hj hx hxl hm0 hxn HX hf hnh hG
          generalize (Lib.cut x [58]).2.2 = fd at *
          generalize (Lib.cut x [58]).2.1 = vl at *
          generalize (Lib.cut x [58]).1 = nm at *
          have HTk := (show Hid (∀ W, Calls Tryz.prog 43 #[.string ⟨nm.toArray⟩] W fun e w' => e = .returned (.bool (tokenB nm)) ∧ W = w') from fun W => refToken_any ⟨nm.toArray⟩ W (by rw [mk_size]; unfold maxLen; omega))
          have HVl := (show Hid (∀ W, Calls Tryz.prog 70 #[.string ⟨vl.toArray⟩] W fun e w' => e = .returned (.bool (allB valB vl)) ∧ W = w') from fun W => refValue_any ⟨vl.toArray⟩ W (by rw [mk_size]; unfold maxLen; omega))
          have HLo := (show Hid (∀ W, G W → Calls Tryz.prog 47 #[.string ⟨nm.toArray⟩] W fun e w' => e = .returned (.string ⟨(lowL nm).toArray⟩) ∧ G w') from fun W hW => (refLower_any ⟨nm.toArray⟩ W (by rw [mk_size]; omega)).mono fun e w' ⟨h1, h2⟩ => ⟨h1, HGb.out W w' hW h2⟩)
          have HTr := (show Hid (∀ W, Calls Tryz.prog 50 #[.string ⟨vl.toArray⟩] W fun e w' => e = .returned (.string ⟨(trimL vl).toArray⟩) ∧ W = w') from fun W => refTrim_any ⟨vl.toArray⟩ W (by rw [mk_size]; unfold maxLen; omega))
          generalize tokenB nm = tk at *
          generalize allB valB vl = vb at *
          generalize barB x = br at *
          clear hcl hx9
          go_enter Tryz.func45, Tryz.ntmps45
          go_wp2
          rw [← hN, ← hWA]
          clear hN hWA
          go_quiet ((go_at_call 65; exact (HE.out _).mono (fun _ _ h => ⟨h.1, _, h.2.symm⟩)))
          go_wp2
          go_quiet (fail)
          go_wp2
          go_quiet (fail)
          go_wp2_with fail
          refine Calls.mono (HC.out _ ((HG.out _).2 ⟨Dr.of (set_lst (set_lst (set_lst (HD.out _) 1 _) 2 _) 3 _) (by rw [HK.out.1, HK.out.2]; rfl), (((HMd.out _).setp _ _).setp _ _).setp _ _, keep_blk (HNb.out _) ((((Md.refl (· = p) _).setp _ _).setp _ _).setp _ _) hNp⟩)) ?_
          clear c0 c1 c2 c3 c4 c5 f1 f2 f3 f4 f5 d0 d1 g0 g1
          rintro e w2 ⟨rfl, hg2⟩
          have h2 := (HG.out w2).1 hg2
          have c5 := h2.1.cell 5 rfl
          have f5 := h2.1.fz 5
          have d0 := cell_blk h2.2.2 0
          have d1 := cell_blk h2.2.2 1
          have g0 := frozen_blk h2.2.2 0
          have g1 := frozen_blk h2.2.2 1
          simp at d0 d1
          have H2 := (show Hid _ from h2)
          clear h2
          by_cases hbad : br = true ∨ fd = false ∨ tk = false ∨ vb = false
          · have HL : Hid (fldL l s = .fin (.bad 308)) := by
              refine HF1.out ?_
              rcases hbad with h | h | h | h
              · exact HBn.out h
              · rw [HH.out, h]; simp
              · rw [HH.out, h]; simp
              · rw [HH.out, h]; simp
            clear HH HBn HF1 HF2 HLo HTr
            cases br <;> cases fd <;> cases tk <;> cases vb
            all_goals first
              | (exfalso; revert hbad; decide)
              | (clear hbad
                 go_wp2_with (first
                   | (go_at_call 66; refine Calls.mono (HBr.out _) ?_; rintro e w' ⟨rfl, rfl⟩)
                   | (go_at_call 43; refine Calls.mono (HTk.out _) ?_; rintro e w' ⟨rfl, rfl⟩)
                   | (go_at_call 70; refine Calls.mono (HVl.out _) ?_; rintro e w' ⟨rfl, rfl⟩))
                 refine bodyPost_ret (v := .tuple #[.agg #[.string ⟨#[]⟩, .string ⟨#[]⟩], .bool false]) (by simp [results, Tryz.results45, go_sem, d0, d1]) rfl ?_
                 exact fin_at (m := false) HL.out rfl (Dr.of (set_lst H2.out.1 5 _) rfl) (H2.out.2.1.setp _ _) HN.out hpN)
          · have hgd : br = false ∧ fd = true ∧ tk = true ∧ vb = true := by
              cases br <;> cases fd <;> cases tk <;> cases vb <;> simp at hbad ⊢
            obtain ⟨rfl, rfl, rfl, rfl⟩ := hgd
            have HL : Hid (fldL l s = .ok { s with at_ := s.at_ + (x.length + 2), head := s.head + (x.length + 2), fields := s.fields + 1 } (some (lowL nm, trimL vl))) := HF2.out _ (by rw [HH.out]; rfl)
            clear hbad HH HBn HF1 HF2
            have hg2' := (show Hid _ from hg2)
            clear hg2
            go_wp2_with (first
              | (go_at_call 66; refine Calls.mono (HBr.out _) ?_; rintro e w' ⟨rfl, rfl⟩)
              | (go_at_call 43; refine Calls.mono (HTk.out _) ?_; rintro e w' ⟨rfl, rfl⟩)
              | (go_at_call 70; refine Calls.mono (HVl.out _) ?_; rintro e w' ⟨rfl, rfl⟩)
              | (go_at_call 47; refine Calls.mono (HLo.out _ hg2'.out) ?_; clear d0 d1 g0 g1 c5 f5; rintro e w3 ⟨rfl, hg3⟩; have h3 := (HG.out w3).1 hg3; have d0 := cell_blk h3.2.2 0; have d1 := cell_blk h3.2.2 1; have g0 := frozen_blk h3.2.2 0; have g1 := frozen_blk h3.2.2 1; simp at d0 d1; have H3 := (show Hid _ from h3); clear h3 hg3)
              | (go_at_call 50; refine Calls.mono (HTr.out _) ?_; rintro e w' ⟨rfl, rfl⟩))
            refine bodyPost_ret (v := .tuple #[.agg #[.string ⟨(lowL nm).toArray⟩, .string ⟨(trimL vl).toArray⟩], .bool true]) (by simp [results, Tryz.results45, go_sem, d0, d1]) rfl ?_
            exact ok_at HL.out rfl H3.out.1 ⟨by rw [HS0.out.1], by rw [HS0.out.2.1], by rw [HS0.out.2.2]⟩ (by omega) H3.out.2.1 HN.out hpN
    · have HL : Hid (fldL l s = .fin (.bad 339)) := fld_long (by rw [← hkk, ← hhh]; exact ln_long2 hfn hmo)
      have hq : decide (65536 < (h : Int) + ((j : Int) + 2 - (k : Int))) = true := by simp; omega
      cases hm0 : decide ((k : Int) < (j : Int))
      all_goals
        clear hfn hdl hd hdA hnA hbA hS hkk hhh hnn hk hl hh hf hmo hr hj
        go_enter Tryz.func45, Tryz.ntmps45
        go_wp2
        rw [← hN, ← hWA]
        clear hN hWA
        go_quiet ((go_at_call 65; exact (HE.out _).mono (fun _ _ h => ⟨h.1, _, h.2.symm⟩)))
        go_wp2
        go_quiet (fail)
        go_wp2
        refine bodyPost_ret (v := .tuple #[.agg #[.string ⟨#[]⟩, .string ⟨#[]⟩], .bool false]) (by simp [results, Tryz.results45, go_sem, d0, d1]) rfl ?_
        exact fin_at (m := false) HL.out rfl (Dr.of (set_lst (HD.out _) 5 _) rfl) ((HMd.out _).setp _ _) HN.out hpN
end Go.Proofs.YtmodmeabjhaklabGreatDoor
/-
  The document's block of headers, and what it tells of what is not whole.
-/
namespace Go.Proofs.YtmodmeabjhaklabGreatDoor
open Go.RowKit

theorem fld_head {l : List UInt8} {s s' : St} {h : Option Hd} (hf : fldL l s = .ok s' h) (h0 : s.head ≤ s.at_) : s'.head ≤ s'.at_ := by
  unfold fldL at hf
  split at hf
  · cases hf
  · cases hf
  · split at hf
    · simp only [Fl.ok.injEq] at hf
      obtain ⟨rfl, -⟩ := hf
      simp only
      omega
    · split at hf
      · cases hf
      · split at hf
        · cases hf
        · simp only [Fl.ok.injEq] at hf
          obtain ⟨rfl, -⟩ := hf
          simp only
          omega
theorem fld_nm {l : List UInt8} {s s' : St} {z : Hd} (hf : fldL l s = .ok s' (some z)) : z.1 ≠ [] := by
  unfold fldL at hf
  split at hf
  · cases hf
  · cases hf
  · split at hf
    · simp at hf
    · split at hf
      · cases hf
      · split at hf
        · cases hf
        · next hh =>
          simp only [Fl.ok.injEq, Option.some.injEq] at hf
          obtain ⟨-, rfl⟩ := hf
          unfold hdrL at hh
          split at hh
          · next ht =>
            simp only [Option.some.injEq] at hh
            subst hh
            simp only [Bool.and_eq_true, tokenB, decide_eq_true_eq] at ht
            intro e
            have := congrArg List.length e
            simp [lowL] at this
            have h2 := ht.1.2.1
            rw [this] at h2
            simp at h2
          · cases hh
def dAt (w : World) (p : Nat) : Nat := match w.cell? ⟨p, 1, none⟩ with | some (.int _ n) => n.toNat | _ => 0
theorem Dr.at_ {w : World} {p : Nat} {l : List UInt8} {k h n : Nat} {m : Bool} {x : Int} (hd : Dr w p l k h n m x) : dAt w p = k := by
  unfold dAt
  rw [hd.cell 1 rfl]
  simp
def BkR (w w' : World) (p : Nat) (l : List UInt8) (e : Ending) (acc : List Hd) : Fl → Prop
  | .fin t => e = .returned (.tuple #[.slice none 0 0, .bool false]) ∧ DF w' p l (tC t)
  | .ok s' none => ∃ v, e = .returned (.tuple #[v, .bool true]) ∧ w'.ownsRow w.heap.size 31 2 v acc.length (hcs acc) ∧ Dr w' p l s'.at_ s'.head s'.fields false 0 ∧ s'.fields ≤ 100
  | .ok _ (some _) => False
theorem BkR.fin {w w' : World} {p : Nat} {l : List UInt8} {e : Ending} {acc : List Hd} {f : Fl} {t : Tld} (hf : f = .fin t) (he : e = .returned (.tuple #[.slice none 0 0, .bool false])) (h1 : DF w' p l (tC t)) : BkR w w' p l e acc f := by rw [hf]; exact ⟨he, h1⟩
theorem BkR.ok {w w' : World} {p : Nat} {l : List UInt8} {e : Ending} {acc : List Hd} {f : Fl} {s' : St} (hf : f = .ok s' none) {v : Value} (he : e = .returned (.tuple #[v, .bool true])) (h1 : w'.ownsRow w.heap.size 31 2 v acc.length (hcs acc)) (h2 : Dr w' p l s'.at_ s'.head s'.fields false 0) (h3 : s'.fields ≤ 100) : BkR w w' p l e acc f := by rw [hf]; exact ⟨v, he, h1, h2, h3⟩
/-- What the loop over headers holds. -/
def BkI (I : St → List Hd → Prop) (w : World) (p : Nat) (l : List UInt8) (v : Value) (wr : World) : Prop := ∃ s acc, I s acc ∧ s.at_ ≤ l.length ∧ s.head ≤ s.at_ ∧ s.fields ≤ 100 ∧ acc.length ≤ s.at_ ∧ Dr wr p l s.at_ s.head s.fields false 0 ∧ wr.ownsRow w.heap.size 31 2 v acc.length (hcs acc) ∧ Md (· = p) w wr
theorem cell_two_at (w : World) (a b : Value) (t : TypeId) (g : Nat) (hg : g = w.heap.size) : ∀ j u, [a, b][j]? = some u → (w.alloc (.cells #[a, b] t)).cell? ((⟨g, 0, none⟩ : Addr).add j) = some u := by
  subst hg
  exact cell_two_new w a b t
theorem alloc_size (w : World) (o : Obj) : w.heap.size + 1 = (w.alloc o).heap.size := by show _ = (w.heap.push _).size; simp
set_option maxRecDepth 20000 in
set_option maxHeartbeats 4000000 in
theorem blockR_any (I : St → List Hd → Prop) (p : Nat) (l : List UInt8) (s : St) (w : World) (hI : ∀ s acc s' z, I s acc → s.at_ ≤ l.length → fldL l s = .ok s' (some z) → I s' (acc ++ [z])) (h0 : I s []) (hd : Dr w p l s.at_ s.head s.fields false 0) (hk : s.at_ ≤ l.length) (hl : l.length ≤ 1000000000) (hh : s.head ≤ s.at_) (hf : s.fields ≤ 100) :
    Calls Tryz.prog 21 #[.pointer (some ⟨p, 0, none⟩)] w fun e w' => ∃ s1 acc, I s1 acc ∧ s1.at_ ≤ l.length ∧ s1.head ≤ s1.at_ ∧ acc.length ≤ s1.at_ ∧ Md (· = p) w w' ∧ BkR w w' p l e acc (fldL l s1) := by
  obtain ⟨i0, hi, hz0, hz1, hz2⟩ := info_parts info31
  have H0 : Hid (BkI I w p l (.slice none 0 0) w) := ⟨s, [], h0, hk, hh, hf, by simp, hd, World.ownsRow_nil _ _ _ _, Md.refl _ _⟩
  have HI := (show Hid _ from hI)
  have HP : Hid (p < w.heap.size) := hd.lt
  clear h0 hd hk hh hf hI
  go_enter Tryz.func21, Tryz.ntmps21
  go_wp2
  go_loopw [4] (fun v wr => BkI I w p l v wr) (fun _ wr => l.length - dAt wr p)
  case atStart => exact H0.out
  case round =>
    obtain ⟨s, acc, hi1, hk, hh, hf, hacc, hd, hown, hmd⟩ := hrel
    have HH := (show Hid _ from headerR_any p l s wr hd hk hl (by omega) hf)
    have HR := (show Hid _ from And.intro hi1 (And.intro hd (And.intro hown hmd)))
    have HA : Hid (dAt wr p = s.at_) := hd.at_
    clear hi1 hd hown hmd
    go_wp2_with fail
    refine Calls.mono HH.out ?_
    clear HH
    intro e w1 hhr
    cases hx : fldL l s with
    | fin t =>
      rw [hx] at hhr
      obtain ⟨rfl, hdf, hm⟩ := hhr
      have HX : Hid (fldL l s = .fin t ∧ DF w1 p l (tC t) ∧ Md (· = p) w w1) := ⟨hx, hdf, HR.out.2.2.2.trans hm⟩
      clear hx hdf hm
      unfold hdE
      go_wp2
      go_ret2
      exact ⟨s, acc, HR.out.1, hk, hh, hacc, HX.out.2.2.below ((Below.refl _ _).alloc (Nat.le_refl _) _), BkR.fin HX.out.1 rfl (by
        obtain ⟨k, h, n, m, hdr⟩ := HX.out.2.1
        exact ⟨k, h, n, m, hdr.below ((Below.refl _ _).alloc (Nat.le_refl _) _)⟩)⟩
    | ok s' z =>
      rw [hx] at hhr
      obtain ⟨rfl, hdr, hm, hf'⟩ := hhr
      unfold hdE
      have hgo := fld_go hx
      cases z with
      | none =>
        have HX : Hid (fldL l s = .ok s' none ∧ Dr w1 p l s'.at_ s'.head s'.fields false 0 ∧ Md (· = p) w w1 ∧ w1.ownsRow w.heap.size 31 2 u4 acc.length (hcs acc) ∧ s'.fields ≤ 100) := ⟨hx, hdr, HR.out.2.2.2.trans hm, own_md HR.out.2.2.1 hm (fun j hj => by have := (HR.out.2.2.1.lt j hj).1; have := HP.out; omega), hf'⟩
        clear hx hdr hm
        show _
        simp only [hdV, Option.getD_none]
        go_wp2
        go_ret2
        exact ⟨s, acc, HR.out.1, hk, hh, hacc, HX.out.2.2.1.below ((Below.refl _ _).alloc (Nat.le_refl _) _), BkR.ok HX.out.1 rfl (HX.out.2.2.2.1.alloc _) (HX.out.2.1.below ((Below.refl _ _).alloc (Nat.le_refl _) _)) HX.out.2.2.2.2⟩
      | some z =>
        have hzn := fld_nm hx
        obtain ⟨zn, zv⟩ := z
        have hemp : (zn == []) = false := by rw [beq_eq_false_iff_ne]; exact hzn
        have hh' := fld_head hx hh
        have HX : Hid (I s' (acc ++ [(zn, zv)]) ∧ Dr w1 p l s'.at_ s'.head s'.fields false 0 ∧ Md (· = p) w w1 ∧ w1.ownsRow w.heap.size 31 2 u4 acc.length (hcs acc)) := ⟨HI.out s acc s' _ HR.out.1 hk hx, hdr, HR.out.2.2.2.trans hm, own_md HR.out.2.2.1 hm (fun j hj => by have := (HR.out.2.2.1.lt j hj).1; have := HP.out; omega)⟩
        have hsz : w.heap.size ≤ w1.heap.size := HX.out.2.2.1.size
        clear hx hdr hm hzn
        simp only [hdV, Option.getD_some]
        go_wp2_with (at_builtin; refine wpList_append_own _ rfl (.tmp 18) (.tmp 20) 23 rfl w.heap.size 31 i0 (.agg #[.string ⟨#[]⟩, .string ⟨#[]⟩]) 2 32 Tryz.underlying23 hi hz0 hz1 hz2 rfl (by decide) _ acc.length _ rfl (World.ownsRow.alloc (World.ownsRow.alloc HX.out.2.2.2 _) _) ⟨w1.heap.size + 1, 0, none⟩ 1 1 [.string ⟨zn.toArray⟩, .string ⟨zv.toArray⟩] rfl rfl (cell_two_at _ _ _ _ _ (alloc_size _ _)) (two_one _ _) (by unfold maxLen; omega) (by omega) (by simp; omega) ?_; intro v5 w5 hown5 hgrow5 _)
        have hm5 : Md (fun b => w.heap.size ≤ b) w1 w5 := (((Md.refl _ w1).alloc _).alloc _).grown hgrow5 (fun k hk => .inl (HX.out.2.2.2.lt k hk).1)
        have hd5 : Dr w5 p l s'.at_ s'.head s'.fields false 0 := keep_blk HX.out.2.1 hm5 (by have := HP.out; omega)
        have hw5 : Md (· = p) w w5 := ((HX.out.2.2.1.alloc _).alloc _).grown hgrow5 (fun k hk => .inr (HX.out.2.2.2.lt k hk).1)
        refine ⟨⟨s', acc ++ [(zn, zv)], HX.out.1, hgo.2, hh', hf', by rw [List.length_append]; simp only [List.length_cons, List.length_nil]; omega, hd5, by rw [List.length_append, hcs_app]; exact hown5, hw5⟩, ?_⟩
        rw [hd5.at_, HA.out]
        omega
end Go.Proofs.YtmodmeabjhaklabGreatDoor
