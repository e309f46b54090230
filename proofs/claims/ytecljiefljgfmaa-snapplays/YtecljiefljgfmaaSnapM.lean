/-
  Two slots on a device: what was saved is what is loaded, also behind a crash.
-/
import Derived.Test.YtecljiefljgfmaaPuts
import Derived.Test.YtecljiefljgfmaaLoad
namespace Go.Proofs.Ytecljiefljgfmaa

theorem vl_be (n : Nat) (x : List UInt8) (hn : n < 4294967296) : vl (be n 4 ++ x) 4 = n := by
  simp [vl, be]
  omega
theorem vl_be8 (n : Nat) (x : List UInt8) (hn : n < 18446744073709551616) : vl (be n 8 ++ x) 8 = n := by
  simp [vl, be]
  omega
theorem psecs_size (b : List UInt8) : ∀ x ∈ psecs b, x.size = 256 := by
  intro x hx
  obtain ⟨j, hj, rfl⟩ := List.mem_map.1 hx
  exact fsecB_size (padTo_length b) (List.mem_range.1 hj)
theorem psecs_get {b : List UInt8} {j : Nat} (h : j < sect b.length) : (psecs b)[j]? = some (fsecB (padTo b) j) := by
  rw [psecs, fsecs, List.getElem?_map, List.getElem?_range h]; rfl
theorem laid_bytes {S : List ByteArray} {p : Nat} {b : List UInt8} (h : ∀ j, j < sect b.length → S[p + j]? = (psecs b)[j]?) : (secs S p (sect b.length)).take b.length = b := by
  have hl : Laid S p (padTo b) (sect b.length) := fun j hj => (h j hj).trans (psecs_get hj)
  rw [secs_laid hl _ (Nat.le_refl _), ← padTo_length, List.take_length, padTo, List.take_left' rfl]
theorem vl_be8' (n : Nat) (hn : n < 18446744073709551616) : g64 (be n 8) = n := by
  rw [(g64_yes (be_length n 8)).1]
  have e := vl_be8 n [] hn
  rwa [List.append_nil] at e

/-- A slot into which a state was saved is whole. -/
theorem slot_laid {S : List ByteArray} {q n ep : Nat} {st : List UInt8} (hep : ep < 18446744073709551616) (hl : st.length < 18446744073709551616) (hf : fitsB n st.length = true) (h0 : S[q]? = (psecs (headL ep st))[0]?) (h1 : ∀ j, j < sect st.length → S[q + 1 + j]? = (psecs st)[j]?) : slotR S q n = some (ep, st) := by
  have hh : slotHead S q = headL ep st := by
    have := laid_bytes (S := S) (p := q) (b := headL ep st) (by
      intro j hj
      rw [headL_length] at hj
      have : j = 0 := by have : sect 24 = 1 := rfl; omega
      subst this
      exact h0)
    rwa [headL_length] at this
  have hst : stampS ep st = be ep 8 ++ be st.length 8 := rfl
  have h8 : (headL ep st).drop 8 = stampS ep st := by
    rw [headL]
    exact List.drop_left' (by simp [markL, be_length])
  have hE : slotEp S q = ep := by
    rw [slotEp, hh, h8, hst, List.take_left' (be_length ep 8)]
    exact vl_be8' ep hep
  have h16 : (headL ep st).drop 16 = be st.length 8 := by
    rw [show (16 : Nat) = 8 + 8 from rfl, ← List.drop_drop, h8, hst]
    exact List.drop_left' (be_length ep 8)
  have hZ : slotSz S q = st.length := by
    rw [slotSz, hh, h16]
    exact vl_be8' _ hl
  have hT : slotSt S q = st := by
    rw [slotSt, hZ]
    exact laid_bytes h1
  rw [slotR, hE, hT, hZ, if_pos ⟨hf, hh⟩]
theorem slotHead_same {S S' : List ByteArray} {q : Nat} (h : S'[q]? = S[q]?) : slotHead S' q = slotHead S q := by
  rw [slotHead, slotHead, secs_same (S := S) (S' := S')]
  intro j hj
  have : j = 0 := by have : sect 24 = 1 := rfl; omega
  subst this
  exact h
/-- A slot is told by its own sectors alone. -/
theorem slot_same {S S' : List ByteArray} {q n : Nat} (h : ∀ j, j < n → S'[q + j]? = S[q + j]?) (hn : 1 ≤ n) : slotR S' q n = slotR S q n := by
  have hh : slotHead S' q = slotHead S q := slotHead_same (by have := h 0 (by omega); rwa [Nat.add_zero] at this)
  have hE : slotEp S' q = slotEp S q := by rw [slotEp, slotEp, hh]
  have hZ : slotSz S' q = slotSz S q := by rw [slotSz, slotSz, hh]
  rw [slotR, slotR, hE, hZ, hh]
  by_cases hf : fitsB n (slotSz S q) = true
  · have hT : slotSt S' q = slotSt S q := by
      rw [slotSt, slotSt, hZ, secs_same (S := S) (S' := S')]
      intro j hj
      have hfn : sect (slotSz S q) ≤ n - 1 := by
        simp only [fitsB, decide_eq_true_eq, Int.toNat_natCast] at hf
        omega
      have := h (1 + j) (by omega)
      rwa [← Nat.add_assoc] at this
    rw [hT]
  · rw [if_neg (fun q => hf q.1), if_neg (fun q => hf q.1)]
/-- The epoch that a slot tells lies in its first sector. -/
theorem slot_ep {S S' : List ByteArray} {q n e : Nat} {s : List UInt8} (h : S'[q]? = S[q]?) (hr : slotR S' q n = some (e, s)) : e = slotEp S q ∧ slotHead S q = headL e s := by
  rw [slotR] at hr
  split at hr
  · rename_i hc
    simp only [Option.some.injEq, Prod.mk.injEq] at hr
    obtain ⟨rfl, rfl⟩ := hr
    have hh := slotHead_same h
    exact ⟨by rw [slotEp, slotEp, hh], by rw [← hh]; exact hc.2⟩
  · cases hr
theorem slot_zero {S : List ByteArray} {q n : Nat} (h : S[q]? = some zsec) : slotR S q n = none := by
  have hh : slotHead S q = List.replicate 24 0 := by
    obtain ⟨hlt, he⟩ := List.getElem?_eq_some_iff.1 h
    have hs : secs S q 1 = List.replicate 256 0 := by
      have := secs_succ (S := S) (p := q) (k := 0) (by omega)
      simp only [Nat.add_zero] at this
      rw [this, he]
      rfl
    rw [slotHead, show sect 24 = 1 from rfl, hs, List.take_replicate]; rfl
  rw [slotR, if_neg]
  rintro ⟨_, hc⟩
  rw [hh, headL] at hc
  simp [markL, List.replicate_succ] at hc

/-- Where the sectors lie behind a Save. -/
def savedS (S : List ByteArray) (q ep : Nat) (st : List UInt8) : List ByteArray := puts (puts S (q + 1) (psecs st)) q (psecs (headL ep st))
theorem savedS_length (S : List ByteArray) (q ep : Nat) (st : List UInt8) : (savedS S q ep st).length = S.length := by rw [savedS, puts_length, puts_length]
theorem savedS_size {S : List ByteArray} {q ep : Nat} {st : List UInt8} (h : ∀ x ∈ S, x.size = 256) : ∀ x ∈ savedS S q ep st, x.size = 256 :=
  puts_size _ _ _ (puts_size _ _ _ h (psecs_size st)) (psecs_size _)
theorem head_one (ep : Nat) (st : List UInt8) : (psecs (headL ep st)).length = 1 := by rw [psecs_length, headL_length]; rfl
theorem savedS_get {S : List ByteArray} {q ep : Nat} {st : List UInt8} (hq : q + 1 + sect st.length ≤ S.length) (i : Nat) :
    (savedS S q ep st)[i]? = if i = q then (psecs (headL ep st))[0]? else if q + 1 ≤ i ∧ i < q + 1 + sect st.length then (psecs st)[i - (q + 1)]? else S[i]? := by
  rw [savedS, puts_get _ _ _ _ (by rw [puts_length, head_one]; omega), puts_get _ _ _ _ (by rw [psecs_length]; omega), head_one, psecs_length]
  by_cases hi : i = q
  · subst hi
    rw [if_pos (by omega), if_pos rfl, Nat.sub_self]
  · rw [if_neg (by omega), if_neg hi]
theorem savedS_slot {S : List ByteArray} {q n ep : Nat} {st : List UInt8} (hep : ep < 18446744073709551616) (hl : st.length < 18446744073709551616) (hf : fitsB n st.length = true) (hq : q + n ≤ S.length) : slotR (savedS S q ep st) q n = some (ep, st) := by
  have hfn : 1 ≤ n ∧ sect st.length ≤ n - 1 := by
    simp only [fitsB, decide_eq_true_eq, Int.toNat_natCast] at hf
    omega
  refine slot_laid hep hl hf ?_ ?_
  · rw [savedS_get (by omega), if_pos rfl]
  · intro j hj
    rw [savedS_get (by omega), if_neg (by omega), if_pos (by omega), show q + 1 + j - (q + 1) = j from by omega]
theorem savedS_other {S : List ByteArray} {q n ep : Nat} {st : List UInt8} (hf : fitsB n st.length = true) (hq : q + n ≤ S.length) {i : Nat} (hi : i < q ∨ q + n ≤ i) : (savedS S q ep st)[i]? = S[i]? := by
  have hfn : 1 ≤ n ∧ sect st.length ≤ n - 1 := by
    simp only [fitsB, decide_eq_true_eq, Int.toNat_natCast] at hf
    omega
  rw [savedS_get (by omega), if_neg (by omega), if_neg (by omega)]

/-- A Save on a device that lives. -/
theorem saveF_live {M : D} {q n ep : Nat} {st : List UInt8} (hM : Calm M) (hf : fitsB n st.length = true) (hq : q + n ≤ M.S.length) :
    saveF M q ep st = (0, { M with S := savedS M.S q ep st, L := savedS M.S q ep st }) := by
  have hfn : 1 ≤ n ∧ sect st.length ≤ n - 1 := by
    simp only [fitsB, decide_eq_true_eq, Int.toNat_natCast] at hf
    omega
  have h1 := wrsF_live (xs := psecs st) (M := M) (p := q + 1) hM.st (by rw [psecs_length]; omega) (psecs_size st)
  rw [saveF, h1, if_neg (by simp)]
  rw [wrsF_live (by exact hM.st) (by simp only [puts_length, head_one]; omega) (psecs_size _)]
  rw [hM.c, hM.l]
  simp only [List.nil_append, app_cws]
  rfl
theorem saveF_calm {M : D} {q ep : Nat} {st : List UInt8} (hM : Calm M) : Calm { M with S := savedS M.S q ep st, L := savedS M.S q ep st } := ⟨hM.st, hM.c, rfl, savedS_size hM.sz⟩

/-- A Save on a device that may fail, and a crash behind it. -/
theorem saveF_gen {M : D} {q n ep : Nat} {st : List UInt8} (hc : M.C = []) (hl : M.L = M.S) (hsz : ∀ x ∈ M.S, x.size = 256) (hf : fitsB n st.length = true) (hq : q + n ≤ M.S.length) :
    (∃ s k, saveF M q ep st = (0, { M with S := savedS M.S q ep st, L := savedS M.S q ep st, C := [], st := s, k := k })) ∨
    ((saveF M q ep st).1 = 50 ∧ (saveF M q ep st).2.C.length ≤ 4096 + n ∧ ∀ keep, ((saveF M q ep st).2.crash keep).L = savedS M.S q ep st ∨
      ((∀ i, i ≤ q ∨ q + n ≤ i → ((saveF M q ep st).2.crash keep).L[i]? = M.S[i]?) ∧ ((saveF M q ep st).2.crash keep).L.length = M.S.length ∧ ∀ x ∈ ((saveF M q ep st).2.crash keep).L, x.size = 256)) := by
  have hfn : 1 ≤ n ∧ sect st.length ≤ n - 1 := by
    simp only [fitsB, decide_eq_true_eq, Int.toNat_natCast] at hf
    omega
  have hpl : q + 1 + (psecs st).length ≤ M.S.length := by rw [psecs_length]; omega
  obtain ⟨s1, k1, S1, h | ⟨j, h⟩⟩ := wrsF_gen (psecs st) M (q + 1) hpl (psecs_size st)
  · rw [hc, hl, List.nil_append, app_cws] at h
    obtain ⟨s2, k2, S2, h2 | ⟨j, h2⟩⟩ := wrsF_gen (psecs (headL ep st)) { M with S := puts M.S (q + 1) (psecs st), L := puts M.S (q + 1) (psecs st), C := [], st := s1, k := k1 } q (by simp only [puts_length, head_one]; omega) (psecs_size _)
    · left
      refine ⟨s2, k2, ?_⟩
      rw [saveF, h, if_neg (by simp)]
      refine h2.trans ?_
      simp [app_cws, savedS]
    · right
      rw [saveF, h, if_neg (by simp)]
      rw [h2]
      refine ⟨rfl, ?_, ?_⟩
      · show ([] ++ (cws q (psecs (headL ep st))).take j).length ≤ _
        rw [List.nil_append, List.length_take]
        obtain ⟨x, hx⟩ : ∃ x, psecs (headL ep st) = [x] := List.length_eq_one_iff.1 (head_one ep st)
        rw [hx]
        simp [cws]
        omega
      · intro keep
        obtain ⟨x, hx⟩ : ∃ x, psecs (headL ep st) = [x] := List.length_eq_one_iff.1 (head_one ep st)
        have hkk : kept keep ([] ++ (cws q (psecs (headL ep st))).take j) = [] ∨ kept keep ([] ++ (cws q (psecs (headL ep st))).take j) = [(q, x)] := by
          rw [List.nil_append, hx]
          cases j with
          | zero => left; simp [kept]
          | succ j =>
            have e : (cws q [x]).take (j + 1) = [] ++ [(q, x)] := by simp [cws]
            rw [e, kept_snoc]
            by_cases hq : keep[0]?.getD false = true
            · right; simp [kept, hq]
            · left; simp [kept, hq]
        rcases hkk with hkk | hkk
        · right
          have e : (({ M with S := S2, L := puts M.S (q + 1) (psecs st), C := [] ++ (cws q (psecs (headL ep st))).take j, st := s2, k := k2 } : D).crash keep).L = puts M.S (q + 1) (psecs st) := by
            show app _ (kept keep _) = _
            rw [hkk]
            rfl
          refine ⟨fun i hi => ?_, ?_, ?_⟩
          · refine (congrArg (·[i]?) e).trans ?_
            rw [puts_get _ _ _ _ hpl, if_neg (by rw [psecs_length]; omega)]
          · exact (congrArg List.length e).trans (puts_length _ _ _)
          · intro x hx
            exact puts_size _ _ _ hsz (psecs_size st) x (e ▸ hx)
        · left
          show app _ (kept keep _) = _
          rw [hkk, savedS, hx]
          rfl
  · right
    have hlay : saveF M q ep st = (50, { M with S := S1, C := M.C ++ (cws (q + 1) (psecs st)).take j, st := s1, k := k1 }) := by
      rw [saveF, h, if_pos (by simp)]
    have hm : ∀ keep, ∀ z ∈ kept keep ((cws (q + 1) (psecs st)).take j), q + 1 ≤ z.1 ∧ z.2 ∈ psecs st := fun keep z hz => cws_mem (List.mem_of_mem_take (kept_mem hz))
    have hlen : ∀ (xs : List ByteArray) (p : Nat), (cws p xs).length = xs.length := by
      intro xs
      induction xs with
      | nil => intro p; rfl
      | cons a r ih => intro p; simp [cws, ih]
    have hup : ∀ (xs : List ByteArray) (p : Nat), ∀ z ∈ cws p xs, z.1 < p + xs.length := by
      intro xs
      induction xs with
      | nil => intro p z hz; simp [cws] at hz
      | cons a r ih =>
        intro p z hz
        rcases List.mem_cons.1 hz with rfl | hz
        · simp
        · have := ih (p + 1) z hz
          simp only [List.length_cons]
          omega
    rw [hlay]
    refine ⟨rfl, ?_, ?_⟩
    · show (M.C ++ (cws (q + 1) (psecs st)).take j).length ≤ _
      rw [hc, List.nil_append, List.length_take, hlen, psecs_length]
      omega
    · intro keep
      right
      have e : (({ M with S := S1, C := M.C ++ (cws (q + 1) (psecs st)).take j, st := s1, k := k1 } : D).crash keep).L = app M.S (kept keep ((cws (q + 1) (psecs st)).take j)) := by
        show app M.L (kept keep (M.C ++ _)) = _
        rw [hc, hl, List.nil_append]
      refine ⟨fun i hi => ?_, ?_, ?_⟩
      · refine (congrArg (·[i]?) e).trans ?_
        refine app_other _ _ _ fun z hz => ?_
        have h1 := (hm keep z hz).1
        have h2 := hup _ _ z (List.mem_of_mem_take (kept_mem hz))
        rw [psecs_length] at h2
        omega
      · exact (congrArg List.length e).trans (app_length _ _)
      · intro x hx
        exact app_size _ _ hsz (fun z hz => psecs_size st _ (hm keep z hz).2) x (e ▸ hx)

/-- The newest state is the one that is loaded. -/
theorem load_newest {S : List ByteArray} {p n ep : Nat} {st : List UInt8} (h1 : slotR S (p + ep % 2 * n) n = some (ep, st)) (h2 : ∀ e s, slotR S (p + (ep + 1) % 2 * n) n = some (e, s) → e < ep) : loadF S p n = some (ep, st) := by
  rcases (by omega : ep % 2 = 0 ∨ ep % 2 = 1) with h0 | h0
  · have h3 : (ep + 1) % 2 = 1 := by omega
    rw [h0, Nat.zero_mul, Nat.add_zero] at h1
    rw [h3, Nat.one_mul] at h2
    have hq : slotQ S p n 0 = some (ep, st) := by simp [slotQ, h1, h0]
    rw [loadF, hq, slotQ]
    rcases hr : slotR S (p + n) n with _ | ⟨e, s⟩
    · rfl
    · have := h2 e s hr
      show better (some (ep, st)) (if e % 2 = 1 then some (e, s) else none) = _
      split
      · simp [better, this]
      · rfl
  · have h3 : (ep + 1) % 2 = 0 := by omega
    rw [h0, Nat.one_mul] at h1
    rw [h3, Nat.zero_mul, Nat.add_zero] at h2
    have hq : slotQ S (p + n) n 1 = some (ep, st) := by simp [slotQ, h1, h0]
    rw [loadF, hq, slotQ]
    rcases hr : slotR S p n with _ | ⟨e, s⟩
    · rfl
    · have := h2 e s hr
      show better (if e % 2 = 0 then some (e, s) else none) (some (ep, st)) = _
      split
      · simp only [better]
        rw [if_neg (by omega)]
      · rfl
theorem load_none {S : List ByteArray} {p n : Nat} (h1 : slotR S p n = none) (h2 : slotR S (p + n) n = none) : loadF S p n = none := by
  simp [loadF, slotQ, h1, h2, better]
end Go.Proofs.Ytecljiefljgfmaa
