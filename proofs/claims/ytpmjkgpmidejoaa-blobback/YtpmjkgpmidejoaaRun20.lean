/-
  Package blob's Open by its contract.
-/
import Derived.Test.YtpmjkgpmidejoaaRun19
import Derived.Test.YtpmjkgpmidejoaaRun09
namespace Go.Proofs.Ytpmjkgpmidejoaa
open Go.RowKit
open Al (Spc Kep turnB putB)

/-- Refs in memory. -/
def Refs (w : World) (a : Option Addr) (rs : List (Int × Int)) : Prop := (∀ r ∈ rs, r.1 ≤ 9223372036854775807 ∧ r.2 ≤ 9223372036854775807) ∧
  (rs = [] ∨ ∃ b off, a = some ⟨b, off, none⟩ ∧ b < w.heap.size ∧ ∀ j (h : j < rs.length), w.cell? ⟨b, off + j * 2, none⟩ = some (.int .i64 rs[j].1) ∧ w.cell? ⟨b, off + j * 2 + 1, none⟩ = some (.int .i64 rs[j].2))
theorem Refs.at {w : World} {a : Option Addr} {rs : List (Int × Int)} (h : Refs w a rs) {j : Nat} (hj : j < rs.length) : ∃ b off, a = some ⟨b, off, none⟩ ∧ ∀ w', Below w.heap.size w w' → w'.cell? ⟨b, off + j * 2, none⟩ = some (.int .i64 rs[j].1) ∧ w'.cell? ⟨b, off + j * 2 + 1, none⟩ = some (.int .i64 rs[j].2) := by
  rcases h.2 with h0 | ⟨b, off, rfl, hb, hc⟩
  · rw [h0] at hj; simp at hj
  · exact ⟨b, off, rfl, fun w' hw => ⟨(hw.cell (p := ⟨b, off + j * 2, none⟩) hb).trans (hc j hj).1, (hw.cell (p := ⟨b, off + j * 2 + 1, none⟩) hb).trans (hc j hj).2⟩⟩
/-- What the Refs take, one by one. -/
def markAll : List Bool → List (Int × Int) → Option (List Bool)
  | L, [] => some L
  | L, r :: rs => if markR L r.1 r.2 then markAll (markL L r.1 r.2) rs else none
theorem markL_len {L : List Bool} {st sz : Int} : (markL L st sz).length = L.length := by
  unfold markL
  split
  · rfl
  · split
    · rename_i h
      obtain ⟨h1, h2, h3, _⟩ := Al.turnB_iff.1 h
      exact Al.putB_len _ (by omega)
    · rfl
theorem markAll_len : ∀ (rs : List (Int × Int)) (L L' : List Bool), markAll L rs = some L' → L'.length = L.length
  | [], L, L', h => by simp [markAll] at h; rw [h]
  | r :: rs, L, L', h => by
    rw [markAll] at h
    split at h
    · rw [markAll_len rs _ _ h, markL_len]
    · cases h

/-- What Open tells. -/
def OpenR (w : World) (d fr : Nat) (R : Option (List Bool)) (e : Ending) (w' : World) : Prop :=
  (∃ L b s, R = some L ∧ e = .returned (.tuple #[.pointer (some ⟨b, 0, none⟩), .int .i64 0]) ∧ Blb w' b d s fr ∧ Spc w' s L ∧ w.heap.size ≤ b ∧ w.heap.size ≤ s ∧ b ≠ s) ∨
       (R = none ∧ e = .returned (.tuple #[.pointer none, .int .i64 62]))

set_option maxHeartbeats 4000000 in
set_option maxRecDepth 100000 in
theorem bopen_ok (w : World) (d fr n : Nat) (F : Nat → Prop) (M : D) (hd : Dev w F d M) (hn : fr + n ≤ M.L.length) (a : Option Addr) (rs : List (Int × Int)) (cap : Nat) (hr : Refs w a rs) (hrl : rs.length ≤ 1000000) :
    Calls Try.prog 11 #[.pointer (some ⟨d, 0, none⟩), .int .i64 (fr : Int), .int .i64 (n : Int), .slice a rs.length cap] w fun e w' => Below w.heap.size w w' ∧
      OpenR w d fr (markAll (List.replicate n false) rs) e w' := by
  have htop := hd.1.top
  have hwi := within_yes d fr n w F M hd hn
  have hnew := Al.new_ok w n (by omega)
  have HBD : Hid (∀ r ∈ rs, r.1 ≤ 9223372036854775807 ∧ r.2 ≤ 9223372036854775807) := hr.1
  have HRA := fun {j : Nat} (hj : j < rs.length) => hr.at hj
  obtain ⟨R, hR⟩ : ∃ R, R = markAll (List.replicate n false) rs := ⟨_, rfl⟩
  rw [← hR]
  have HR : Hid (R = markAll (List.replicate n false) rs) := hR
  obtain ⟨m, hm⟩ : ∃ m, m = rs.length := ⟨_, rfl⟩
  rw [← hm] at hrl ⊢
  have HM : Hid (m = rs.length) := hm
  have HRA2 : Hid (∀ j (hj : j < rs.length), ∃ b off, a = some ⟨b, off, none⟩ ∧ ∀ w', Below w.heap.size w w' → w'.cell? ⟨b, off + j * 2, none⟩ = some (.int .i64 rs[j].1) ∧ w'.cell? ⟨b, off + j * 2 + 1, none⟩ = some (.int .i64 rs[j].2)) := fun j hj => HRA hj
  clear hd hr hR hm HRA
  go_enter Try.func11, Try.ntmps11
  go_wp2_with (first
    | (go_at_call 35; refine Calls.mono hwi ?_; rintro e w1 ⟨rfl, rfl⟩)
    | (go_at_call 36; refine Calls.mono hnew ?_; rintro e w1 ⟨rfl, hs1, hb1⟩))
  have HI : Hid (Spc w1 w.heap.size (List.replicate n false) ∧ Below w.heap.size w w1) := ⟨hs1, hb1⟩
  clear hs1 hb1 hwi hnew
  go_loopw [29] (fun i wr => ∃ (k : Nat) (L : List Bool), k ≤ m ∧ i = .int .i64 k ∧ Spc wr w.heap.size L ∧ Below w.heap.size w wr ∧ R = markAll L (rs.drop k)) (fun i _ => m - (intOf i).toNat)
  case atStart => exact ⟨0, _, Nat.zero_le _, rfl, HI.out.1, HI.out.2, HR.out⟩
  case round =>
    obtain ⟨k, L, hk, rfl, hsp, hbw, hrk⟩ := hrel
    clear HI HR
    by_cases hlt : k < m
    · have hki : (k : Int) < (m : Int) := by omega
      have hkl : k < rs.length := by have := HM.out; omega
      obtain ⟨bb, off, rfl, hcc⟩ := HRA2.out k hkl
      obtain ⟨c0, c1⟩ := hcc wr hbw
      obtain ⟨hb1, hb2⟩ := HBD.out _ (List.getElem_mem hkl)
      rw [List.drop_eq_getElem_cons hkl, markAll] at hrk
      obtain ⟨st, hst⟩ : ∃ st, st = rs[k].1 := ⟨_, rfl⟩
      obtain ⟨sz, hsz⟩ : ∃ sz, sz = rs[k].2 := ⟨_, rfl⟩
      rw [← hst, ← hsz] at hrk
      rw [← hst] at c0 hb1
      rw [← hsz] at c1 hb2
      have hA : Below wr.heap.size wr (wr.alloc (.cells #[.int .i64 st, .int .i64 sz] 40)) := (Below.refl _ wr).alloc (Nat.le_refl _) _
      have htm := turn_mark (wr.alloc (.cells #[.int .i64 st, .int .i64 sz] 40)) w.heap.size L st sz (hsp.below hA) hb1 hb2
      have HN : Hid (∀ w2, Spc w2 w.heap.size (markL L st sz) → Kep (fun k => k ≠ w.heap.size) (wr.alloc (.cells #[.int .i64 st, .int .i64 sz] 40)) w2 → Below w.heap.size w w2) := fun w2 _ q => (hbw.trans (hA.mono hbw.size)).trans ((q.mono (K' := fun k => k < w.heap.size) fun k _ h2 => by omega).below (by have := hbw.size; simp; omega))
      by_cases hmk : markR L st sz = true
      · rw [if_pos hmk] at hrk
        rw [hmk, if_pos rfl] at htm
        have HRK : Hid (R = markAll (markL L st sz) (rs.drop (k + 1))) := hrk
        clear hrk hsp hbw hA hst hsz hcc hmk hkl HRA2
        go_wp2_with (go_at_call 37; refine Calls.mono htm ?_; rintro e w2 ⟨rfl, q1, q2⟩; have HQ : Hid (Spc w2 w.heap.size (markL L st sz) ∧ Below w.heap.size w w2) := ⟨q1, HN.out w2 q1 q2⟩; clear q1 q2)
        go_roundw
        case rel => exact ⟨k + 1, _, by omega, by go_num, HQ.out.1, HQ.out.2, HRK.out⟩
        case measure => simp [intOf]; omega
      · rw [if_neg hmk] at hrk
        rw [if_neg hmk] at htm
        have HRK : Hid (R = none) := hrk
        clear hrk hsp hbw hA hst hsz hcc hmk hkl HRA2
        go_wp2_with (go_at_call 37; refine Calls.mono htm ?_; rintro e w2 ⟨rfl, q1, q2⟩; have HQ : Hid (Spc w2 w.heap.size (markL L st sz) ∧ Below w.heap.size w w2) := ⟨q1, HN.out w2 q1 q2⟩; clear q1 q2)
        go_ret2
        exact ⟨HQ.out.2, .inr ⟨HRK.out, rfl⟩⟩
    · obtain rfl : k = m := by omega
      have hki : ¬ (k : Int) < (k : Int) := by omega
      rw [HM.out, List.drop_length, markAll] at hrk
      have HQ : Hid (Spc wr w.heap.size L ∧ Below w.heap.size w wr ∧ R = some L) := ⟨hsp, hbw, hrk⟩
      clear hsp hbw hrk
      go_wp2
      go_ret2
      have hA : Below wr.heap.size wr (wr.alloc (.cells #[.pointer (some ⟨d, 0, none⟩), .int .i64 (fr : Int), .pointer (some ⟨w.heap.size, 0, none⟩)] 91)) := (Below.refl _ wr).alloc (Nat.le_refl _) _
      have hz := HQ.out.2.1.size
      have hsl := HQ.out.1.lt
      exact ⟨HQ.out.2.1.trans (hA.mono hz), .inl ⟨L, wr.heap.size, w.heap.size, HQ.out.2.2, rfl, heap_alloc_new wr _, HQ.out.1.below hA, hz, Nat.le_refl _, by omega⟩⟩
end Go.Proofs.Ytpmjkgpmidejoaa
/-
  Sectors laid one behind the other on a device told by plain lists: where it lives, and where it fails and is crashed.
-/
namespace Go.Proofs.Ytpmjkgpmidejoaa

/-- Sectors laid from one on, and the writes that lay them. -/
def puts (S : List ByteArray) (p : Nat) : List ByteArray → List ByteArray
  | [] => S
  | b :: r => puts (S.set p b) (p + 1) r
def cws (p : Nat) : List ByteArray → List (Nat × ByteArray)
  | [] => []
  | b :: r => (p, b) :: cws (p + 1) r
theorem puts_length : ∀ (xs : List ByteArray) (S : List ByteArray) (p : Nat), (puts S p xs).length = S.length
  | [], _, _ => rfl
  | b :: r, S, p => by rw [puts, puts_length r]; simp
theorem app_append (L : List ByteArray) (C C' : List (Nat × ByteArray)) : app L (C ++ C') = app (app L C) C' := by simp [app]
theorem app_cws : ∀ (xs : List ByteArray) (L : List ByteArray) (p : Nat), app L (cws p xs) = puts L p xs
  | [], _, _ => rfl
  | b :: r, L, p => by rw [cws, puts]; exact app_cws r (L.set p b) (p + 1)
theorem puts_get : ∀ (xs : List ByteArray) (S : List ByteArray) (p i : Nat), p + xs.length ≤ S.length → (puts S p xs)[i]? = if p ≤ i ∧ i < p + xs.length then xs[i - p]? else S[i]?
  | [], S, p, i, _ => by rw [puts, if_neg (by simp only [List.length_nil]; omega)]
  | b :: r, S, p, i, h => by
    simp only [List.length_cons] at h
    rw [puts, puts_get r (S.set p b) (p + 1) i (by simp; omega)]
    by_cases hi : p = i
    · subst hi
      rw [if_neg (by omega), if_pos (by simp), List.getElem?_set_self (by omega), Nat.sub_self]; rfl
    · by_cases h2 : p ≤ i ∧ i < p + (b :: r).length
      · simp only [List.length_cons] at h2
        rw [if_pos (by omega), if_pos (by simp; omega), show i - p = (i - (p + 1)) + 1 from by omega]; rfl
      · simp only [List.length_cons] at h2
        rw [if_neg (by omega), if_neg (by simp; omega), List.getElem?_set_ne hi]
theorem puts_size {z : Nat} : ∀ (xs : List ByteArray) (S : List ByteArray) (p : Nat), (∀ x ∈ S, x.size = z) → (∀ x ∈ xs, x.size = z) → ∀ x ∈ puts S p xs, x.size = z
  | [], _, _, h, _ => h
  | b :: r, S, p, h, hx => by
    refine puts_size r (S.set p b) (p + 1) ?_ fun x q => hx x (by simp [q])
    intro x q
    rcases List.mem_or_eq_of_mem_set q with q | rfl
    · exact h x q
    · exact hx x (by simp)

theorem wr_live {M : D} (h0 : M.st = 0) {p : Nat} (hp : p < M.S.length) {b : ByteArray} (hb : b.size = 256) : M.wr (p : Int) b = (0, { M with C := M.C ++ [(p, b)], S := M.S.set p b }) := by
  have hb0 : M.burn = (0, M) := by rw [D.burn, if_pos h0]
  rw [D.wr, if_neg (by rintro ⟨_, q⟩; exact q ⟨by omega, by omega, hb⟩), hb0]
  simp
theorem wrs_live : ∀ (xs : List ByteArray) (M : D) (p : Nat), M.st = 0 → p + xs.length ≤ M.S.length → (∀ x ∈ xs, x.size = 256) → wrs M p xs = (0, { M with S := puts M.S p xs, C := M.C ++ cws p xs })
  | [], M, p, _, _, _ => by rw [wrs, cws, puts, List.append_nil]
  | b :: r, M, p, h0, hp, hx => by
    simp only [List.length_cons] at hp
    rw [wrs, wr_live h0 (by omega) (hx b (by simp)), if_neg (by simp)]
    refine (wrs_live r { M with C := M.C ++ [(p, b)], S := M.S.set p b } (p + 1) h0 (by simp; omega) fun x q => hx x (by simp [q])).trans ?_
    simp [puts, cws]
theorem flush_live {M : D} (h0 : M.st = 0) : M.flush = (0, { M with L := app M.L M.C, C := [] }) := by
  have hb0 : M.burn = (0, M) := by rw [D.burn, if_pos h0]
  rw [D.flush, hb0]
  simp
theorem wrsF_live {xs : List ByteArray} {M : D} {p : Nat} (h0 : M.st = 0) (hp : p + xs.length ≤ M.S.length) (hx : ∀ x ∈ xs, x.size = 256) : wrsF M p xs = (0, { M with S := puts M.S p xs, L := app M.L (M.C ++ cws p xs), C := [] }) := by
  rw [wrsF, wrs_live xs M p h0 hp hx, if_neg (by simp)]
  exact flush_live (M := { M with S := puts M.S p xs, C := M.C ++ cws p xs }) h0

/-- A device that lives, and on which nothing waits. -/
structure Calm (M : D) : Prop where
  st : M.st = 0
  c : M.C = []
  l : M.L = M.S
  sz : ∀ x ∈ M.S, x.size = 256

theorem fsecB_size {P : List UInt8} {n j : Nat} (hP : P.length = 256 * n) (hj : j < n) : (fsecB P j).size = 256 := by
  show (fsec P j).toArray.size = _
  rw [List.size_toArray, fsec_length hP hj]
theorem zsec_size : zsec.size = 256 := by
  show (List.replicate 256 (0 : UInt8)).toArray.size = _
  rw [List.size_toArray, List.length_replicate]
theorem fsecs_length (P : List UInt8) (n : Nat) : (fsecs P n).length = n := by simp [fsecs]
theorem burn_gen (M : D) : ∃ e st k, M.burn = (e, { M with st := st, k := k }) ∧ (e = 0 ∨ e = 50) := by
  unfold D.burn
  split
  · exact ⟨0, M.st, M.k, rfl, .inl rfl⟩
  · split
    · exact ⟨0, M.st, M.k - 1, rfl, .inl rfl⟩
    · exact ⟨50, 2, M.k, rfl, .inr rfl⟩
theorem wr_gen (M : D) {p : Nat} (hp : p < M.S.length) {b : ByteArray} (hb : b.size = 256) : ∃ st k, M.wr (p : Int) b = (0, { M with C := M.C ++ [(p, b)], S := M.S.set p b, st := st, k := k }) ∨ M.wr (p : Int) b = (50, { M with st := st, k := k }) := by
  obtain ⟨e, st, k, hbu, he⟩ := burn_gen M
  refine ⟨st, k, ?_⟩
  rw [D.wr, if_neg (by rintro ⟨_, q⟩; exact q ⟨by omega, by omega, hb⟩), hbu]
  rcases he with rfl | rfl
  · left; simp
  · right; simp
theorem wrs_gen : ∀ (xs : List ByteArray) (M : D) (p : Nat), p + xs.length ≤ M.S.length → (∀ x ∈ xs, x.size = 256) →
    ∃ st k S, wrs M p xs = (0, { M with S := puts M.S p xs, C := M.C ++ cws p xs, st := st, k := k }) ∨ ∃ j, wrs M p xs = (50, { M with S := S, C := M.C ++ (cws p xs).take j, st := st, k := k })
  | [], M, p, _, _ => ⟨M.st, M.k, [], .inl (by rw [wrs, cws, puts, List.append_nil])⟩
  | b :: r, M, p, hp, hx => by
    simp only [List.length_cons] at hp
    obtain ⟨st, k, h | h⟩ := wr_gen M (p := p) (by omega) (hx b (by simp))
    · obtain ⟨st2, k2, S2, h2 | ⟨j, h2⟩⟩ := wrs_gen r { M with C := M.C ++ [(p, b)], S := M.S.set p b, st := st, k := k } (p + 1) (by simp; omega) fun x q => hx x (by simp [q])
      · refine ⟨st2, k2, S2, .inl ?_⟩
        rw [wrs, h, if_neg (by simp)]
        refine h2.trans ?_
        simp [puts, cws]
      · refine ⟨st2, k2, S2, .inr ⟨j + 1, ?_⟩⟩
        rw [wrs, h, if_neg (by simp)]
        refine h2.trans ?_
        simp [cws]
    · refine ⟨st, k, M.S, .inr ⟨0, ?_⟩⟩
      rw [wrs, h, if_pos (by simp)]
      simp
theorem flush_gen (M : D) : ∃ st k, M.flush = (0, { M with L := app M.L M.C, C := [], st := st, k := k }) ∨ M.flush = (50, { M with st := st, k := k }) := by
  obtain ⟨e, st, k, hbu, he⟩ := burn_gen M
  refine ⟨st, k, ?_⟩
  rw [D.flush, hbu]
  rcases he with rfl | rfl
  · left; simp
  · right; simp
theorem wrsF_gen (xs : List ByteArray) (M : D) (p : Nat) (hp : p + xs.length ≤ M.S.length) (hx : ∀ x ∈ xs, x.size = 256) :
    ∃ st k S, wrsF M p xs = (0, { M with S := puts M.S p xs, L := app M.L (M.C ++ cws p xs), C := [], st := st, k := k }) ∨ ∃ j, wrsF M p xs = (50, { M with S := S, C := M.C ++ (cws p xs).take j, st := st, k := k }) := by
  obtain ⟨st, k, S, h | ⟨j, h⟩⟩ := wrs_gen xs M p hp hx
  · obtain ⟨st2, k2, h2 | h2⟩ := flush_gen { M with S := puts M.S p xs, C := M.C ++ cws p xs, st := st, k := k }
    · exact ⟨st2, k2, S, .inl (by rw [wrsF, h, if_neg (by simp)]; exact h2)⟩
    · refine ⟨st2, k2, puts M.S p xs, .inr ⟨(cws p xs).length, ?_⟩⟩
      rw [wrsF, h, if_neg (by simp)]
      refine h2.trans ?_
      rw [List.take_length]
  · exact ⟨st, k, S, .inr ⟨j, by rw [wrsF, h, if_pos (by simp)]⟩⟩

theorem kept_mem {keep : List Bool} {C : List (Nat × ByteArray)} {p : Nat × ByteArray} (h : p ∈ kept keep C) : p ∈ C := by
  unfold kept at h
  obtain ⟨q, hq, rfl⟩ := List.mem_map.1 h
  have := (List.mem_filter.1 hq).1
  exact List.fst_mem_of_mem_zipIdx this
theorem cws_mem : ∀ {xs : List ByteArray} {p : Nat} {q : Nat × ByteArray}, q ∈ cws p xs → p ≤ q.1 ∧ q.2 ∈ xs
  | [], _, _, h => by simp [cws] at h
  | b :: r, p, q, h => by
    rcases List.mem_cons.1 h with rfl | h
    · exact ⟨Nat.le_refl _, by simp⟩
    · have := cws_mem h
      exact ⟨by omega, by simp [this.2]⟩
theorem app_other : ∀ (C : List (Nat × ByteArray)) (L : List ByteArray) (i : Nat), (∀ p ∈ C, p.1 ≠ i) → (app L C)[i]? = L[i]?
  | [], _, _, _ => rfl
  | p :: r, L, i, h => by
    show (app (L.set p.1 p.2) r)[i]? = _
    rw [app_other r _ i fun q hq => h q (by simp [hq]), List.getElem?_set_ne (h p (by simp))]
theorem app_size {z : Nat} : ∀ (C : List (Nat × ByteArray)) (L : List ByteArray), (∀ x ∈ L, x.size = z) → (∀ p ∈ C, p.2.size = z) → ∀ x ∈ app L C, x.size = z
  | [], _, h, _ => h
  | p :: r, L, h, hc => by
    refine app_size r (L.set p.1 p.2) ?_ fun q hq => hc q (by simp [hq])
    intro x q
    rcases List.mem_or_eq_of_mem_set q with q | rfl
    · exact h x q
    · exact hc p (by simp)

theorem crash_calm {M : D} {keep : List Bool} (hs : ∀ x ∈ (M.crash keep).L, x.size = 256) : Calm (M.crash keep) := ⟨rfl, rfl, rfl, hs⟩
/-- The sectors of a frame, where they lie. -/
def Laid (S : List ByteArray) (p : Nat) (P : List UInt8) (n : Nat) : Prop := ∀ j, j < n → S[p + j]? = some (fsecB P j)
theorem secs_laid {S : List ByteArray} {p n : Nat} {P : List UInt8} (h : Laid S p P n) : ∀ k, k ≤ n → secs S p k = P.take (256 * k)
  | 0, _ => by simp [secs]
  | k + 1, hk => by
    have hx := h k (by omega)
    obtain ⟨hlt, he⟩ := List.getElem?_eq_some_iff.1 hx
    rw [secs_succ hlt, secs_laid h k (by omega), he, show 256 * (k + 1) = 256 * k + 256 from by omega, List.take_add]
    rfl
theorem secs_same {S S' : List ByteArray} {p k : Nat} (h : ∀ j, j < k → S'[p + j]? = S[p + j]?) : secs S' p k = secs S p k := by
  unfold secs
  congr 1
  apply List.ext_getElem?
  intro i
  by_cases hi : i < k
  · rw [List.getElem?_take_of_lt hi, List.getElem?_take_of_lt hi, List.getElem?_drop, List.getElem?_drop, h i hi]
  · rw [List.getElem?_take_eq_none (by omega), List.getElem?_take_eq_none (by omega)]
end Go.Proofs.Ytpmjkgpmidejoaa
