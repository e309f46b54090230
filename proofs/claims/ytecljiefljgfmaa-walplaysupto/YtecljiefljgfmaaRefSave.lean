/-
  The document's Save by its contract, the two devices side by side.
-/
import Derived.Test.YtecljiefljgfmaaRun11
import Derived.Test.YtecljiefljgfmaaRun12
import Derived.Test.YtecljiefljgfmaaLawFits
namespace Go.Proofs.Ytecljiefljgfmaa
open Go.RowKit

/-- The document's writes one behind the other, up to the first that fails. -/
def rwrs (N : R) (p : Nat) : List ByteArray → Int × R
  | [] => (0, N)
  | b :: r => if (N.wr (p : Int) b).1 ≠ 0 then N.wr (p : Int) b else rwrs (N.wr (p : Int) b).2 (p + 1) r
def rwrsF (N : R) (p : Nat) (xs : List ByteArray) : Int × R := if (rwrs N p xs).1 ≠ 0 then rwrs N p xs else (rwrs N p xs).2.flush
def rsaveF (N : R) (q ep : Nat) (st : List UInt8) : Int × R :=
  if (rwrsF N (q + 1) (psecs st)).1 ≠ 0 then rwrsF N (q + 1) (psecs st) else rwrsF (rwrsF N (q + 1) (psecs st)).2 q (psecs (headL ep st))
theorem sim_wrs : ∀ (xs : List ByteArray) {M : D} {N : R} (p : Nat), Sim M N → M.Ok → (wrs M p xs).1 = (rwrs N p xs).1 ∧ Sim (wrs M p xs).2 (rwrs N p xs).2 ∧ (wrs M p xs).2.Ok
  | [], _, _, _, h, hok => ⟨rfl, h, hok⟩
  | b :: r, M, N, p, h, hok => by
    obtain ⟨e, h2⟩ := sim_wr h hok (p : Int) b
    have hok2 := hok.wr (p : Int) b
    rw [wrs, rwrs]
    by_cases h0 : (M.wr (p : Int) b).1 = 0
    · rw [if_neg (by simp [h0]), if_neg (by rw [← e]; simp [h0])]
      exact sim_wrs r (p + 1) h2 hok2
    · rw [if_pos h0, if_pos (by rw [← e]; exact h0)]
      exact ⟨e, h2, hok2⟩
theorem sim_wrsF (xs : List ByteArray) {M : D} {N : R} (p : Nat) (h : Sim M N) (hok : M.Ok) : (wrsF M p xs).1 = (rwrsF N p xs).1 ∧ Sim (wrsF M p xs).2 (rwrsF N p xs).2 ∧ (wrsF M p xs).2.Ok := by
  obtain ⟨e, h2, hok2⟩ := sim_wrs xs p h hok
  rw [wrsF, rwrsF]
  by_cases h0 : (wrs M p xs).1 = 0
  · rw [if_neg (by simp [h0]), if_neg (by rw [← e]; simp [h0])]
    obtain ⟨e3, h3⟩ := sim_flush h2 hok2
    exact ⟨e3, h3, hok2.flush⟩
  · rw [if_pos h0, if_pos (by rw [← e]; exact h0)]
    exact ⟨e, h2, hok2⟩
theorem sim_save {M : D} {N : R} (q ep : Nat) (st : List UInt8) (h : Sim M N) (hok : M.Ok) : (saveF M q ep st).1 = (rsaveF N q ep st).1 ∧ Sim (saveF M q ep st).2 (rsaveF N q ep st).2 ∧ (saveF M q ep st).2.Ok := by
  obtain ⟨e, h2, hok2⟩ := sim_wrsF (psecs st) (q + 1) h hok
  rw [saveF, rsaveF]
  by_cases h0 : (wrsF M (q + 1) (psecs st)).1 = 0
  · rw [if_neg (by simp [h0]), if_neg (by rw [← e]; simp [h0])]
    exact sim_wrsF _ q h2 hok2
  · rw [if_pos h0, if_pos (by rw [← e]; exact h0)]
    exact ⟨e, h2, hok2⟩
theorem rwr_cap (N : R) (i : Int) (b : ByteArray) : (N.wr i b).2.W.length ≤ N.W.length + 1 := by
  obtain ⟨_, e2⟩ := N.burn_L
  unfold R.wr
  split
  · exact Nat.le_succ _
  · split
    · exact Nat.le_succ _
    · split
      · rw [e2]; omega
      · show (N.W ++ [(i.toNat, b)]).length ≤ _; simp
theorem rflush_cap (N : R) : N.flush.2.W.length ≤ N.W.length := by
  obtain ⟨_, e2⟩ := N.burn_L
  unfold R.flush
  split
  · exact Nat.le_refl _
  · split
    · rw [e2]; exact Nat.le_refl _
    · simp
theorem rflush_ok (N : R) (h : N.flush.1 = 0) : N.flush.2.W = [] := by
  unfold R.flush at h ⊢
  split at h
  · simp at h
  · split at h
    · rename_i q; exact absurd h q
    · rename_i q1 q2
      rw [if_neg q1, if_neg q2]
theorem rwrsF_ok (N : R) (p : Nat) (xs : List ByteArray) (h : (rwrsF N p xs).1 = 0) : (rwrsF N p xs).2.W = [] := by
  unfold rwrsF at h ⊢
  split at h
  · rename_i q; exact absurd h q
  · rename_i q
    rw [if_neg q]
    exact rflush_ok _ h

set_option maxHeartbeats 4000000 in
set_option maxRecDepth 20000 in
theorem p_rsave {w wr : World} {d r : Nat} {K : Nat → Prop} {M : D} {N : R} (h : Pair w wr d r K M N) (p n ep q : Nat) (a : Option Addr) (st : List UInt8) (cap : Nat) (hL : N.L.length ≤ 4096) (hr : regB N.L.length p n = true) (hf : fitsB n st.length = true) (hq : q = p + ep % 2 * n) (hep : ep < 18446744073709551616)
    (hb : Bytes w a st) (hno : a = none → cap = 0) (hW : N.W.length ≤ 10000) :
    Calls Try.prog 32 #[.pointer (some ⟨r, 0, none⟩), .int .i64 (p : Int), .int .i64 (n : Int), .int .u64 (ep : Int), .slice a st.length cap] wr fun e w' => e = .returned (.int .i64 (rsaveF N q ep st).1) ∧ Pair w w' d r K M (rsaveF N q ep st).2 ∧ ∀ j, K j → w'.heap[j]? = wr.heap[j]? := by
  have hrb := hr
  simp only [regB, decide_eq_true_eq] at hrb
  have hrg := region_any h p n (by omega) (by omega) (by omega) hL
  rw [hr] at hrg
  have hfn : sect st.length ≤ n - 1 := by
    simp only [fitsB, decide_eq_true_eq, Int.toNat_natCast] at hf
    omega
  have hsl : st.length ≤ 256 * (n - 1) := Nat.le_trans (sect_le _) (Nat.mul_le_mul_left _ hfn)
  have HFI : Hid (∀ wx, Calls Try.prog 36 #[.int .i64 (n : Int), .int .i64 (st.length : Int)] wx fun e w' => e = .returned (.bool true) ∧ wx = w') := fun wx => by
    have := refFits_any n st.length wx (by omega) (by omega)
    rwa [hf] at this
  have hnb : n ≤ 4096 := by omega
  have hpb : p ≤ 4096 := by omega
  have hsb : st.length ≤ 1048576 := by omega
  have hq4 : q ≤ 8192 := by
    rw [hq]
    rcases (by omega : ep % 2 = 0 ∨ ep % 2 = 1) with h0 | h0 <;> rw [h0] <;> omega
  obtain ⟨c, hc⟩ : ∃ c, c = sect st.length := ⟨_, rfl⟩
  have HPS : Hid (∀ k (hk : k < c), (psecs st).drop k = fsecB (padTo st) k :: (psecs st).drop (k + 1)) := (by
    intro k hk
    rw [List.drop_eq_getElem_cons (by rw [psecs_length, ← hc]; exact hk)]
    congr 1
    simp [psecs, fsecs])
  have HPL : Hid ((psecs st).length = c) := (show _ = _ from by rw [psecs_length, hc])
  have hcl : 256 * c < st.length + 256 := by rw [hc]; unfold sect; omega
  have hcl2 : st.length ≤ 256 * c := by rw [hc]; exact sect_le _
  have HPT : Hid (∀ wx k, Below w.heap.size w wx → k < c → Calls Try.prog 51 #[.slice a st.length cap, .int .i64 (k : Int)] wx fun e w' => e = .returned (.string (fsecB (padTo st) k)) ∧ Below wx.heap.size wx w') := fun wx k hx hk => part_any a st cap k wx (hb.below hx (Nat.le_refl _)) (by omega) (by omega)
  have HHD : Hid (∀ wx, Below w.heap.size w wx → Calls Try.prog 64 #[.int .u64 (ep : Int), .slice a st.length cap] wx fun e w' => ∃ g cg, e = .returned (.slice (some ⟨g, 0, none⟩) 24 cg) ∧ Below wx.heap.size wx w' ∧ Calls Try.prog 51 #[.slice (some ⟨g, 0, none⟩) 24 cg, .int .i64 0] w' fun e w'' => e = .returned (.string (fsecB (padTo (headL ep st)) 0)) ∧ Below w'.heap.size w' w'') := (by
    intro wx hx
    refine Calls.mono (refHead_any ep a st cap wx hep (hb.below hx (Nat.le_refl _)) (by omega) hno) ?_
    rintro e w' ⟨v, rfl, ho, hbx⟩
    obtain ⟨g, cg, rfl, _⟩ := ho.addr (by rw [headL_length]; omega)
    obtain ⟨a', c', he, hby⟩ := ho.bytes
    simp only [Value.slice.injEq] at he
    obtain ⟨rfl, _⟩ := he
    have := part_any (some ⟨g, 0, none⟩) (headL ep st) cg 0 w' hby (by rw [headL_length]; omega) (by rw [headL_length]; omega)
    rw [headL_length] at this ⊢
    exact ⟨g, cg, rfl, hbx, this⟩)
  have HH1 : Hid (psecs (headL ep st) = [fsecB (padTo (headL ep st)) 0]) := (show _ = _ from by rw [psecs, headL_length]; rfl)
  have HP0 : Hid (∀ wx, Below wr.heap.size wr wx → Pair w wx d r K M N ∧ ∀ j, K j → wx.heap[j]? = wr.heap[j]?) := (by
    intro wx hx
    have hKl : ∀ j, K j → j < wr.heap.size := by
      obtain ⟨F, G, _, _, _, _, h5, _⟩ := h
      exact h5
    exact ⟨h.below hx, fun j hj => hx.block j (hKl j hj)⟩)
  obtain ⟨m, hm⟩ : ∃ m, m = st.length := ⟨_, rfl⟩
  rw [← hm] at HFI HPT HHD hsb hcl hcl2 ⊢
  obtain ⟨ws, hws⟩ : ∃ ws, ws = wr := ⟨_, rfl⟩
  rcases (by omega : ep % 2 = 0 ∨ ep % 2 = 1) with h0 | h0
  · have hrem : (ep : Int) % 2 = 0 := by omega
    obtain rfl : q = p := by rw [hq, h0]; omega
    clear h hf hq hb hrb hr h0 hfn hsl hc hm
    go_enter Try.func32, Try.ntmps32
    go_wp2_with (first
      | (go_at_call 63; refine Calls.mono hrg ?_; rintro e w1 ⟨rfl, hb1⟩; have hfi := HFI.out w1)
      | (go_at_call 36; refine Calls.mono hfi ?_; rintro e w1' ⟨rfl, rfl⟩))
    obtain ⟨hP1, hK1⟩ := HP0.out w1 hb1
    have HP1 : Hid (Pair w w1 d r K M N ∧ ∀ j, K j → w1.heap[j]? = ws.heap[j]?) := ⟨hP1, by rw [hws]; exact hK1⟩
    clear hP1 hK1 HP0 hb1 hrg hfi HFI
    have HWS : Hid (ws = wr) := hws
    clear hws hrem
    go_loopw [12] (fun i wq => ∃ (k : Nat) (N' : R), k ≤ c ∧ i = .int .i64 k ∧ Pair w wq d r K M N' ∧ (∀ j, K j → wq.heap[j]? = ws.heap[j]?) ∧ N'.W.length ≤ N.W.length + k ∧ rwrs N (q + 1) (psecs st) = rwrs N' (q + 1 + k) ((psecs st).drop k)) (fun i _ => c - (intOf i).toNat)
    case atStart => exact ⟨0, N, Nat.zero_le _, rfl, HP1.out.1, HP1.out.2, by omega, rfl⟩
    case round =>
      obtain ⟨k, N', hk, rfl, hP, hKs, hNW, hwr⟩ := hrel
      by_cases hlt : k < c
      · rw [HPS.out k hlt, rwrs] at hwr
        obtain ⟨t, ht⟩ : ∃ t, t = 256 * k := ⟨_, rfl⟩
        have ht2 : (256 : Int) * (k : Int) = (t : Int) := by omega
        have ht3 : (t : Int) < (m : Int) := by omega
        obtain ⟨u, hu⟩ : ∃ u, u = q + 1 + k := ⟨_, rfl⟩
        have hu2 : (q : Int) + 1 + (k : Int) = (u : Int) := by omega
        have hk4 : k ≤ 4097 := by omega
        rw [← hu] at hwr
        have hpt := HPT.out wr k hP.old hlt
        have hcap' := rwr_cap N' (u : Int) (fsecB (padTo st) k)
        obtain ⟨X, hX⟩ : ∃ X, X = fsecB (padTo st) k := ⟨_, rfl⟩
        rw [← hX] at hwr hpt hcap'
        obtain ⟨ev, hev⟩ : ∃ ev, ev = (N'.wr (u : Int) X).1 := ⟨_, rfl⟩
        obtain ⟨N2, hN2⟩ : ∃ N2, N2 = (N'.wr (u : Int) X).2 := ⟨_, rfl⟩
        have hpair : N'.wr (u : Int) X = (ev, N2) := by rw [hev, hN2]
        have HWR : Hid (∀ w2, Below wr.heap.size wr w2 → Calls Try.prog 22 #[.pointer (some ⟨r, 0, none⟩), .int .i64 (u : Int), .string X] w2 fun e w3 => e = .returned (.int .i64 ev) ∧ Pair w w3 d r K M N2 ∧ ∀ j, K j → w3.heap[j]? = ws.heap[j]?) := (by
          intro w2 hb2
          have hKl : ∀ j, K j → j < wr.heap.size := by
            obtain ⟨F, G, _, _, _, _, h5, _⟩ := hP
            exact h5
          have := p_rwrite (u : Int) X (hP.below hb2) (by omega)
          rw [hpair] at this
          refine Calls.mono this ?_
          rintro e w3 ⟨rfl, h1, h2⟩
          exact ⟨rfl, h1, fun j hj => by rw [h2 j hj, hb2.block j (hKl j hj), hKs j hj]⟩)
        rw [hpair] at hwr hcap'
        have HWW : Hid (rwrs N (q + 1) (psecs st) = if ev ≠ 0 then (ev, N2) else rwrs N2 (u + 1) ((psecs st).drop (k + 1))) := hwr
        have HCP : Hid (N2.W.length ≤ N.W.length + (k + 1)) := (show _ ≤ _ from by have : N2.W.length ≤ N'.W.length + 1 := hcap'; omega)
        have HU : Hid (u = q + 1 + k) := hu
        have hub : u ≤ 20000 := by omega
        clear hP hKs hNW hwr hev hN2 hpair hcap' hX ht hu
        by_cases h00 : ev = 0
        · subst h00
          go_wp2_with (first
            | (go_at_call 51; (with_reducible refine Calls.mono hpt ?_); rintro e w2 ⟨rfl, hb2⟩; have hwc := HWR.out w2 hb2)
            | (go_at_call 22; (with_reducible refine Calls.mono hwc ?_); rintro e w3 ⟨rfl, hP3, hK3⟩))
          go_roundw
          case rel =>
            exact ⟨k + 1, N2, by omega, by go_num, hP3, hK3, HCP.out, by rw [HWW.out, if_neg (by simp), HU.out]; rfl⟩
          case measure => simp [intOf]; omega
        · have hb0 : (ev != 0) = true := by rw [bne_iff_ne]; exact h00
          have HE : Hid (rsaveF N q ep st = (ev, N2)) := (show _ = _ from by rw [rsaveF, rwrsF, HWW.out, if_pos h00, if_pos h00, if_pos h00])
          clear h00
          go_wp2_with (first
            | (go_at_call 51; (with_reducible refine Calls.mono hpt ?_); rintro e w2 ⟨rfl, hb2⟩; have hwc := HWR.out w2 hb2)
            | (go_at_call 22; (with_reducible refine Calls.mono hwc ?_); rintro e w3 ⟨rfl, hP3, hK3⟩))
          go_ret
          rw [HE.out, ← HWS.out]
          exact ⟨rfl, hP3, hK3⟩
      · obtain rfl : k = c := by omega
        rw [List.drop_eq_nil_of_le (by rw [HPL.out]; exact Nat.le_refl _), rwrs] at hwr
        obtain ⟨t, ht⟩ : ∃ t, t = 256 * k := ⟨_, rfl⟩
        have ht2 : (256 : Int) * (k : Int) = (t : Int) := by omega
        have ht3 : ¬ (t : Int) < (m : Int) := by omega
        have hfl := p_rflush hP (by omega)
        have HFW : Hid (rwrsF N (q + 1) (psecs st) = N'.flush) := (show _ = _ from by rw [rwrsF, hwr]; simp)
        have hfc := rflush_cap N'
        have hfo := rflush_ok N'
        obtain ⟨ev, hev⟩ : ∃ ev, ev = N'.flush.1 := ⟨_, rfl⟩
        obtain ⟨N2, hN2⟩ : ∃ N2, N2 = N'.flush.2 := ⟨_, rfl⟩
        have hpair : N'.flush = (ev, N2) := by rw [hev, hN2]
        rw [hpair] at hfl hfc hfo HFW
        have HRS : Hid (rsaveF N q ep st = if ev ≠ 0 then (ev, N2) else rwrsF N2 q (psecs (headL ep st))) := (show _ = _ from by rw [rsaveF, HFW.out])
        have HFO : Hid (ev = 0 → N2.W = []) := hfo
        have HKS : Hid (∀ q' : World, (∀ j, K j → q'.heap[j]? = wr.heap[j]?) → ∀ j, K j → q'.heap[j]? = ws.heap[j]?) := fun q' hq' j hj => by rw [hq' j hj, hKs j hj]
        have hk4 : k ≤ 4097 := by omega
        clear hP hKs hwr hev hN2 hpair hfc hfo ht hNW
        by_cases h00 : ev = 0
        · subst h00
          obtain ⟨X, hX⟩ : ∃ X, X = fsecB (padTo (headL ep st)) 0 := ⟨_, rfl⟩
          obtain ⟨ev3, hev3⟩ : ∃ ev3, ev3 = (N2.wr (q : Int) X).1 := ⟨_, rfl⟩
          obtain ⟨N3, hN3⟩ : ∃ N3, N3 = (N2.wr (q : Int) X).2 := ⟨_, rfl⟩
          have hpair : N2.wr (q : Int) X = (ev3, N3) := by rw [hev3, hN3]
          have hN3c : N3.W.length ≤ 1 := by
            have := rwr_cap N2 (q : Int) X
            rw [hpair, HFO.out rfl] at this
            simpa using this
          have HRS2 : Hid (rsaveF N q ep st = if ev3 ≠ 0 then (ev3, N3) else N3.flush) := (show _ = _ from by
            rw [HRS.out, if_neg (by simp), HH1.out, ← hX, rwrsF]
            simp only [rwrs, hpair]
            by_cases h3 : ev3 = 0
            · simp [h3]
            · simp [h3])
          have HT : Hid (∀ w5, Pair w w5 d r K M N2 → (∀ j, K j → w5.heap[j]? = ws.heap[j]?) → Calls Try.prog 64 #[.int .u64 (ep : Int), .slice a m cap] w5 fun e w6 => ∃ g cg, e = .returned (.slice (some ⟨g, 0, none⟩) 24 cg) ∧ Calls Try.prog 51 #[.slice (some ⟨g, 0, none⟩) 24 cg, .int .i64 0] w6 fun e w7 => e = .returned (.string X) ∧ Calls Try.prog 22 #[.pointer (some ⟨r, 0, none⟩), .int .i64 (q : Int), .string X] w7 fun e w8 => e = .returned (.int .i64 ev3) ∧ Pair w w8 d r K M N3 ∧ (∀ j, K j → w8.heap[j]? = ws.heap[j]?) ∧
              Calls Try.prog 52 #[.pointer (some ⟨r, 0, none⟩)] w8 fun e w9 => e = .returned (.int .i64 N3.flush.1) ∧ Pair w w9 d r K M N3.flush.2 ∧ ∀ j, K j → w9.heap[j]? = ws.heap[j]?) := (by
            intro w5 hP5 hK5
            have hKl : ∀ j, K j → j < w5.heap.size := by
              obtain ⟨F, G, _, _, _, _, h5, _⟩ := hP5
              exact h5
            refine Calls.mono (HHD.out w5 hP5.old) ?_
            rintro e w6 ⟨g, cg, rfl, hb6, hpt6⟩
            refine ⟨g, cg, rfl, Calls.mono hpt6 ?_⟩
            rintro e w7 ⟨rfl, hb7⟩
            have hb57 := hb6.trans (hb7.mono hb6.size)
            refine ⟨by rw [hX], ?_⟩
            have := p_rwrite (q : Int) X (hP5.below hb57) (by rw [HFO.out rfl]; simp)
            rw [hpair] at this
            refine Calls.mono this ?_
            rintro e w8 ⟨rfl, h1, h2⟩
            have hK8 : ∀ j, K j → w8.heap[j]? = ws.heap[j]? := fun j hj => by rw [h2 j hj, hb57.block j (hKl j hj), hK5 j hj]
            refine ⟨rfl, h1, hK8, ?_⟩
            refine Calls.mono (p_rflush h1 (by show N3.W.length ≤ 100000; omega)) ?_
            rintro e w9 ⟨rfl, h3, h4⟩
            exact ⟨rfl, h3, fun j hj => by rw [h4 j hj, hK8 j hj]⟩)
          clear hX hev3 hN3 hpair hN3c HHD HFO HFW
          by_cases h33 : ev3 = 0
          · subst h33
            go_wp2_with (first
              | (go_at_call 52; (with_reducible refine Calls.mono hfl ?_); rintro e w5 ⟨rfl, hP5, hK5⟩; have ht5 := HT.out w5 hP5 (HKS.out w5 hK5); clear hP5 hK5)
              | (go_at_call 64; (with_reducible refine Calls.mono ht5 ?_); rintro e w6 ⟨g, cg, rfl, ht6⟩)
              | (go_at_call 51; (with_reducible refine Calls.mono ht6 ?_); rintro e w7 ⟨rfl, ht7⟩)
              | (go_at_call 22; (with_reducible refine Calls.mono ht7 ?_); rintro e w8 ⟨rfl, _, _, ht8⟩)
              | (go_at_call 52; (with_reducible refine Calls.mono ht8 ?_); rintro e w9 ⟨rfl, hP9, hK9⟩))
            go_ret
            rw [HRS2.out, ← HWS.out]
            exact ⟨rfl, hP9, hK9⟩
          · have hb3 : (ev3 != 0) = true := by rw [bne_iff_ne]; exact h33
            have HR3 : Hid (rsaveF N q ep st = (ev3, N3)) := (show _ = _ from by rw [HRS2.out, if_pos h33])
            clear h33
            go_wp2_with (first
              | (go_at_call 52; (with_reducible refine Calls.mono hfl ?_); rintro e w5 ⟨rfl, hP5, hK5⟩; have ht5 := HT.out w5 hP5 (HKS.out w5 hK5); clear hP5 hK5)
              | (go_at_call 64; (with_reducible refine Calls.mono ht5 ?_); rintro e w6 ⟨g, cg, rfl, ht6⟩)
              | (go_at_call 51; (with_reducible refine Calls.mono ht6 ?_); rintro e w7 ⟨rfl, ht7⟩)
              | (go_at_call 22; (with_reducible refine Calls.mono ht7 ?_); rintro e w8 ⟨rfl, hP8, hK8, _⟩))
            go_ret
            rw [HR3.out, ← HWS.out]
            exact ⟨rfl, hP8, hK8⟩
        · have hb0 : (ev != 0) = true := by rw [bne_iff_ne]; exact h00
          have HE : Hid (rsaveF N q ep st = (ev, N2)) := (show _ = _ from by rw [HRS.out, if_pos h00])
          clear h00
          go_wp2_with (go_at_call 52; (with_reducible refine Calls.mono hfl ?_); rintro e w5 ⟨rfl, hP5, hK5⟩)
          go_ret
          rw [HE.out, ← HWS.out]
          exact ⟨rfl, hP5, HKS.out w5 hK5⟩
  · have hrem : (ep : Int) % 2 = 1 := by omega
    have hq2 : (p : Int) + (n : Int) = (q : Int) := by rw [hq, h0]; omega
    clear h hf hq hb hrb hr h0 hfn hsl hc hm
    go_enter Try.func32, Try.ntmps32
    go_wp2_with (first
      | (go_at_call 63; refine Calls.mono hrg ?_; rintro e w1 ⟨rfl, hb1⟩; have hfi := HFI.out w1)
      | (go_at_call 36; refine Calls.mono hfi ?_; rintro e w1' ⟨rfl, rfl⟩))
    obtain ⟨hP1, hK1⟩ := HP0.out w1 hb1
    have HP1 : Hid (Pair w w1 d r K M N ∧ ∀ j, K j → w1.heap[j]? = ws.heap[j]?) := ⟨hP1, by rw [hws]; exact hK1⟩
    clear hP1 hK1 HP0 hb1 hrg hfi HFI
    have HWS : Hid (ws = wr) := hws
    clear hws hrem
    go_loopw [12] (fun i wq => ∃ (k : Nat) (N' : R), k ≤ c ∧ i = .int .i64 k ∧ Pair w wq d r K M N' ∧ (∀ j, K j → wq.heap[j]? = ws.heap[j]?) ∧ N'.W.length ≤ N.W.length + k ∧ rwrs N (q + 1) (psecs st) = rwrs N' (q + 1 + k) ((psecs st).drop k)) (fun i _ => c - (intOf i).toNat)
    case atStart => exact ⟨0, N, Nat.zero_le _, rfl, HP1.out.1, HP1.out.2, by omega, rfl⟩
    case round =>
      obtain ⟨k, N', hk, rfl, hP, hKs, hNW, hwr⟩ := hrel
      by_cases hlt : k < c
      · rw [HPS.out k hlt, rwrs] at hwr
        obtain ⟨t, ht⟩ : ∃ t, t = 256 * k := ⟨_, rfl⟩
        have ht2 : (256 : Int) * (k : Int) = (t : Int) := by omega
        have ht3 : (t : Int) < (m : Int) := by omega
        obtain ⟨u, hu⟩ : ∃ u, u = q + 1 + k := ⟨_, rfl⟩
        have hu2 : (q : Int) + 1 + (k : Int) = (u : Int) := by omega
        have hk4 : k ≤ 4097 := by omega
        rw [← hu] at hwr
        have hpt := HPT.out wr k hP.old hlt
        have hcap' := rwr_cap N' (u : Int) (fsecB (padTo st) k)
        obtain ⟨X, hX⟩ : ∃ X, X = fsecB (padTo st) k := ⟨_, rfl⟩
        rw [← hX] at hwr hpt hcap'
        obtain ⟨ev, hev⟩ : ∃ ev, ev = (N'.wr (u : Int) X).1 := ⟨_, rfl⟩
        obtain ⟨N2, hN2⟩ : ∃ N2, N2 = (N'.wr (u : Int) X).2 := ⟨_, rfl⟩
        have hpair : N'.wr (u : Int) X = (ev, N2) := by rw [hev, hN2]
        have HWR : Hid (∀ w2, Below wr.heap.size wr w2 → Calls Try.prog 22 #[.pointer (some ⟨r, 0, none⟩), .int .i64 (u : Int), .string X] w2 fun e w3 => e = .returned (.int .i64 ev) ∧ Pair w w3 d r K M N2 ∧ ∀ j, K j → w3.heap[j]? = ws.heap[j]?) := (by
          intro w2 hb2
          have hKl : ∀ j, K j → j < wr.heap.size := by
            obtain ⟨F, G, _, _, _, _, h5, _⟩ := hP
            exact h5
          have := p_rwrite (u : Int) X (hP.below hb2) (by omega)
          rw [hpair] at this
          refine Calls.mono this ?_
          rintro e w3 ⟨rfl, h1, h2⟩
          exact ⟨rfl, h1, fun j hj => by rw [h2 j hj, hb2.block j (hKl j hj), hKs j hj]⟩)
        rw [hpair] at hwr hcap'
        have HWW : Hid (rwrs N (q + 1) (psecs st) = if ev ≠ 0 then (ev, N2) else rwrs N2 (u + 1) ((psecs st).drop (k + 1))) := hwr
        have HCP : Hid (N2.W.length ≤ N.W.length + (k + 1)) := (show _ ≤ _ from by have : N2.W.length ≤ N'.W.length + 1 := hcap'; omega)
        have HU : Hid (u = q + 1 + k) := hu
        have hub : u ≤ 20000 := by omega
        clear hP hKs hNW hwr hev hN2 hpair hcap' hX ht hu
        by_cases h00 : ev = 0
        · subst h00
          go_wp2_with (first
            | (go_at_call 51; (with_reducible refine Calls.mono hpt ?_); rintro e w2 ⟨rfl, hb2⟩; have hwc := HWR.out w2 hb2)
            | (go_at_call 22; (with_reducible refine Calls.mono hwc ?_); rintro e w3 ⟨rfl, hP3, hK3⟩))
          go_roundw
          case rel =>
            exact ⟨k + 1, N2, by omega, by go_num, hP3, hK3, HCP.out, by rw [HWW.out, if_neg (by simp), HU.out]; rfl⟩
          case measure => simp [intOf]; omega
        · have hb0 : (ev != 0) = true := by rw [bne_iff_ne]; exact h00
          have HE : Hid (rsaveF N q ep st = (ev, N2)) := (show _ = _ from by rw [rsaveF, rwrsF, HWW.out, if_pos h00, if_pos h00, if_pos h00])
          clear h00
          go_wp2_with (first
            | (go_at_call 51; (with_reducible refine Calls.mono hpt ?_); rintro e w2 ⟨rfl, hb2⟩; have hwc := HWR.out w2 hb2)
            | (go_at_call 22; (with_reducible refine Calls.mono hwc ?_); rintro e w3 ⟨rfl, hP3, hK3⟩))
          go_ret
          rw [HE.out, ← HWS.out]
          exact ⟨rfl, hP3, hK3⟩
      · obtain rfl : k = c := by omega
        rw [List.drop_eq_nil_of_le (by rw [HPL.out]; exact Nat.le_refl _), rwrs] at hwr
        obtain ⟨t, ht⟩ : ∃ t, t = 256 * k := ⟨_, rfl⟩
        have ht2 : (256 : Int) * (k : Int) = (t : Int) := by omega
        have ht3 : ¬ (t : Int) < (m : Int) := by omega
        have hfl := p_rflush hP (by omega)
        have HFW : Hid (rwrsF N (q + 1) (psecs st) = N'.flush) := (show _ = _ from by rw [rwrsF, hwr]; simp)
        have hfc := rflush_cap N'
        have hfo := rflush_ok N'
        obtain ⟨ev, hev⟩ : ∃ ev, ev = N'.flush.1 := ⟨_, rfl⟩
        obtain ⟨N2, hN2⟩ : ∃ N2, N2 = N'.flush.2 := ⟨_, rfl⟩
        have hpair : N'.flush = (ev, N2) := by rw [hev, hN2]
        rw [hpair] at hfl hfc hfo HFW
        have HRS : Hid (rsaveF N q ep st = if ev ≠ 0 then (ev, N2) else rwrsF N2 q (psecs (headL ep st))) := (show _ = _ from by rw [rsaveF, HFW.out])
        have HFO : Hid (ev = 0 → N2.W = []) := hfo
        have HKS : Hid (∀ q' : World, (∀ j, K j → q'.heap[j]? = wr.heap[j]?) → ∀ j, K j → q'.heap[j]? = ws.heap[j]?) := fun q' hq' j hj => by rw [hq' j hj, hKs j hj]
        have hk4 : k ≤ 4097 := by omega
        clear hP hKs hwr hev hN2 hpair hfc hfo ht hNW
        by_cases h00 : ev = 0
        · subst h00
          obtain ⟨X, hX⟩ : ∃ X, X = fsecB (padTo (headL ep st)) 0 := ⟨_, rfl⟩
          obtain ⟨ev3, hev3⟩ : ∃ ev3, ev3 = (N2.wr (q : Int) X).1 := ⟨_, rfl⟩
          obtain ⟨N3, hN3⟩ : ∃ N3, N3 = (N2.wr (q : Int) X).2 := ⟨_, rfl⟩
          have hpair : N2.wr (q : Int) X = (ev3, N3) := by rw [hev3, hN3]
          have hN3c : N3.W.length ≤ 1 := by
            have := rwr_cap N2 (q : Int) X
            rw [hpair, HFO.out rfl] at this
            simpa using this
          have HRS2 : Hid (rsaveF N q ep st = if ev3 ≠ 0 then (ev3, N3) else N3.flush) := (show _ = _ from by
            rw [HRS.out, if_neg (by simp), HH1.out, ← hX, rwrsF]
            simp only [rwrs, hpair]
            by_cases h3 : ev3 = 0
            · simp [h3]
            · simp [h3])
          have HT : Hid (∀ w5, Pair w w5 d r K M N2 → (∀ j, K j → w5.heap[j]? = ws.heap[j]?) → Calls Try.prog 64 #[.int .u64 (ep : Int), .slice a m cap] w5 fun e w6 => ∃ g cg, e = .returned (.slice (some ⟨g, 0, none⟩) 24 cg) ∧ Calls Try.prog 51 #[.slice (some ⟨g, 0, none⟩) 24 cg, .int .i64 0] w6 fun e w7 => e = .returned (.string X) ∧ Calls Try.prog 22 #[.pointer (some ⟨r, 0, none⟩), .int .i64 (q : Int), .string X] w7 fun e w8 => e = .returned (.int .i64 ev3) ∧ Pair w w8 d r K M N3 ∧ (∀ j, K j → w8.heap[j]? = ws.heap[j]?) ∧
              Calls Try.prog 52 #[.pointer (some ⟨r, 0, none⟩)] w8 fun e w9 => e = .returned (.int .i64 N3.flush.1) ∧ Pair w w9 d r K M N3.flush.2 ∧ ∀ j, K j → w9.heap[j]? = ws.heap[j]?) := (by
            intro w5 hP5 hK5
            have hKl : ∀ j, K j → j < w5.heap.size := by
              obtain ⟨F, G, _, _, _, _, h5, _⟩ := hP5
              exact h5
            refine Calls.mono (HHD.out w5 hP5.old) ?_
            rintro e w6 ⟨g, cg, rfl, hb6, hpt6⟩
            refine ⟨g, cg, rfl, Calls.mono hpt6 ?_⟩
            rintro e w7 ⟨rfl, hb7⟩
            have hb57 := hb6.trans (hb7.mono hb6.size)
            refine ⟨by rw [hX], ?_⟩
            have := p_rwrite (q : Int) X (hP5.below hb57) (by rw [HFO.out rfl]; simp)
            rw [hpair] at this
            refine Calls.mono this ?_
            rintro e w8 ⟨rfl, h1, h2⟩
            have hK8 : ∀ j, K j → w8.heap[j]? = ws.heap[j]? := fun j hj => by rw [h2 j hj, hb57.block j (hKl j hj), hK5 j hj]
            refine ⟨rfl, h1, hK8, ?_⟩
            refine Calls.mono (p_rflush h1 (by show N3.W.length ≤ 100000; omega)) ?_
            rintro e w9 ⟨rfl, h3, h4⟩
            exact ⟨rfl, h3, fun j hj => by rw [h4 j hj, hK8 j hj]⟩)
          clear hX hev3 hN3 hpair hN3c HHD HFO HFW
          by_cases h33 : ev3 = 0
          · subst h33
            go_wp2_with (first
              | (go_at_call 52; (with_reducible refine Calls.mono hfl ?_); rintro e w5 ⟨rfl, hP5, hK5⟩; have ht5 := HT.out w5 hP5 (HKS.out w5 hK5); clear hP5 hK5)
              | (go_at_call 64; (with_reducible refine Calls.mono ht5 ?_); rintro e w6 ⟨g, cg, rfl, ht6⟩)
              | (go_at_call 51; (with_reducible refine Calls.mono ht6 ?_); rintro e w7 ⟨rfl, ht7⟩)
              | (go_at_call 22; (with_reducible refine Calls.mono ht7 ?_); rintro e w8 ⟨rfl, _, _, ht8⟩)
              | (go_at_call 52; (with_reducible refine Calls.mono ht8 ?_); rintro e w9 ⟨rfl, hP9, hK9⟩))
            go_ret
            rw [HRS2.out, ← HWS.out]
            exact ⟨rfl, hP9, hK9⟩
          · have hb3 : (ev3 != 0) = true := by rw [bne_iff_ne]; exact h33
            have HR3 : Hid (rsaveF N q ep st = (ev3, N3)) := (show _ = _ from by rw [HRS2.out, if_pos h33])
            clear h33
            go_wp2_with (first
              | (go_at_call 52; (with_reducible refine Calls.mono hfl ?_); rintro e w5 ⟨rfl, hP5, hK5⟩; have ht5 := HT.out w5 hP5 (HKS.out w5 hK5); clear hP5 hK5)
              | (go_at_call 64; (with_reducible refine Calls.mono ht5 ?_); rintro e w6 ⟨g, cg, rfl, ht6⟩)
              | (go_at_call 51; (with_reducible refine Calls.mono ht6 ?_); rintro e w7 ⟨rfl, ht7⟩)
              | (go_at_call 22; (with_reducible refine Calls.mono ht7 ?_); rintro e w8 ⟨rfl, hP8, hK8, _⟩))
            go_ret
            rw [HR3.out, ← HWS.out]
            exact ⟨rfl, hP8, hK8⟩
        · have hb0 : (ev != 0) = true := by rw [bne_iff_ne]; exact h00
          have HE : Hid (rsaveF N q ep st = (ev, N2)) := (show _ = _ from by rw [HRS.out, if_pos h00])
          clear h00
          go_wp2_with (go_at_call 52; (with_reducible refine Calls.mono hfl ?_); rintro e w5 ⟨rfl, hP5, hK5⟩)
          go_ret
          rw [HE.out, ← HWS.out]
          exact ⟨rfl, hP5, HKS.out w5 hK5⟩
end Go.Proofs.Ytecljiefljgfmaa
