/-
  SnapTurns walked.
-/
import Derived.Test.YtllmjlobhjcbkaaTurns
namespace Go.Proofs.Ytllmjlobhjcbkaa
open Go.RowKit

theorem Rbs.at {w : World} {a : Option Addr} {L : List (List UInt8)} (h : Rbs w a L) {j : Nat} (hj : j < L.length) : ∃ b off, a = some ⟨b, off, none⟩ ∧ b < w.heap.size ∧ ∃ a' c, w.cell? ⟨b, off + j, none⟩ = some (.slice a' L[j].length c) ∧ Bytes w a' L[j] ∧ L[j].length ≤ c ∧ (a' = none → c = 0) ∧ L[j].length ≤ 9223372036854775807 := by
  rcases h with h0 | ⟨b, off, e, hb, hc⟩
  · rw [h0] at hj; simp at hj
  · exact ⟨b, off, e, hb, hc j hj⟩

set_option maxHeartbeats 4000000 in
set_option maxRecDepth 20000 in
theorem turns_walk (a : Option Addr) (L : List (List UInt8)) (cap : Nat) (ep : Nat) (w : World) (hL : Rbs w a L) (hLl : L.length ≤ 9223372036854775807) (hep : ep < 18446744073709551616) :
    Calls Try.prog 8 #[.slice a L.length cap, .int .u64 (ep : Int)] w fun e w' => e = .returned (.bool true) ∧ Below w.heap.size w w' := by
  have hnew := new_ok 24 w (by omega) (by omega)
  rw [show ((24 : Nat) : Int) = 24 from rfl] at hnew
  have HL : Hid (Rbs w a L) := hL
  clear hL
  by_cases hbad : 20 < L.length ∨ 4611686018427387904 < ep
  · have HAW : Hid (∀ q, Below w.heap.size w q → Calls Try.prog 22 #[] q fun e w' => e = .returned (.bool true) ∧ Below w.heap.size w w') := fun q hq => (awakeS_any q).mono fun e w' h => ⟨h.1, hq.trans (h.2.mono hq.size)⟩
    rcases hbad with hbad | hbad
    · have hbi : (20 : Int) < (L.length : Int) := by omega
      go_enter Try.func8, Try.ntmps8
      go_wp2_with (first
        | (go_at_call 10; refine Calls.mono hnew ?_; rintro e w1 ⟨d, rfl, hD1, hb1⟩; have haw := HAW.out w1 hb1; clear hD1)
        | (go_at_call 22; refine Calls.mono haw ?_; rintro e w2 ⟨rfl, hb2⟩))
      go_ret
      exact ⟨rfl, hb2⟩
    · by_cases hbig : 20 < L.length
      · have hbi : (20 : Int) < (L.length : Int) := by omega
        go_enter Try.func8, Try.ntmps8
        go_wp2_with (first
          | (go_at_call 10; refine Calls.mono hnew ?_; rintro e w1 ⟨d, rfl, hD1, hb1⟩; have haw := HAW.out w1 hb1; clear hD1)
          | (go_at_call 22; refine Calls.mono haw ?_; rintro e w2 ⟨rfl, hb2⟩))
        go_ret
        exact ⟨rfl, hb2⟩
      · have hbi : (L.length : Int) ≤ 20 := by omega
        have hbe : (4611686018427387904 : Int) < (ep : Int) := by omega
        go_enter Try.func8, Try.ntmps8
        go_wp2_with (first
          | (go_at_call 10; refine Calls.mono hnew ?_; rintro e w1 ⟨d, rfl, hD1, hb1⟩; have haw := HAW.out w1 hb1; clear hD1)
          | (go_at_call 22; refine Calls.mono haw ?_; rintro e w2 ⟨rfl, hb2⟩))
        go_ret
        exact ⟨rfl, hb2⟩
  · have hl20 : L.length ≤ 20 := by omega
    have he62 : ep ≤ 4611686018427387904 := by omega
    clear hbad hLl hep
    go_enter Try.func8, Try.ntmps8
    go_wp2_with (go_at_call 10; refine Calls.mono hnew ?_; rintro e w1 ⟨d, rfl, hD1, hb1⟩; have hti := TI.new (ep := ep) hD1 hb1; clear hD1 hb1)
    clear hnew
    go_loopw [7, 8] (fun ev i wr => ∃ k m : Nat, k ≤ L.length ∧ i = .int .i64 k ∧ ev = .int .u64 (m : Int) ∧ m ≤ ep + k ∧ TI w wr d m) (fun _ i _ => L.length - (intOf i).toNat)
    case atStart => exact ⟨0, ep, Nat.zero_le _, rfl, rfl, by omega, hti⟩
    case round =>
      obtain ⟨k, m, hk, rfl, rfl, hm, hI⟩ := hrel
      clear hti
      by_cases hlt : k < L.length
      · obtain ⟨b, off, rfl, hbl, a', c, hcell, hby, hlc, hno, hmx⟩ := HL.out.at hlt
        obtain ⟨st, hst⟩ : ∃ st, st = L[k] := ⟨_, rfl⟩
        rw [← hst] at hcell hby hlc hmx
        have hki : (k : Int) < (L.length : Int) := by omega
        have hc0 : wr.cell? ⟨b, off + k, none⟩ = some (.slice a' st.length c) := (hI.bel.cell (p := ⟨b, off + k, none⟩) hbl).trans hcell
        have hfi : ∀ q, Calls Try.prog 20 #[.int .i64 8, .int .i64 (st.length : Int)] q fun e w' => e = .returned (.bool (fitsB 8 st.length)) ∧ q = w' := fun q => fits_any 8 st.length q (by omega) (by omega)
        cases hf : fitsB 8 st.length with
        | false =>
          have hsv := hI.full a' st c hmx hf
          rw [hf] at hfi
          obtain ⟨n, hn⟩ : ∃ n, n = st.length := ⟨_, rfl⟩
          rw [← hn] at hsv hfi hc0 hmx
          clear hst hcell hby hlc hno hf hn
          go_wp2_with (first
            | (go_at_call 23; refine Calls.mono hsv ?_; rintro e w2 ⟨rfl, rfl⟩)
            | (go_at_call 20; refine Calls.mono (hfi _) ?_; rintro e w2 ⟨rfl, rfl⟩))
          go_roundw
          case rel => exact ⟨k + 1, m, by omega, by go_num, rfl, by omega, hI⟩
          case measure => simp [intOf]; omega
        | true =>
          have hsv := hI.fit a' st c (by omega) hby hlc hno hf
          rw [hf] at hfi
          have HC : Hid (∀ q, Below w.heap.size w q → q.cell? ⟨b, off + k, none⟩ = some (.slice a' st.length c) ∧ (convert 47 9 (.slice a' st.length c)).run Try.prog q = .ok (.string ⟨st.toArray⟩) q) := fun q hq => ⟨(hq.cell (p := ⟨b, off + k, none⟩) hbl).trans hcell, convert_bytes q a' c st (hby.below hq (Nat.le_refl _))⟩
          have HCS : Hid (∀ q a2 c2, Bytes q a2 st → (convert 47 9 (.slice a2 st.length c2)).run Try.prog q = .ok (.string ⟨st.toArray⟩) q) := fun q a2 c2 hb => convert_bytes q a2 c2 st hb
          obtain ⟨n, hn⟩ : ∃ n, n = st.length := ⟨_, rfl⟩
          rw [← hn] at hsv hfi hc0 hmx HC HCS
          obtain ⟨x, hx⟩ : ∃ x : ByteArray, x = ⟨st.toArray⟩ := ⟨_, rfl⟩
          rw [← hx] at HC HCS
          have hm8 : m ≤ 4611686018427388000 := by omega
          clear hst hcell hby hlc hno hf hn hI hx
          go_wp2_with (first
            | (go_at_call 23; refine Calls.mono hsv ?_; rintro e w2 ⟨rfl, hb2, hl2⟩; have hc2 := (HC.out w2 hb2).1)
            | (go_at_call 20; refine Calls.mono (hfi _) ?_; rintro e w3 ⟨rfl, rfl⟩)
            | (go_at_call 24; refine Calls.mono hl2 ?_; rintro e w4 ⟨a2, c2, rfl, hby4, hI4⟩; obtain ⟨hc4, hcv4⟩ := HC.out w4.drew hI4.bel.drew; have hcs4 := HCS.out w4.drew a2 c2 hby4; have hI4d := hI4.drew))
          go_region_held3 (fun w' => w'.cell? ⟨b, off + k, none⟩ = some (.slice a' n c) ∧ (convert 47 9 (.slice a' n c)).run Try.prog w' = .ok (.string x) w' ∧ (convert 47 9 (.slice a2 n c2)).run Try.prog w' = .ok (.string x) w') (go_keep) (fail)
          go_wp2
          go_roundw
          case rel => exact ⟨k + 1, m + 1, by omega, by go_num, by go_num, by omega, hI4d⟩
          case measure => simp [intOf]; omega
      · obtain rfl : k = L.length := by omega
        have haw := awakeS_any wr
        have HB : Hid (Below w.heap.size w wr) := hI.bel
        clear hI
        go_wp2_with (go_at_call 22; refine Calls.mono haw ?_; rintro e w2 ⟨rfl, hb2⟩)
        go_ret
        exact ⟨rfl, HB.out.trans (hb2.mono HB.out.size)⟩
end Go.Proofs.Ytllmjlobhjcbkaa
