/-
  SnapWhole walked.
-/
import Derived.Test.YtllmjlobhjcbkaaWhole
import Derived.Test.YtllmjlobhjcbkaaLawTurns
namespace Go.Proofs.Ytllmjlobhjcbkaa
open Go.RowKit

set_option maxHeartbeats 4000000 in
set_option maxRecDepth 20000 in
theorem whole_walk (a : Option Addr) (L : List (List UInt8)) (cap : Nat) (fz : Int) (ka : Option Addr) (keep : List Bool) (kc : Nat) (w : World) (hL : Rbs w a L) (hLl : L.length ≤ 9223372036854775807) (hfz : fz ≤ 9223372036854775807) (hK : Bools w ka keep) (_hKl : keep.length ≤ 9223372036854775807) :
    Calls Try.prog 7 #[.slice a L.length cap, .int .i64 fz, .slice ka keep.length kc] w fun e w' => e = .returned (.bool true) ∧ Below w.heap.size w w' := by
  have hnew := new_ok 40 w (by omega) (by omega)
  rw [show ((40 : Nat) : Int) = 40 from rfl] at hnew
  have HL : Hid (Rbs w a L) := hL
  have HK : Hid (Bools w ka keep) := hK
  have HAW : Hid (∀ q, Below w.heap.size w q → Calls Try.prog 22 #[] q fun e w' => e = .returned (.bool true) ∧ Below w.heap.size w w') := fun q hq => (awakeS_any q).mono fun e w' h => ⟨h.1, hq.trans (h.2.mono hq.size)⟩
  clear hL hK
  obtain ⟨kl, hkl⟩ : ∃ kl, kl = keep.length := ⟨_, rfl⟩
  by_cases hbad : 12 < L.length
  · have hbi : (12 : Int) < (L.length : Int) := by omega
    go_enter Try.func7, Try.ntmps7
    go_wp2_with (first
      | (go_at_call 10; refine Calls.mono hnew ?_; rintro e w1 ⟨d, rfl, hD1, hb1⟩; have haw := HAW.out w1 hb1; clear hD1)
      | (go_at_call 22; refine Calls.mono haw ?_; rintro e w2 ⟨rfl, hb2⟩))
    go_ret
    exact ⟨rfl, hb2⟩
  · have hl12 : L.length ≤ 12 := by omega
    have HCR : Hid (∀ wr d i, WX w wr d i L → Calls Try.prog 16 #[.pointer (some ⟨d, 0, none⟩), .slice ka kl kc] wr fun e w' => e = .returned (.tuple #[]) ∧ Below w.heap.size w w' ∧
      Calls Try.prog 24 #[.pointer (some ⟨d, 0, none⟩), .int .i64 3, .int .i64 10] w' fun e w'' => Below w.heap.size w w'' ∧ ((e = .returned (.tuple #[.slice none 0 0, .int .u64 0, .int .i64 61]) ∧ i = 0) ∨
        ∃ (k : Nat) (hk : k < L.length) (a2 : Option Addr) (c2 : Nat), e = .returned (.tuple #[.slice a2 (L[k]).length c2, .int .u64 (k : Int), .int .i64 0]) ∧ Bytes w'' a2 L[k] ∧ (k = i ∨ k + 1 = i))) := fun wr d i h => by rw [hkl]; exact h.crash ka keep kc HK.out
    rw [← hkl]
    clear hbad hLl hkl HK
    go_enter Try.func7, Try.ntmps7
    go_wp2_with (first
      | (go_at_call 10; refine Calls.mono hnew ?_; rintro e w1 ⟨d, rfl, hD1, hb1⟩; have hst := WI.start L fz hfz hD1 hb1; clear hD1 hb1)
      | (go_at_call 12; refine Calls.mono hst ?_; rintro e w2 ⟨rfl, hi2⟩))
    clear hnew hst
    go_loopw [9, 10] (fun lv iv wr => ∃ i : Nat, i ≤ L.length ∧ iv = .int .i64 i ∧ lv = .int .i64 ((i : Int) - 1) ∧ WI w wr d i L) (fun _ iv _ => L.length - (intOf iv).toNat)
    case atStart => exact ⟨0, Nat.zero_le _, rfl, rfl, hi2⟩
    case round =>
      obtain ⟨i, hk, rfl, rfl, hI⟩ := hrel
      clear hi2
      by_cases hlt : i < L.length
      · obtain ⟨b, off, rfl, hbl, a', c, hcell, hby, hlc, hno, hmx⟩ := HL.out.at hlt
        have hki : (i : Int) < (L.length : Int) := by omega
        have hc0 : wr.cell? ⟨b, off + i, none⟩ = some (.slice a' (L[i]).length c) := (hI.bel.cell (p := ⟨b, off + i, none⟩) hbl).trans hcell
        have hfi : ∀ q, Calls Try.prog 20 #[.int .i64 10, .int .i64 ((L[i]).length : Int)] q fun e w' => e = .returned (.bool (fitsB 10 (L[i]).length)) ∧ q = w' := fun q => fits_any 10 (L[i]).length q (by omega) (by omega)
        cases hf : fitsB 10 (L[i]).length with
        | false =>
          rw [hf] at hfi
          have haw := HAW.out wr hI.bel
          obtain ⟨n, hn⟩ : ∃ n, n = (L[i]).length := ⟨_, rfl⟩
          rw [← hn] at hfi hc0 hmx
          clear hcell hby hlc hno hf hn hI
          go_wp2_with (first
            | (go_at_call 20; refine Calls.mono (hfi _) ?_; rintro e w2 ⟨rfl, rfl⟩)
            | (go_at_call 22; refine Calls.mono haw ?_; rintro e w7 ⟨rfl, hb7⟩))
          go_ret
          exact ⟨rfl, hb7⟩
        | true =>
          have hsv := hI.save hlt (by omega) a' c hby hlc hno hf
          rw [hf] at hfi
          obtain ⟨n, hn⟩ : ∃ n, n = (L[i]).length := ⟨_, rfl⟩
          rw [← hn] at hsv hfi hc0 hmx
          have hi12 : i ≤ 12 := by omega
          clear hcell hby hlc hno hf hn hI
          go_wp2_with (go_at_call 20; refine Calls.mono (hfi _) ?_; rintro e w2 ⟨rfl, rfl⟩)
          refine Calls.mono hsv ?_
          rintro e w2 (⟨rfl, hI2⟩ | ⟨rfl, hX⟩)
          · clear hsv hfi
            go_wp2
            go_roundw
            case rel => exact ⟨i + 1, by omega, by go_num, by go_num, hI2⟩
            case measure => simp [intOf]; omega
          · clear hsv hfi hc0
            have hcr := HCR.out w2 d i hX
            clear hX
            go_wp2_with (go_at_call 16; refine Calls.mono hcr ?_; rintro e w5 ⟨rfl, hb5, hl5⟩)
            clear hcr hb5
            refine Calls.mono hl5 ?_
            rintro e w6 ⟨hb6, hres⟩
            rcases hres with ⟨rfl, h0⟩ | ⟨k2, hk2, a2, c2, rfl, hby6, hki⟩
            · have haw := HAW.out w6 hb6
              have hneg : ((i : Nat) : Int) - 1 < 0 := by omega
              clear hl5
              go_wp2_with (go_at_call 22; refine Calls.mono haw ?_; rintro e w7 ⟨rfl, hb7⟩)
              go_ret
              exact ⟨rfl, hb7⟩
            · obtain ⟨b9, off9, hab, hbl, a', c, hcell, hby, _, _, hmx⟩ := HL.out.at hk2
              cases hab
              have HQ : Hid (∀ q, Below w.heap.size w q → q.cell? ⟨b, off + k2, none⟩ = some (.slice a' (L[k2]).length c) ∧ (convert 47 9 (.slice a' (L[k2]).length c)).run Try.prog q = .ok (.string ⟨(L[k2]).toArray⟩) q) := fun q hq => ⟨(hq.cell (p := ⟨b, off + k2, none⟩) hbl).trans hcell, convert_bytes q a' c L[k2] (hby.below hq (Nat.le_refl _))⟩
              have HQ2 : Hid (∀ q, Below w6.heap.size w6 q → (convert 47 9 (.slice a2 (L[k2]).length c2)).run Try.prog q = .ok (.string ⟨(L[k2]).toArray⟩) q) := fun q hq => convert_bytes q a2 c2 L[k2] (hby6.below hq (Nat.le_refl _))
              have haw := awakeS_any w6.drew
              obtain ⟨st, hst⟩ : ∃ st, st = L[k2] := ⟨_, rfl⟩
              rw [← hst] at HQ HQ2 hmx ⊢
              obtain ⟨n2, hn2⟩ : ∃ n2, n2 = st.length := ⟨_, rfl⟩
              rw [← hn2] at HQ HQ2 hmx ⊢
              obtain ⟨x, hx⟩ : ∃ x : ByteArray, x = ⟨st.toArray⟩ := ⟨_, rfl⟩
              rw [← hx] at HQ HQ2
              obtain ⟨hc6, hcv6⟩ := HQ.out w6.drew hb6.drew
              have hcw6 := HQ2.out w6.drew (Below.refl _ w6).drew
              have hk12 : k2 ≤ 12 := by omega
              have hg1 : ((i : Nat) : Int) - 1 ≤ (k2 : Int) := by omega
              have hg2 : (k2 : Int) ≤ ((i : Nat) : Int) := by omega
              have hg3 : (k2 : Int) < (L.length : Int) := by omega
              have hg4 : IntKind.i64.wrap ((i : Nat) : Int) = ((i : Nat) : Int) := by rw [IntKind.wrap_i64]; omega
              clear hst hn2 hx hcell hby hby6 hl5 hki
              go_wp2
              go_region_held3 (fun w' => w'.cell? ⟨b, off + k2, none⟩ = some (.slice a' n2 c) ∧ (convert 47 9 (.slice a' n2 c)).run Try.prog w' = .ok (.string x) w' ∧ (convert 47 9 (.slice a2 n2 c2)).run Try.prog w' = .ok (.string x) w') (go_keep)
                (first
                  | (go_at_call 22; (with_reducible refine Calls.mono haw ?_); rintro e w7 ⟨rfl, hb7⟩; have hb67 : Below w6.heap.size w6 w7 := ((Below.refl _ w6).drew).trans hb7; have hb07 : Below w.heap.size w w7 := hb6.trans (hb67.mono hb6.size); obtain ⟨s0, s1⟩ := HQ.out w7 hb07; have s2 := HQ2.out w7 hb67))
              go_wp2
              go_ret
              exact ⟨rfl, hb07⟩
      · obtain rfl : i = L.length := by omega
        have hX := hI.done
        clear hI
        have hcr := HCR.out wr d L.length hX
        clear hX
        go_wp2_with (go_at_call 16; refine Calls.mono hcr ?_; rintro e w5 ⟨rfl, hb5, hl5⟩)
        clear hcr hb5
        refine Calls.mono hl5 ?_
        rintro e w6 ⟨hb6, hres⟩
        rcases hres with ⟨rfl, h0⟩ | ⟨k2, hk2, a2, c2, rfl, hby6, hki⟩
        · have haw := HAW.out w6 hb6
          have hneg : ((L.length : Nat) : Int) - 1 < 0 := by omega
          clear hl5
          go_wp2_with (go_at_call 22; refine Calls.mono haw ?_; rintro e w7 ⟨rfl, hb7⟩)
          go_ret
          exact ⟨rfl, hb7⟩
        · obtain ⟨b9, off9, hab, hbl, a', c, hcell, hby, _, _, hmx⟩ := HL.out.at hk2
          cases hab
          have HQ : Hid (∀ q, Below w.heap.size w q → q.cell? ⟨b9, off9 + k2, none⟩ = some (.slice a' (L[k2]).length c) ∧ (convert 47 9 (.slice a' (L[k2]).length c)).run Try.prog q = .ok (.string ⟨(L[k2]).toArray⟩) q) := fun q hq => ⟨(hq.cell (p := ⟨b9, off9 + k2, none⟩) hbl).trans hcell, convert_bytes q a' c L[k2] (hby.below hq (Nat.le_refl _))⟩
          have HQ2 : Hid (∀ q, Below w6.heap.size w6 q → (convert 47 9 (.slice a2 (L[k2]).length c2)).run Try.prog q = .ok (.string ⟨(L[k2]).toArray⟩) q) := fun q hq => convert_bytes q a2 c2 L[k2] (hby6.below hq (Nat.le_refl _))
          have haw := awakeS_any w6.drew
          obtain ⟨st, hst⟩ : ∃ st, st = L[k2] := ⟨_, rfl⟩
          rw [← hst] at HQ HQ2 hmx ⊢
          obtain ⟨n2, hn2⟩ : ∃ n2, n2 = st.length := ⟨_, rfl⟩
          rw [← hn2] at HQ HQ2 hmx ⊢
          obtain ⟨x, hx⟩ : ∃ x : ByteArray, x = ⟨st.toArray⟩ := ⟨_, rfl⟩
          rw [← hx] at HQ HQ2
          obtain ⟨hc6, hcv6⟩ := HQ.out w6.drew hb6.drew
          have hcw6 := HQ2.out w6.drew (Below.refl _ w6).drew
          have hk12 : k2 ≤ 12 := by omega
          have hg1 : ((L.length : Nat) : Int) - 1 ≤ (k2 : Int) := by omega
          have hg2 : (k2 : Int) ≤ ((L.length : Nat) : Int) := by omega
          have hg3 : (k2 : Int) < (L.length : Int) := by omega
          have hg4 : IntKind.i64.wrap ((L.length : Nat) : Int) = ((L.length : Nat) : Int) := by rw [IntKind.wrap_i64]; omega
          clear hst hn2 hx hcell hby hby6 hl5 hki
          go_wp2
          go_region_held3 (fun w' => w'.cell? ⟨b9, off9 + k2, none⟩ = some (.slice a' n2 c) ∧ (convert 47 9 (.slice a' n2 c)).run Try.prog w' = .ok (.string x) w' ∧ (convert 47 9 (.slice a2 n2 c2)).run Try.prog w' = .ok (.string x) w') (go_keep)
            (first
              | (go_at_call 22; (with_reducible refine Calls.mono haw ?_); rintro e w7 ⟨rfl, hb7⟩; have hb67 : Below w6.heap.size w6 w7 := ((Below.refl _ w6).drew).trans hb7; have hb07 : Below w.heap.size w w7 := hb6.trans (hb67.mono hb6.size); obtain ⟨s0, s1⟩ := HQ.out w7 hb07; have s2 := HQ2.out w7 hb67))
          go_wp2
          go_ret
          exact ⟨rfl, hb07⟩
end Go.Proofs.Ytllmjlobhjcbkaa
