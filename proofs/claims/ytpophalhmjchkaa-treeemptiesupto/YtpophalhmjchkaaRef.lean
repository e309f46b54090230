/-
  leaf.from; the document's Get.
-/
import Derived.Test.YtpophalhmjchkaaDel
namespace Go.Proofs.Ytpophalhmjchkaa
open Go.RowKit

set_option maxHeartbeats 2000000 in
set_option maxRecDepth 20000 in
theorem lfrom_any (b : Nat) (ps : List KV) (k : ByteArray) (w : World) (h : Lf w b ps) (hs : Srt ps) (hn : ps.length ≤ 100) :
    Calls Try.prog 32 #[.pointer (some ⟨b, 0, none⟩), .string k] w fun e w' => ∃ a c, e = .returned (.slice a (ps.length - lbS (keysP ps) k) c) ∧ Sl w' 2 a (ps.length - lbS (keysP ps) k) c (pcs (ps.drop (lbS (keysP ps) k))) ∧ Below w.heap.size w w' := by
  obtain ⟨i0, hi, hz0, hz1, hz2⟩ := info_parts info79
  have hp := lplace_any b ps k w h hs (by omega)
  have hkl : (keysP ps).length = ps.length := by simp [keysP]
  have hLl := lbS_le (keysP ps) k
  rw [hkl] at hLl
  obtain ⟨L, hL⟩ : ∃ L, L = lbS (keysP ps) k := ⟨_, rfl⟩
  rw [← hL] at hp hLl ⊢
  have HW : Hid (∀ w1, Below w.heap.size w w1 → ∃ a c a2, w1.cell? ⟨b, 0, none⟩ = some (.slice a ps.length c) ∧ (∀ wx, (Instr.slice 57 (.slice a ps.length c) (some (.int .i64 (L : Int))) none none).run Try.prog wx = .ok (.slice a2 (ps.length - L) (c - L)) wx) ∧ Sl w1 2 a2 (ps.length - L) (c - L) (pcs (ps.drop L))) := (by
    intro w1 hb
    obtain ⟨a, c, q1, q2⟩ := h.below hb
    obtain ⟨a2, r1, r2⟩ := slice_lo Try.underlying57 hi hz1 q2 hLl
    rw [← pcs_drop] at r2
    exact ⟨a, c, a2, cell_blk q1 0, r1, r2⟩)
  obtain ⟨n2, hn2⟩ : ∃ n2, n2 = ps.length - L := ⟨_, rfl⟩
  rw [← hn2] at HW ⊢
  clear h hs hkl hL hn hLl hz0 hz1 hz2 hi hn2
  go_enter Try.func32, Try.ntmps32
  go_wp2_with fail
  refine Calls.mono hp ?_
  rintro e w1 ⟨rfl, hb1⟩
  obtain ⟨a, c, a2, c0, r1, s1⟩ := HW.out w1 hb1
  obtain ⟨c2, hc2⟩ : ∃ c2, c2 = c - L := ⟨_, rfl⟩
  rw [← hc2] at r1 s1
  clear HW hp hc2
  go_wp2
  go_ret
  exact ⟨a2, c2, rfl, s1, hb1⟩

/-- The first value of a key, by going through the list. -/
def fndL (k : ByteArray) : List KV → Option ByteArray
  | [] => none
  | p :: ps => if p.1 = k then some p.2 else fndL k ps
theorem fndL_drop {k : ByteArray} {L : List KV} {i : Nat} (h : i < L.length) : fndL k (L.drop i) = if L[i].1 = k then some L[i].2 else fndL k (L.drop (i + 1)) := by
  rw [List.drop_eq_getElem_cons h, fndL]

theorem fnd_none {k : ByteArray} : ∀ {L : List KV}, (∀ p ∈ L, klt k p.1) → fndL k L = none
  | [], _ => rfl
  | p :: ps, h => by
    rw [fndL, if_neg (fun e => klt_irrefl k (by have := h p List.mem_cons_self; rw [e] at this; exact this))]
    exact fnd_none fun q hq => h q (List.mem_cons_of_mem _ hq)
theorem fnd_srt {k : ByteArray} : ∀ {L : List KV}, Srt L → fndL k L = getL k L
  | [], _ => rfl
  | p :: ps, h => by
    obtain ⟨h1, h2⟩ := List.pairwise_cons.1 h
    rw [fndL, getL, fnd_srt (k := k) h2]
    rcases klt_tri p.1 k with h3 | h3 | h3
    · rw [if_pos h3, if_neg (fun e => klt_irrefl k (by rw [e] at h3; exact h3))]
    · rw [h3, if_pos rfl, if_neg (klt_irrefl k), if_neg (klt_irrefl k)]
    · rw [if_neg (klt_asymm h3), if_pos h3, if_neg (fun e => klt_irrefl k (by rw [e] at h3; exact h3)), ← fnd_srt (k := k) h2]
      exact fnd_none fun q hq => klt_trans h3 (h1 q hq)

set_option maxHeartbeats 2000000 in
set_option maxRecDepth 20000 in
theorem refGet_any (a : Option Addr) (c : Nat) (L : List KV) (k : ByteArray) (w : World) (h : Sl w 2 a L.length c (pcs L)) (hn : L.length < 1000000000) :
    Calls Try.prog 11 #[.slice a L.length c, .string k] w fun e w' => e = .returned (.tuple #[.string ((fndL k L).getD ⟨#[]⟩), .bool (fndL k L).isSome]) ∧ w = w' := by
  obtain ⟨G, hG⟩ : ∃ G, G = fndL k L := ⟨_, rfl⟩
  rw [← hG]
  obtain ⟨n, hnl⟩ : ∃ n, n = L.length := ⟨_, rfl⟩
  have HA : Hid (∀ i, i < n → ∃ b off, a = some ⟨b, off, none⟩ ∧ ∃ x y, w.cell? ⟨b, off + i * 2, none⟩ = some (.string x) ∧ w.cell? ⟨b, off + i * 2 + 1, none⟩ = some (.string y) ∧ fndL k (L.drop i) = if x = k then some y else fndL k (L.drop (i + 1))) := (by
    intro i hi
    obtain ⟨b, off, rfl, _, hc⟩ := h.at (j := i * 2) (by rw [pcs_len]; omega)
    refine ⟨b, off, rfl, L[i].1, L[i].2, ?_, ?_, fndL_drop (by omega)⟩
    · have := hc (i * 2) (by rw [pcs_len]; omega)
      rw [this]
      have e := (pcs_get (ps := L) (j := i) (by omega)).1
      rw [List.getElem?_eq_getElem (by rw [pcs_len]; omega)] at e
      exact e
    · have := hc (i * 2 + 1) (by rw [pcs_len]; omega)
      rw [← Nat.add_assoc] at this
      rw [this]
      have e := (pcs_get (ps := L) (j := i) (by omega)).2
      rw [List.getElem?_eq_getElem (by rw [pcs_len]; omega)] at e
      exact e)
  have HZ : Hid (fndL k (L.drop n) = none) := (by rw [hnl, List.drop_length]; rfl)
  have HS : Hid (G = fndL k (L.drop 0)) := hG
  rw [← hnl] at hn ⊢
  clear h hG hnl
  go_enter Try.func11, Try.ntmps11
  go_wp2
  go_loopg [6] n (fun gf iv wx => ∃ i : Nat, iv = .int .i64 (i : Int) ∧ gf + i = n ∧ G = fndL k (L.drop i) ∧ wx = w)
  case atStart => exact ⟨0, rfl, by omega, HS.out, rfl⟩
  case round =>
    obtain ⟨i, rfl, hgi, hGi, rfl⟩ := hrel
    by_cases hlt : i < n
    · obtain ⟨b, off, rfl, x, y, d0, d1, d2⟩ := HA.out i hlt
      have hii : (i : Int) < (n : Int) := by omega
      have hw1 : IntKind.i64.wrap ((i : Int) + 1) = (i : Int) + 1 := by rw [IntKind.wrap_i64]; omega
      by_cases hx : x = k
      · rw [if_pos hx] at d2
        have HG : Hid (G = some y) := (hGi.trans d2)
        subst hx
        clear HA HZ HS hGi d2
        go_wp2
        go_ret2
        exact ⟨by rw [HG.out]; rfl, rfl⟩
      · rw [if_neg hx, ← hGi] at d2
        have hxb : (x.toList == k.toList) = false := by
          rw [beq_eq_false_iff_ne]
          intro hc
          rcases klt_tri x k with h3 | h3 | h3
          · rw [klt, hc] at h3; exact List.lt_irrefl _ h3
          · exact hx h3
          · rw [klt, hc] at h3; exact List.lt_irrefl _ h3
        have D2 : Hid (G = fndL k (L.drop (i + 1))) := d2
        obtain ⟨g, rfl⟩ : ∃ g, gk = g + 1 := ⟨gk - 1, by omega⟩
        clear HA HZ HS hGi d2
        go_wp2
        go_roundg g
        case rel => exact ⟨i + 1, by simp, by omega, D2.out, rfl⟩
        case measure => omega
    · have hie : i = n := by omega
      subst hie
      have HG : Hid (G = none) := (by rw [hGi]; exact HZ.out)
      clear HA HZ HS hGi
      go_wp2
      go_ret2
      exact ⟨by rw [HG.out]; rfl, rfl⟩
end Go.Proofs.Ytpophalhmjchkaa
