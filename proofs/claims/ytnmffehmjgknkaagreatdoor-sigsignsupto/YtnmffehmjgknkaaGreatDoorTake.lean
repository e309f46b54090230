/-
  The state's 'take' of both kinds: whole blocks are eaten, the rest is told.
-/
import Derived.Test.YtnmffehmjgknkaaGreatDoorShaMix
namespace Go.Proofs.YtnmffehmjgknkaaGreatDoor
open Go.RowKit

def S4.toL (s : S4) : List Wd := [s.a, s.b, s.c, s.d]
/-- n blocks of sixty-four bytes. -/
def eatN {σ : Type} (f : List UInt8 → σ → σ) : Nat → List UInt8 → σ → σ
  | 0, _, s => s
  | n + 1, l, s => eatN f n (l.drop 64) (f (l.take 64) s)
/-- All whole blocks. -/
def eat {σ : Type} (f : List UInt8 → σ → σ) (l : List UInt8) (s : σ) : σ := eatN f (l.length / 64) l s
/-- What is behind the whole blocks. -/
def rest (l : List UInt8) : List UInt8 := l.drop (l.length / 64 * 64)
theorem rest_length (l : List UInt8) : (rest l).length = l.length % 64 := by rw [rest, List.length_drop]; omega

theorem bytes_drop {w : World} {b off c : Nat} {r : List UInt8} (h : Bytes w (some ⟨b, off, none⟩) r) (hr : 64 ≤ r.length) (hc : r.length ≤ c) :
    Bytes w (if c = 64 then some ⟨b, off, none⟩ else some ⟨b, off + 64, none⟩) (r.drop 64) := by
  split
  · exact .inl (List.drop_eq_nil_of_le (by omega))
  · obtain ⟨b', off', he, hb, hc'⟩ := h.at (k := 0) (by omega)
    cases he
    refine .inr ⟨b, off + 64, rfl, hb, fun j hj => ?_⟩
    simp only [List.length_drop] at hj
    rw [Nat.add_assoc, hc' (64 + j) (by omega), List.getElem_drop]

set_option maxHeartbeats 1000000 in
theorem shaTake_any (g : Nat) (s : S8) (a : Option Addr) (l : List UInt8) (cap : Nat) (w : World) (hcap : l.length ≤ cap) (hl : l.length ≤ 281474976710656) (hst : Wds w g 175 s.toL) (hb : Bytes w a l) (hne : 64 ≤ l.length → ∀ ad, a = some ad → ad.block ≠ g) :
    Calls Tryz.prog 112 #[.pointer (some ⟨g, 0, none⟩), .slice a l.length cap] w fun e w' => ∃ ra rc, e = .returned (.slice ra (l.length % 64) rc) ∧ Bytes w ra (rest l) ∧ (∀ ad, ra = some ad → ∃ ad0, a = some ad0 ∧ ad.block = ad0.block) ∧ l.length % 64 ≤ rc ∧ w.grownBy w' (some g) ∧ Wds w' g 175 (eat sMix l s).toL := by
  have HS : Hid (Wds w g 175 s.toL) := hst
  have hglt := HS.out.lt
  clear hst
  go_enter Tryz.func112, Tryz.ntmps112
  go_wp2_with fail
  refine (shaWords_any _).mono ?_
  rintro e w1 ⟨rfl, hb1⟩
  have hz := (zero_of_info (P := Tryz.prog) (t := 176) (v := .agg (wcs (zeros 64)).toArray) (n := 64) (by kernel_rfl)).1 w1
  have hnew : (w1.alloc (.cells (wcs (zeros 64)).toArray 176)).heap[w1.heap.size]? = some (.cells (wcs (zeros 64)).toArray 176 (0, 0)) := heap_alloc_last w1 _
  have HN : Hid _ := hnew
  clear hnew
  go_wp2_with (refine wpList_store_row rfl 176 _ _ rfl _ _ rfl rfl 176 _ HN.out size176 rfl (wcs_all _) ?_)
  simp only [Act.put]
  clear hz
  have hK : Wds ((w1.alloc (.cells (wcs (zeros 64)).toArray 176)).setRow w1.heap.size (wcs shaK).toArray) w1.heap.size 176 shaK := setRow_heap _ _ _ _ _ _ HN.out
  have hnx : Below w.heap.size w ((w1.alloc (.cells (wcs (zeros 64)).toArray 176)).setRow w1.heap.size (wcs shaK).toArray) :=
    (hb1.alloc hb1.size _).trans ⟨rfl, rfl, rfl, by simp, fun j hj => setRow_other _ _ _ _ (by have := hb1.size; omega)⟩
  have hw1 := hb1.size
  have HK : Hid _ := hK
  clear hK hb1 HN
  generalize (w1.alloc (.cells (wcs (zeros 64)).toArray 176)).setRow w1.heap.size (wcs shaK).toArray = w2 at *
  generalize w1.heap.size = kg at *
  go_loopw [1] (fun v wr => ∃ (a' : Option Addr) (c n j : Nat) (st : S8), v = .slice a' n c ∧ n ≤ c ∧ n = l.length - 64 * j ∧ 64 * j ≤ l.length ∧ Bytes w a' (l.drop (64 * j)) ∧ (∀ ad, a' = some ad → ∃ ad0, a = some ad0 ∧ ad.block = ad0.block) ∧
      eatN sMix (l.length / 64 - j) (l.drop (64 * j)) st = eat sMix l s ∧ Wds wr g 175 st.toL ∧ Wds wr kg 176 shaK ∧ w.grownBy wr (some g))
    (fun v _ => match v with | .slice _ n _ => n | _ => 0)
  case atStart => exact ⟨a, cap, l.length, 0, s, rfl, hcap, by omega, by omega, hb, fun ad h => ⟨ad, h, rfl⟩, rfl, HS.out.below hnx hglt, HK.out, below_grown hnx _⟩
  case round =>
    obtain ⟨a', c, n, j, st, rfl, hnc, hn, hj, hbj, hblk, hea, hws, hwk, hgw⟩ := hrel
    have HE : Hid (eatN sMix (l.length / 64 - j) (l.drop (64 * j)) st = eat sMix l s) := hea
    have HW : Hid (Wds wr g 175 st.toL) := hws
    have HKW : Hid (Wds wr kg 176 shaK) := hwk
    have HB : Hid (Bytes w a' (l.drop (64 * j))) := hbj
    have HBK : Hid (∀ ad, a' = some ad → ∃ ad0, a = some ad0 ∧ ad.block = ad0.block) := hblk
    have HNJ : Hid (n = l.length - 64 * j) := hn
    clear hea hws hwk hbj hblk HK hnx hn
    by_cases h64 : 64 ≤ n
    · have hlen : (l.drop (64 * j)).length = n := by rw [List.length_drop, HNJ.out]
      obtain ⟨b, off, rfl, hbl, hcs⟩ := HB.out.at (k := 0) (by rw [hlen]; omega)
      obtain ⟨ad0, had0, hbe⟩ := HBK.out _ rfl
      have hbg : b ≠ g := fun e => hne (by have := HNJ.out; omega) ad0 had0 (by rw [← hbe]; exact e)
      have hcs' : Hid (∀ i (h : i < ((l.drop (64 * j)).take 64).length), wr.cell? ⟨b, off + i, none⟩ = some (.int .u8 (((l.drop (64 * j)).take 64)[i].toNat : Int))) := by
        intro i h
        have hi : i < 64 ∧ i < (l.drop (64 * j)).length := by simp at h ⊢; omega
        rw [World.cell?_of_block (w := w) (a := ⟨b, off + i, none⟩) (hgw.block b hbl (by simpa using hbg)), hcs i hi.2, List.getElem_take]
      have hl64 : ((l.drop (64 * j)).take 64).length = 64 := by rw [List.length_take, hlen]; omega
      have HL64 : Hid _ := hl64
      have HLEN : Hid _ := hlen
      have hbw : b < wr.heap.size := Nat.lt_of_lt_of_le hbl hgw.size
      have h64i : (64 : Int) ≤ (n : Int) := by omega
      have h64c : (64 : Int) ≤ (c : Int) := by omega
      have hc64 : 64 ≤ c := by omega
      have HC : Hid _ := shaMix_any g kg b off c st ((l.drop (64 * j)).take 64) wr HW.out HKW.out hl64 hc64 hbw hcs'.out
      have HBE : Hid _ := hbe
      clear hlen hl64 hcs hbe
      go_wp2_with fail
      refine Calls.mono HC.out ?_
      rintro e w3 ⟨rfl, hg3, hws3⟩
      have HW3 : Hid (Wds w3 g 175 (sMix ((l.drop (64 * j)).take 64) st).toL) := hws3
      have HK3 : Hid (Wds w3 kg 176 shaK) := HKW.out.grown hg3 (by simp; omega)
      have hgw3 := grown_trans hgw hg3
      clear hws3 HW HKW hgw hg3 hcs' hbw
      go_wp2
      go_roundw
      case rel =>
        refine ⟨_, c - 64, n - 64, j + 1, _, rfl, by omega, by have := HNJ.out; omega, by have := HNJ.out; omega, ?_, ?_, ?_, HW3.out, HK3.out, hgw3⟩
        · rw [show 64 * (j + 1) = 64 * j + 64 from by omega, ← List.drop_drop]
          exact bytes_drop HB.out (by rw [HLEN.out]; exact h64) (by rw [HLEN.out]; exact hnc)
        · intro ad had
          refine ⟨ad0, had0, ?_⟩
          split at had
          · rw [← Option.some.inj had]; exact HBE.out
          · rw [← Option.some.inj had]; exact HBE.out
        · rw [← HE.out, show l.length / 64 - j = (l.length / 64 - (j + 1)) + 1 from by have := HNJ.out; omega, eatN, show 64 * (j + 1) = 64 * j + 64 from by omega, List.drop_drop]
      case measure => simp; omega
    · have hjq : j = l.length / 64 := by have := HNJ.out; omega
      have hnq : n = l.length % 64 := by have := HNJ.out; omega
      have HJQ : Hid _ := hjq
      have HNQ : Hid _ := hnq
      clear hjq hnq
      go_wp2
      go_ret
      refine ⟨a', c, by rw [← HNQ.out]; rfl, ?_, HBK.out, by rw [← HNQ.out]; exact hnc, hgw, ?_⟩
      · rw [rest, Nat.mul_comm, ← HJQ.out]; exact HB.out
      · rw [← HE.out, HJQ.out, Nat.sub_self, eatN]; exact HW.out
end Go.Proofs.YtnmffehmjgknkaaGreatDoor
