/-
  chunk.Sign: a chunk's signature.
-/
import Derived.Test.YtgpjjlkkfddjnaaDoorRunA
import Derived.Test.YtgpjjlkkfddjnaaDoorShelfJ
import Derived.Test.YtgpjjlkkfddjnaaDoorMd
import Derived.Deep.RegionHeld3
import Derived.Deep.RegionWith
import Derived.Deep.Cut
import Derived.Deep.CutRange
import Derived.BigQuiet
namespace Go.Proofs.YtgpjjlkkfddjnaaDoor
open Go.RowKit

/-- Who signs. -/
structure Wh where
  id : List UInt8
  date : List UInt8
  scope : List UInt8
  sig : List UInt8
  key : List UInt8
  pay : List UInt8
def Wh.v (x : Wh) (ka : Option Addr) (kc : Nat) : Value := .agg #[.string ⟨x.id.toArray⟩, .string ⟨x.date.toArray⟩, .string ⟨x.scope.toArray⟩, .string ⟨x.sig.toArray⟩, .slice ka x.key.length kc, .string ⟨x.pay.toArray⟩]
/-- "AWS4-HMAC-SHA256-PAYLOAD" -/
def algT : List UInt8 := [65, 87, 83, 52, 45, 72, 77, 65, 67, 45, 83, 72, 65, 50, 53, 54, 45, 80, 65, 89, 76, 79, 65, 68]
def sgX (date scope last data : List UInt8) : List ByteArray := [⟨algT.toArray⟩, ⟨date.toArray⟩, ⟨scope.toArray⟩, ⟨last.toArray⟩, ⟨(hexL (shaL [])).toArray⟩, ⟨(hexL (shaL data)).toArray⟩]
/-- The text that is signed. -/
def sgT (date scope last data : List UInt8) : List UInt8 := Lib.join ((sgX date scope last data).map (·.data.toList)) [10]
def sgL (key date scope last data : List UInt8) : List UInt8 := hexL (hmacL key (sgT date scope last data))
/-- A text made bytes. -/
theorem conv_text (s : ByteArray) (w : World) : ∃ W1 cap, (convert 9 22 (.string s)).run Tryd.prog w = .ok (.slice (some ⟨w.heap.size, 0, none⟩) s.size cap) W1 ∧ Bytes W1 (some ⟨w.heap.size, 0, none⟩) s.data.toList ∧ Below w.heap.size w W1 ∧ w.heap.size < W1.heap.size ∧ s.size ≤ cap := by
  have hz : s.data.toList.length = s.size := by simp
  refine ⟨_, _, run_bytes_of_string w 9 22 5 s Tryd.underlying9 Tryd.underlying22 Tryd.underlying5, ?_, ((Below.refl _ w).drew).alloc (Nat.le_refl _) _, ?_, grownCap_ge _ _ _ _⟩
  · refine .inr ⟨w.heap.size, 0, rfl, ?_, fun j hj => ?_⟩
    · show w.heap.size < (w.heap.push _).size
      simp
    · rw [Nat.zero_add]
      have := World.cell?_alloc_mark w.drew (bytesRow s (grownCap w s.size 0 5)) 5 ((bytesRow s (grownCap w s.size 0 5)).size, (bytesRow s (grownCap w s.size 0 5)).size + 1) j
      rw [show w.drew.heap.size = w.heap.size from rfl] at this
      rw [this, bytesRow, Array.getElem?_append_left (by rw [Array.size_map]; show j < s.size; omega)]
      have hj2 : j < s.data.size := by show j < s.size; omega
      rw [Array.getElem?_map, Array.getElem?_eq_getElem hj2]
      simp
  · show w.heap.size < (w.heap.push _).size
    simp
theorem conv_list (l : List UInt8) (w : World) : ∃ W1 cap, (convert 9 22 (.string ⟨l.toArray⟩)).run Tryd.prog w = .ok (.slice (some ⟨w.heap.size, 0, none⟩) l.length cap) W1 ∧ Bytes W1 (some ⟨w.heap.size, 0, none⟩) l ∧ Below w.heap.size w W1 ∧ l.length ≤ cap := by
  obtain ⟨W1, cap, h1, h2, h3, -, h5⟩ := conv_text ⟨l.toArray⟩ w
  have e : (⟨l.toArray⟩ : ByteArray).size = l.length := by simp [ByteArray.size]
  rw [e] at h1 h5
  exact ⟨W1, cap, h1, h2, h3, h5⟩
theorem sgT_len (date scope last data : List UInt8) : (sgT date scope last data).length = date.length + scope.length + last.length + 157 := by
  rw [sgT, sgX, List.map_cons, Lib.join_length]
  simp [Lib.lens, hexL_length, shaL_length, algT]
  omega
theorem six_of {W : World} {N : Nat} {v0 v1 v2 v3 v4 v5 : Value} {t : TypeId} (h : W.heap[N]? = some (.cells #[v0, v1, v2, v3, v4, v5] t (0, 0))) :
    W.cell? ⟨N, 0, none⟩ = some v0 ∧ W.cell? ⟨N, 1, none⟩ = some v1 ∧ W.cell? ⟨N, 2, none⟩ = some v2 ∧ W.cell? ⟨N, 3, none⟩ = some v3 ∧ W.cell? ⟨N, 4, none⟩ = some v4 ∧ W.cell? ⟨N, 5, none⟩ = some v5 := by
  have e0 := cell_blk h 0
  have e1 := cell_blk h 1
  have e2 := cell_blk h 2
  have e3 := cell_blk h 3
  have e4 := cell_blk h 4
  have e5 := cell_blk h 5
  simp at e0 e1 e2 e3 e4 e5
  exact ⟨e0, e1, e2, e3, e4, e5⟩
theorem six_new (a b c d e f : ByteArray) (t : TypeId) (w : World) : ∀ (j : Nat) y, [a, b, c, d, e, f][j]? = some y → (w.alloc (.cells #[.string a, .string b, .string c, .string d, .string e, .string f] t)).cell? ⟨w.heap.size, 0 + j, none⟩ = some (.string y) := by
  intro j y hj
  rw [Nat.zero_add, World.cell?_alloc_mark]
  match j with
  | 0 => simpa using hj
  | 1 => simpa using hj
  | 2 => simpa using hj
  | 3 => simpa using hj
  | 4 => simpa using hj
  | 5 => simpa using hj
  | n + 6 => simp at hj
set_option maxRecDepth 20000 in
set_option maxHeartbeats 4000000 in
theorem sign_any (x : Wh) (ka : Option Addr) (kc : Nat) (last data : List UInt8) (da : Option Addr) (dc : Nat) (w : World) (hk : x.key.length ≤ kc) (hkl : x.key.length ≤ 1000000000) (hkB : Bytes w ka x.key) (hd : data.length ≤ dc) (hdl : data.length ≤ 1000000000) (hdB : Bytes w da data)
    (h1 : x.date.length ≤ 1000000000) (h2 : x.scope.length ≤ 1000000000) (h3 : last.length ≤ 1000000000) :
    Calls Tryd.prog 12 #[x.v ka kc, .string ⟨last.toArray⟩, .slice da data.length dc] w fun e w' => e = .returned (.string ⟨(sgL x.key x.date x.scope last data).toArray⟩) ∧ Below w.heap.size w w' := by
  obtain ⟨W, hW⟩ : ∃ W, W = w.alloc (.cells #[.string ⟨x.id.toArray⟩, .string ⟨x.date.toArray⟩, .string ⟨x.scope.toArray⟩, .string ⟨x.sig.toArray⟩, .slice ka x.key.length kc, .string ⟨x.pay.toArray⟩] 24) := ⟨_, rfl⟩
  obtain ⟨N, hN⟩ : ∃ N, N = w.heap.size := ⟨_, rfl⟩
  have nW : W.heap[N]? = some (.cells #[.string ⟨x.id.toArray⟩, .string ⟨x.date.toArray⟩, .string ⟨x.scope.toArray⟩, .string ⟨x.sig.toArray⟩, .slice ka x.key.length kc, .string ⟨x.pay.toArray⟩] 24 (0, 0)) := by rw [hW, hN]; exact heap_alloc_new w _
  have hbW : Below w.heap.size w W := by rw [hW]; exact (Below.refl _ _).alloc (Nat.le_refl _) _
  have HB : Hid (Below w.heap.size w W) := hbW
  have HNW := (show Hid _ from nW)
  have HL := (show Hid (x.key.length ≤ kc ∧ x.key.length ≤ 1000000000 ∧ data.length ≤ dc ∧ data.length ≤ 1000000000 ∧ x.date.length ≤ 1000000000 ∧ x.scope.length ≤ 1000000000 ∧ last.length ≤ 1000000000) from ⟨hk, hkl, hd, hdl, h1, h2, h3⟩)
  have HK := (show Hid (Bytes W ka x.key ∧ Bytes W da data) from ⟨hkB.below hbW (Nat.le_refl _), hdB.below hbW (Nat.le_refl _)⟩)
  have S1 := (show Hid (∀ W', Below W.heap.size W W' → Calls Tryd.prog 24 #[.slice none 0 0] W' fun e w' => ∃ a c, e = .returned (.slice a 32 c) ∧ Bytes w' a (shaL []) ∧ Below W.heap.size W w') from fun W' hb => (sha_any none [] 0 W' (Nat.le_refl _) (by simp) (.inl rfl)).mono fun e w' ⟨v, h1, h2, h3⟩ => by
    obtain ⟨a, c, h4, h5⟩ := h2.bytes
    exact ⟨a, c, by rw [h1, h4, shaL_length], h5, hb.trans (h3.mono hb.size)⟩)
  have S2 := (show Hid (∀ W', Below W.heap.size W W' → Calls Tryd.prog 24 #[.slice da data.length dc] W' fun e w' => ∃ a c, e = .returned (.slice a 32 c) ∧ Bytes w' a (shaL data) ∧ Below W.heap.size W w') from fun W' hb => (sha_any da data dc W' HL.out.2.2.1 (by have := HL.out; omega) (HK.out.2.below hb (Nat.le_refl _))).mono fun e w' ⟨v, h1, h2, h3⟩ => by
    obtain ⟨a, c, h4, h5⟩ := h2.bytes
    exact ⟨a, c, by rw [h1, h4, shaL_length], h5, hb.trans (h3.mono hb.size)⟩)
  have HX := (show Hid (∀ (W' : World) (a : Option Addr) (c : Nat) (l : List UInt8), l.length = 32 → Bytes W' a l → Below W.heap.size W W' → Calls Tryd.prog 23 #[.slice a 32 c] W' fun e w' => e = .returned (.string ⟨(hexL l).toArray⟩) ∧ Below W.heap.size W w') from fun W' a c l hl hB hb => by
    have := hex_any a l c W' (by omega) hB
    rw [hl] at this
    exact this.mono fun e w' ⟨h1, h2⟩ => ⟨h1, hb.trans (h2.mono hb.size)⟩)
  clear hk hkl hkB hd hdl hdB h1 h2 h3 hbW
  go_enter Tryd.func12, Tryd.ntmps12
  go_upto_region 1 with fail
  unfold Wh.v
  rw [← hN, ← hW]
  obtain ⟨x0, x1, x2, x3, x4, x5⟩ := six_of nW
  clear hN hW nW
  go_region_held3 (fun w' => w'.cell? ⟨N, 1, none⟩ = some (.string ⟨x.date.toArray⟩) ∧ w'.cell? ⟨N, 2, none⟩ = some (.string ⟨x.scope.toArray⟩)) (first | go_keep | (exact ⟨z1, z2⟩)) (first
    | (go_at_call 24; (with_reducible refine Calls.mono (S1.out _ ((Below.refl _ W).drew)) ?_); rintro e w2 ⟨a2, c2, rfl, hB2, hb2⟩; obtain ⟨-, z1, z2, -, -, -⟩ := six_of ((hb2.block N (blk_lt HNW.out)).trans HNW.out))
    | (go_at_call 23; (with_reducible refine Calls.mono (HX.out _ _ _ _ (shaL_length _) hB2 hb2) ?_); rintro e w3 ⟨rfl, hb3⟩; obtain ⟨-, z1, z2, -, -, -⟩ := six_of ((hb3.block N (blk_lt HNW.out)).trans HNW.out))
    | (go_at_call 24; (with_reducible refine Calls.mono (S2.out _ hb3) ?_); rintro e w4 ⟨a4, c4, rfl, hB4, hb4⟩; obtain ⟨-, z1, z2, -, -, -⟩ := six_of ((hb4.block N (blk_lt HNW.out)).trans HNW.out))
    | (go_at_call 23; (with_reducible refine Calls.mono (HX.out _ _ _ _ (shaL_length _) hB4 hb4) ?_); rintro e w5 ⟨rfl, hb5⟩; obtain ⟨-, z1, z2, -, -, -⟩ := six_of ((hb5.block N (blk_lt HNW.out)).trans HNW.out)))
  clear x0 x1 x2 x3 x4 x5 z1 z2 S1 S2 hb2 hb3 hb4
  obtain ⟨W6, hW6⟩ : ∃ W6, W6 = w5.alloc (.cells #[.string ⟨algT.toArray⟩, .string ⟨x.date.toArray⟩, .string ⟨x.scope.toArray⟩, .string ⟨last.toArray⟩, .string ⟨(hexL (shaL [])).toArray⟩, .string ⟨(hexL (shaL data)).toArray⟩] 9) := ⟨_, rfl⟩
  have hb6 : Below W.heap.size W W6 := by rw [hW6]; exact hb5.trans (((Below.refl _ _).alloc (Nat.le_refl _) _).mono hb5.size)
  have hc6 : ∀ (j : Nat) y, (sgX x.date x.scope last data)[j]? = some y → W6.cell? ⟨w5.heap.size, 0 + j, none⟩ = some (.string y) := by rw [hW6]; exact six_new _ _ _ _ _ _ _ _
  have hg6 : w5.heap.size < W6.heap.size := by rw [hW6]; show w5.heap.size < (w5.heap.push _).size; simp
  rw [show (Value.string ⟨#[65, 87, 83, 52, 45, 72, 77, 65, 67, 45, 83, 72, 65, 50, 53, 54, 45, 80, 65, 89, 76, 79, 65, 68]⟩) = .string ⟨algT.toArray⟩ from rfl, ← hW6]
  obtain ⟨g, hg⟩ : ∃ g, g = w5.heap.size := ⟨_, rfl⟩
  rw [← hg] at hc6 hg6 ⊢
  have HB6 : Hid (Below W.heap.size W W6) := hb6
  have J1 := (show Hid (∀ W', Below W6.heap.size W6 W' → Calls Tryd.prog 26 #[.slice (some ⟨g, 0, none⟩) 6 6, .string ⟨#[10]⟩] W' fun e w' => e = .returned (.string ⟨(sgT x.date x.scope last data).toArray⟩) ∧ Below W.heap.size W w') from fun W' hb => (YtgpjjlkkfddjnaaDoor.strings_Join g 0 6 (sgX x.date x.scope last data) ⟨#[10]⟩ W' (fun j y hy => (hb.cell (p := ⟨g, 0 + j, none⟩) hg6).trans (hc6 j y hy)) (Nat.lt_of_lt_of_le hg6 hb.size) (by show 6 ≤ _; omega) (Nat.le_refl _) (by have := sgT_len x.date x.scope last data; have := HL.out; show (sgT x.date x.scope last data).length ≤ _; omega)).mono fun e w' ⟨h1, h2⟩ => ⟨h1, HB6.out.trans ((hb.trans (h2.mono hb.size)).mono HB6.out.size)⟩)
  clear hW6 hg hc6 hg6 hb6 hb5 hB2 hB4
  obtain ⟨-, -, -, -, x4, -⟩ := six_of ((HB6.out.block N (blk_lt HNW.out)).trans HNW.out)
  obtain ⟨T, hT⟩ : ∃ T, T = sgT x.date x.scope last data := ⟨_, rfl⟩
  have hTl := sgT_len x.date x.scope last data
  rw [← hT] at J1 hTl
  have HM := (show Hid (∀ (W' : World) (a : Option Addr) (c : Nat), T.length ≤ c → (a = none → c = 0) → Bytes W' a T → Below W.heap.size W W' → Calls Tryd.prog 25 #[.slice ka x.key.length kc, .slice a T.length c] W' fun e w' => ∃ a c, e = .returned (.slice a 32 c) ∧ Bytes w' a (hmacL x.key T) ∧ Below W.heap.size W w') from fun W' a c h1 h2 h3 hb => (hmac_any ka x.key kc a T c W' HL.out.1 (by have := HL.out; omega) (HK.out.1.below hb (Nat.le_refl _)) h1 h2 (by have := HL.out; omega) h3).mono fun e w' ⟨v, h1, h2, h3⟩ => by
    obtain ⟨a, c, h4, h5⟩ := h2.bytes
    exact ⟨a, c, by rw [h1, h4]; rfl, h5, hb.trans (h3.mono hb.size)⟩)
  have HT : Hid (sgL x.key x.date x.scope last data = hexL (hmacL x.key T)) := by show _ = _; rw [hT]; rfl
  have hml : (hmacL x.key T).length = 32 := rfl
  clear hT hTl
  go_upto_region 2 with fail
  go_region_with (first
    | (go_at_call 26; (with_reducible refine Calls.mono (J1.out _ ((Below.refl _ W6).drew)) ?_); rintro e w7 ⟨rfl, hb7⟩; obtain ⟨-, -, -, -, z4, -⟩ := six_of ((hb7.block N (blk_lt HNW.out)).trans HNW.out); obtain ⟨W8, c8, hcv, hB8, hb78, hc8⟩ := conv_list T w7; have hb8 := hb7.trans (hb78.mono hb7.size); obtain ⟨-, -, -, -, y4, -⟩ := six_of ((hb8.block N (blk_lt HNW.out)).trans HNW.out))
    | (go_at_call 25; (with_reducible refine Calls.mono (HM.out _ _ _ hc8 (fun h => by cases h) hB8 hb8) ?_); rintro e w9 ⟨a9, c9, rfl, hB9, hb9⟩)
    | (go_at_call 23; (with_reducible refine Calls.mono (HX.out _ _ _ _ hml hB9 hb9) ?_); rintro e w10 ⟨rfl, hb10⟩))
  all_goals
    go_wp2
    go_ret
    rw [HT.out]
    exact ⟨rfl, HB.out.trans (hb10.mono HB.out.size)⟩
end Go.Proofs.YtgpjjlkkfddjnaaDoor
