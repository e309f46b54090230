/-
  Layings of the library's contracts at this program.
-/
import Derived.Shelf.Strings.OnBuilder
import Derived.Test.YtgpjjlkkfddjnaaDoorProg
import Derived.Test.YtgpjjlkkfddjnaaDoorRunA
import Derived.Test.YtgpjjlkkfddjnaaDoorRunB
import Derived.Deep.RegionHeld3
import Derived.Deep.RegionWith
import Derived.Deep.Cut
import Derived.Deep.CutRange
import Derived.BigQuiet
import Derived.Laws.AppendOwnNone
import Derived.Lib.AppendStr
import Derived.Laws.BitsLemmas
import Derived.Lib.ConvBytes
import Derived.Lib.SlBytesConst
namespace Go.Proofs
open Go.Shelf
def YtgpjjlkkfddjnaaDoor.lays156_ren : Go.Shelf.Ren := ⟨fun | 156 => 26 | 165 => 50 | 166 => 51 | 169 => 52 | 240 => 63 | 241 => 64 | 276 => 78 | 277 => 79 | n => n, fun | 0 => 0 | 3 => 3 | 4 => 4 | 9 => 9 | 20 => 20 | 31 => 62 | 37 => 22 | 5 => 5 | 70 => 88 | 72 => 90 | 75 => 93 | 80 => 59 | 76 => 94 | 127 => 108 | 164 => 123 | n => n, fun | n => n⟩
theorem YtgpjjlkkfddjnaaDoor.lays156 : Go.Proofs.Lays.n156 Tryd.prog YtgpjjlkkfddjnaaDoor.lays156_ren := {
  mixed := by kernel_rfl
  f156 := Tryd.func26.trans (congrArg some (by kernel_rfl))
  f165 := Tryd.func50.trans (congrArg some (by kernel_rfl))
  f166 := Tryd.func51.trans (congrArg some (by kernel_rfl))
  f169 := Tryd.func52.trans (congrArg some (by kernel_rfl))
  f240 := Tryd.func63.trans (congrArg some (by kernel_rfl))
  f241 := Tryd.func64.trans (congrArg some (by kernel_rfl))
  f276 := Tryd.func78.trans (congrArg some (by kernel_rfl))
  f277 := Tryd.func79.trans (congrArg some (by kernel_rfl))
  t0 := Tryd.underlying0
  a0 := Tryd.isAgg0
  z0 := Tryd.sizeOf0
  v0 := Tryd.zeroValue0
  t3 := Tryd.underlying3
  a3 := Tryd.isAgg3
  z3 := Tryd.sizeOf3
  v3 := Tryd.zeroValue3
  t4 := Tryd.underlying4
  a4 := Tryd.isAgg4
  z4 := Tryd.sizeOf4
  v4 := Tryd.zeroValue4
  t9 := Tryd.underlying9
  a9 := Tryd.isAgg9
  z9 := Tryd.sizeOf9
  v9 := Tryd.zeroValue9
  t20 := Tryd.underlying20
  a20 := Tryd.isAgg20
  z20 := Tryd.sizeOf20
  v20 := Tryd.zeroValue20
  t31 := Tryd.underlying62
  a31 := Tryd.isAgg62
  z31 := Tryd.sizeOf62
  v31 := Tryd.zeroValue62
  t37 := Tryd.underlying22
  a37 := Tryd.isAgg22
  z37 := Tryd.sizeOf22
  v37 := Tryd.zeroValue22
  t70 := Tryd.underlying88
  a70 := Tryd.isAgg88
  z70 := Tryd.sizeOf88
  v70 := Tryd.zeroValue88
  t72 := Tryd.underlying90
  a72 := Tryd.isAgg90
  z72 := Tryd.sizeOf90
  v72 := Tryd.zeroValue90
  t75 := Tryd.underlying93
  a75 := Tryd.isAgg93
  z75 := Tryd.sizeOf93
  v75 := Tryd.zeroValue93
  t76 := Tryd.underlying94
  a76 := Tryd.isAgg94
  z76 := Tryd.sizeOf94
  v76 := Tryd.zeroValue94
  t127 := Tryd.underlying108
  a127 := Tryd.isAgg108
  z127 := Tryd.sizeOf108
  v127 := Tryd.zeroValue108
  t164 := Tryd.underlying123
  a164 := Tryd.isAgg123
  z164 := Tryd.sizeOf123
  v164 := Tryd.zeroValue123 }
theorem YtgpjjlkkfddjnaaDoor.Builder_Extra_156 : Builder.Extra Tryd.prog YtgpjjlkkfddjnaaDoor.lays156_ren := {
  sizeBuilder := by kernel_rfl
  liesBuilder := by kernel_rfl
  t5 := Tryd.underlying5
  a5 := Tryd.isAgg5
  z5 := Tryd.sizeOf5
  v5 := Tryd.zeroValue5
  infoByte := by kernel_rfl
  cellsByte := by kernel_rfl
  sizeByte := by kernel_rfl
  neB5 := by decide }
open Go.RowKit Go.Lib in
theorem YtgpjjlkkfddjnaaDoor.strings_Join_none (a : Option Addr) (c : Nat) (sep : ByteArray) (w : World) :
    Calls Tryd.prog 26 #[.slice a 0 c, .string sep] w fun e w' => e = .returned (.string ⟨#[]⟩) ∧ w' = w := Any.strings_Join_none YtgpjjlkkfddjnaaDoor.lays156 YtgpjjlkkfddjnaaDoor.Builder_Extra_156 a c sep w
open Go.RowKit Go.Lib in
theorem YtgpjjlkkfddjnaaDoor.strings_Join (bk o c : Nat) (xs : List ByteArray) (sep : ByteArray) (w : World) (hcells : ∀ (j : Nat) x, xs[j]? = some x → w.cell? ⟨bk, o + j, none⟩ = some (.string x)) (hbk : bk < w.heap.size) (hN : xs.length ≤ 140737488355328) (hcap : xs.length ≤ c) (hlen : (Lib.join (xs.map (·.data.toList)) sep.data.toList).length ≤ 140737488355328) :
    Calls Tryd.prog 26 #[.slice (some ⟨bk, o, none⟩) xs.length c, .string sep] w fun e w' => e = .returned (.string ⟨(Lib.join (xs.map (·.data.toList)) sep.data.toList).toArray⟩) ∧ Below w.heap.size w w' := Any.strings_Join YtgpjjlkkfddjnaaDoor.lays156 YtgpjjlkkfddjnaaDoor.Builder_Extra_156 bk o c xs sep w hcells hbk hN hcap hlen
end Go.Proofs
/-
  chunk.Sign: a chunk's signature.
-/
namespace Go.Proofs.YtgpjjlkkfddjnaaDoor
open Go.RowKit

/-- Who signs. -/
structure Wh where
  id : List UInt8
  date : List UInt8
  scope : List UInt8
  sig : List UInt8
  key : List UInt8
  pay : List UInt8
def Wh.v (x : Wh) (ka : Option Addr) (kc : Nat) : Value := .agg #[.string ⟨x.id.toArray⟩, .string ⟨x.date.toArray⟩, .string ⟨x.scope.toArray⟩, .string ⟨x.sig.toArray⟩, .slice ka x.key.length kc, .string ⟨x.pay.toArray⟩]
/-- "AWS4-HMAC-SHA256-PAYLOAD" -/
def algT : List UInt8 := [65, 87, 83, 52, 45, 72, 77, 65, 67, 45, 83, 72, 65, 50, 53, 54, 45, 80, 65, 89, 76, 79, 65, 68]
def sgX (date scope last data : List UInt8) : List ByteArray := [⟨algT.toArray⟩, ⟨date.toArray⟩, ⟨scope.toArray⟩, ⟨last.toArray⟩, ⟨(hexL (shaL [])).toArray⟩, ⟨(hexL (shaL data)).toArray⟩]
/-- The text that is signed. -/
def sgT (date scope last data : List UInt8) : List UInt8 := Lib.join ((sgX date scope last data).map (·.data.toList)) [10]
def sgL (key date scope last data : List UInt8) : List UInt8 := hexL (hmacL key (sgT date scope last data))
/-- A text made bytes. -/
theorem conv_text (s : ByteArray) (w : World) : ∃ W1 cap, (convert 9 22 (.string s)).run Tryd.prog w = .ok (.slice (some ⟨w.heap.size, 0, none⟩) s.size cap) W1 ∧ Bytes W1 (some ⟨w.heap.size, 0, none⟩) s.data.toList ∧ Below w.heap.size w W1 ∧ w.heap.size < W1.heap.size ∧ s.size ≤ cap := by
  have hz : s.data.toList.length = s.size := by simp
  refine ⟨_, _, run_bytes_of_string w 9 22 5 s Tryd.underlying9 Tryd.underlying22 Tryd.underlying5, ?_, ((Below.refl _ w).drew).alloc (Nat.le_refl _) _, ?_, grownCap_ge _ _ _ _⟩
  · refine .inr ⟨w.heap.size, 0, rfl, ?_, fun j hj => ?_⟩
    · show w.heap.size < (w.heap.push _).size
      simp
    · rw [Nat.zero_add]
      have := World.cell?_alloc_mark w.drew (bytesRow s (grownCap w s.size 0 5)) 5 ((bytesRow s (grownCap w s.size 0 5)).size, (bytesRow s (grownCap w s.size 0 5)).size + 1) j
      rw [show w.drew.heap.size = w.heap.size from rfl] at this
      rw [this, bytesRow, Array.getElem?_append_left (by rw [Array.size_map]; show j < s.size; omega)]
      have hj2 : j < s.data.size := by show j < s.size; omega
      rw [Array.getElem?_map, Array.getElem?_eq_getElem hj2]
      simp
  · show w.heap.size < (w.heap.push _).size
    simp
theorem conv_list (l : List UInt8) (w : World) : ∃ W1 cap, (convert 9 22 (.string ⟨l.toArray⟩)).run Tryd.prog w = .ok (.slice (some ⟨w.heap.size, 0, none⟩) l.length cap) W1 ∧ Bytes W1 (some ⟨w.heap.size, 0, none⟩) l ∧ Below w.heap.size w W1 ∧ l.length ≤ cap := by
  obtain ⟨W1, cap, h1, h2, h3, -, h5⟩ := conv_text ⟨l.toArray⟩ w
  have e : (⟨l.toArray⟩ : ByteArray).size = l.length := by simp [ByteArray.size]
  rw [e] at h1 h5
  exact ⟨W1, cap, h1, h2, h3, h5⟩
theorem sgT_len (date scope last data : List UInt8) : (sgT date scope last data).length = date.length + scope.length + last.length + 157 := by
  rw [sgT, sgX, List.map_cons, Lib.join_length]
  simp [Lib.lens, hexL_length, shaL_length, algT]
  omega
theorem six_of {W : World} {N : Nat} {v0 v1 v2 v3 v4 v5 : Value} {t : TypeId} (h : W.heap[N]? = some (.cells #[v0, v1, v2, v3, v4, v5] t (0, 0))) :
    W.cell? ⟨N, 0, none⟩ = some v0 ∧ W.cell? ⟨N, 1, none⟩ = some v1 ∧ W.cell? ⟨N, 2, none⟩ = some v2 ∧ W.cell? ⟨N, 3, none⟩ = some v3 ∧ W.cell? ⟨N, 4, none⟩ = some v4 ∧ W.cell? ⟨N, 5, none⟩ = some v5 := by
  have e0 := cell_blk h 0
  have e1 := cell_blk h 1
  have e2 := cell_blk h 2
  have e3 := cell_blk h 3
  have e4 := cell_blk h 4
  have e5 := cell_blk h 5
  simp at e0 e1 e2 e3 e4 e5
  exact ⟨e0, e1, e2, e3, e4, e5⟩
theorem six_new (a b c d e f : ByteArray) (t : TypeId) (w : World) : ∀ (j : Nat) y, [a, b, c, d, e, f][j]? = some y → (w.alloc (.cells #[.string a, .string b, .string c, .string d, .string e, .string f] t)).cell? ⟨w.heap.size, 0 + j, none⟩ = some (.string y) := by
  intro j y hj
  rw [Nat.zero_add, World.cell?_alloc_mark]
  match j with
  | 0 => simpa using hj
  | 1 => simpa using hj
  | 2 => simpa using hj
  | 3 => simpa using hj
  | 4 => simpa using hj
  | 5 => simpa using hj
  | n + 6 => simp at hj
set_option maxRecDepth 20000 in
set_option maxHeartbeats 4000000 in
theorem sign_any (x : Wh) (ka : Option Addr) (kc : Nat) (last data : List UInt8) (da : Option Addr) (dc : Nat) (w : World) (hk : x.key.length ≤ kc) (hkl : x.key.length ≤ 1000000000) (hkB : Bytes w ka x.key) (hd : data.length ≤ dc) (hdl : data.length ≤ 1000000000) (hdB : Bytes w da data)
    (h1 : x.date.length ≤ 1000000000) (h2 : x.scope.length ≤ 1000000000) (h3 : last.length ≤ 1000000000) :
    Calls Tryd.prog 12 #[x.v ka kc, .string ⟨last.toArray⟩, .slice da data.length dc] w fun e w' => e = .returned (.string ⟨(sgL x.key x.date x.scope last data).toArray⟩) ∧ Below w.heap.size w w' := by
  obtain ⟨W, hW⟩ : ∃ W, W = w.alloc (.cells #[.string ⟨x.id.toArray⟩, .string ⟨x.date.toArray⟩, .string ⟨x.scope.toArray⟩, .string ⟨x.sig.toArray⟩, .slice ka x.key.length kc, .string ⟨x.pay.toArray⟩] 24) := ⟨_, rfl⟩
  obtain ⟨N, hN⟩ : ∃ N, N = w.heap.size := ⟨_, rfl⟩
  have nW : W.heap[N]? = some (.cells #[.string ⟨x.id.toArray⟩, .string ⟨x.date.toArray⟩, .string ⟨x.scope.toArray⟩, .string ⟨x.sig.toArray⟩, .slice ka x.key.length kc, .string ⟨x.pay.toArray⟩] 24 (0, 0)) := by rw [hW, hN]; exact heap_alloc_new w _
  have hbW : Below w.heap.size w W := by rw [hW]; exact (Below.refl _ _).alloc (Nat.le_refl _) _
  have HB : Hid (Below w.heap.size w W) := hbW
  have HNW := (show Hid _ from nW)
  have HL := (show Hid (x.key.length ≤ kc ∧ x.key.length ≤ 1000000000 ∧ data.length ≤ dc ∧ data.length ≤ 1000000000 ∧ x.date.length ≤ 1000000000 ∧ x.scope.length ≤ 1000000000 ∧ last.length ≤ 1000000000) from ⟨hk, hkl, hd, hdl, h1, h2, h3⟩)
  have HK := (show Hid (Bytes W ka x.key ∧ Bytes W da data) from ⟨hkB.below hbW (Nat.le_refl _), hdB.below hbW (Nat.le_refl _)⟩)
  have S1 := (show Hid (∀ W', Below W.heap.size W W' → Calls Tryd.prog 24 #[.slice none 0 0] W' fun e w' => ∃ a c, e = .returned (.slice a 32 c) ∧ Bytes w' a (shaL []) ∧ Below W.heap.size W w') from fun W' hb => (sha_any none [] 0 W' (Nat.le_refl _) (by simp) (.inl rfl)).mono fun e w' ⟨v, h1, h2, h3⟩ => by
    obtain ⟨a, c, h4, h5⟩ := h2.bytes
    exact ⟨a, c, by rw [h1, h4, shaL_length], h5, hb.trans (h3.mono hb.size)⟩)
  have S2 := (show Hid (∀ W', Below W.heap.size W W' → Calls Tryd.prog 24 #[.slice da data.length dc] W' fun e w' => ∃ a c, e = .returned (.slice a 32 c) ∧ Bytes w' a (shaL data) ∧ Below W.heap.size W w') from fun W' hb => (sha_any da data dc W' HL.out.2.2.1 (by have := HL.out; omega) (HK.out.2.below hb (Nat.le_refl _))).mono fun e w' ⟨v, h1, h2, h3⟩ => by
    obtain ⟨a, c, h4, h5⟩ := h2.bytes
    exact ⟨a, c, by rw [h1, h4, shaL_length], h5, hb.trans (h3.mono hb.size)⟩)
  have HX := (show Hid (∀ (W' : World) (a : Option Addr) (c : Nat) (l : List UInt8), l.length = 32 → Bytes W' a l → Below W.heap.size W W' → Calls Tryd.prog 23 #[.slice a 32 c] W' fun e w' => e = .returned (.string ⟨(hexL l).toArray⟩) ∧ Below W.heap.size W w') from fun W' a c l hl hB hb => by
    have := hex_any a l c W' (by omega) hB
    rw [hl] at this
    exact this.mono fun e w' ⟨h1, h2⟩ => ⟨h1, hb.trans (h2.mono hb.size)⟩)
  clear hk hkl hkB hd hdl hdB h1 h2 h3 hbW
  go_enter Tryd.func12, Tryd.ntmps12
  go_upto_region 1 with fail
  unfold Wh.v
  rw [← hN, ← hW]
  obtain ⟨x0, x1, x2, x3, x4, x5⟩ := six_of nW
  clear hN hW nW
  go_region_held3 (fun w' => w'.cell? ⟨N, 1, none⟩ = some (.string ⟨x.date.toArray⟩) ∧ w'.cell? ⟨N, 2, none⟩ = some (.string ⟨x.scope.toArray⟩)) (first | go_keep | (exact ⟨z1, z2⟩)) (first
    | (go_at_call 24; (with_reducible refine Calls.mono (S1.out _ ((Below.refl _ W).drew)) ?_); rintro e w2 ⟨a2, c2, rfl, hB2, hb2⟩; obtain ⟨-, z1, z2, -, -, -⟩ := six_of ((hb2.block N (blk_lt HNW.out)).trans HNW.out))
    | (go_at_call 23; (with_reducible refine Calls.mono (HX.out _ _ _ _ (shaL_length _) hB2 hb2) ?_); rintro e w3 ⟨rfl, hb3⟩; obtain ⟨-, z1, z2, -, -, -⟩ := six_of ((hb3.block N (blk_lt HNW.out)).trans HNW.out))
    | (go_at_call 24; (with_reducible refine Calls.mono (S2.out _ hb3) ?_); rintro e w4 ⟨a4, c4, rfl, hB4, hb4⟩; obtain ⟨-, z1, z2, -, -, -⟩ := six_of ((hb4.block N (blk_lt HNW.out)).trans HNW.out))
    | (go_at_call 23; (with_reducible refine Calls.mono (HX.out _ _ _ _ (shaL_length _) hB4 hb4) ?_); rintro e w5 ⟨rfl, hb5⟩; obtain ⟨-, z1, z2, -, -, -⟩ := six_of ((hb5.block N (blk_lt HNW.out)).trans HNW.out)))
  clear x0 x1 x2 x3 x4 x5 z1 z2 S1 S2 hb2 hb3 hb4
  obtain ⟨W6, hW6⟩ : ∃ W6, W6 = w5.alloc (.cells #[.string ⟨algT.toArray⟩, .string ⟨x.date.toArray⟩, .string ⟨x.scope.toArray⟩, .string ⟨last.toArray⟩, .string ⟨(hexL (shaL [])).toArray⟩, .string ⟨(hexL (shaL data)).toArray⟩] 9) := ⟨_, rfl⟩
  have hb6 : Below W.heap.size W W6 := by rw [hW6]; exact hb5.trans (((Below.refl _ _).alloc (Nat.le_refl _) _).mono hb5.size)
  have hc6 : ∀ (j : Nat) y, (sgX x.date x.scope last data)[j]? = some y → W6.cell? ⟨w5.heap.size, 0 + j, none⟩ = some (.string y) := by rw [hW6]; exact six_new _ _ _ _ _ _ _ _
  have hg6 : w5.heap.size < W6.heap.size := by rw [hW6]; show w5.heap.size < (w5.heap.push _).size; simp
  rw [show (Value.string ⟨#[65, 87, 83, 52, 45, 72, 77, 65, 67, 45, 83, 72, 65, 50, 53, 54, 45, 80, 65, 89, 76, 79, 65, 68]⟩) = .string ⟨algT.toArray⟩ from rfl, ← hW6]
  obtain ⟨g, hg⟩ : ∃ g, g = w5.heap.size := ⟨_, rfl⟩
  rw [← hg] at hc6 hg6 ⊢
  have HB6 : Hid (Below W.heap.size W W6) := hb6
  have J1 := (show Hid (∀ W', Below W6.heap.size W6 W' → Calls Tryd.prog 26 #[.slice (some ⟨g, 0, none⟩) 6 6, .string ⟨#[10]⟩] W' fun e w' => e = .returned (.string ⟨(sgT x.date x.scope last data).toArray⟩) ∧ Below W.heap.size W w') from fun W' hb => (YtgpjjlkkfddjnaaDoor.strings_Join g 0 6 (sgX x.date x.scope last data) ⟨#[10]⟩ W' (fun j y hy => (hb.cell (p := ⟨g, 0 + j, none⟩) hg6).trans (hc6 j y hy)) (Nat.lt_of_lt_of_le hg6 hb.size) (by show 6 ≤ _; omega) (Nat.le_refl _) (by have := sgT_len x.date x.scope last data; have := HL.out; show (sgT x.date x.scope last data).length ≤ _; omega)).mono fun e w' ⟨h1, h2⟩ => ⟨h1, HB6.out.trans ((hb.trans (h2.mono hb.size)).mono HB6.out.size)⟩)
  clear hW6 hg hc6 hg6 hb6 hb5 hB2 hB4
  obtain ⟨-, -, -, -, x4, -⟩ := six_of ((HB6.out.block N (blk_lt HNW.out)).trans HNW.out)
  obtain ⟨T, hT⟩ : ∃ T, T = sgT x.date x.scope last data := ⟨_, rfl⟩
  have hTl := sgT_len x.date x.scope last data
  rw [← hT] at J1 hTl
  have HM := (show Hid (∀ (W' : World) (a : Option Addr) (c : Nat), T.length ≤ c → (a = none → c = 0) → Bytes W' a T → Below W.heap.size W W' → Calls Tryd.prog 25 #[.slice ka x.key.length kc, .slice a T.length c] W' fun e w' => ∃ a c, e = .returned (.slice a 32 c) ∧ Bytes w' a (hmacL x.key T) ∧ Below W.heap.size W w') from fun W' a c h1 h2 h3 hb => (hmac_any ka x.key kc a T c W' HL.out.1 (by have := HL.out; omega) (HK.out.1.below hb (Nat.le_refl _)) h1 h2 (by have := HL.out; omega) h3).mono fun e w' ⟨v, h1, h2, h3⟩ => by
    obtain ⟨a, c, h4, h5⟩ := h2.bytes
    exact ⟨a, c, by rw [h1, h4]; rfl, h5, hb.trans (h3.mono hb.size)⟩)
  have HT : Hid (sgL x.key x.date x.scope last data = hexL (hmacL x.key T)) := by show _ = _; rw [hT]; rfl
  have hml : (hmacL x.key T).length = 32 := rfl
  clear hT hTl
  go_upto_region 2 with fail
  go_region_with (first
    | (go_at_call 26; (with_reducible refine Calls.mono (J1.out _ ((Below.refl _ W6).drew)) ?_); rintro e w7 ⟨rfl, hb7⟩; obtain ⟨-, -, -, -, z4, -⟩ := six_of ((hb7.block N (blk_lt HNW.out)).trans HNW.out); obtain ⟨W8, c8, hcv, hB8, hb78, hc8⟩ := conv_list T w7; have hb8 := hb7.trans (hb78.mono hb7.size); obtain ⟨-, -, -, -, y4, -⟩ := six_of ((hb8.block N (blk_lt HNW.out)).trans HNW.out))
    | (go_at_call 25; (with_reducible refine Calls.mono (HM.out _ _ _ hc8 (fun h => by cases h) hB8 hb8) ?_); rintro e w9 ⟨a9, c9, rfl, hB9, hb9⟩)
    | (go_at_call 23; (with_reducible refine Calls.mono (HX.out _ _ _ _ hml hB9 hb9) ?_); rintro e w10 ⟨rfl, hb10⟩))
  all_goals
    go_wp2
    go_ret
    rw [HT.out]
    exact ⟨rfl, HB.out.trans (hb10.mono HB.out.size)⟩
end Go.Proofs.YtgpjjlkkfddjnaaDoor
/-
  A body in signed chunks: what Decode tells, by lists.
-/
namespace Go.Proofs.YtgpjjlkkfddjnaaDoor
open Go.RowKit

theorem ex_ok {b : Bool} {s : RS} (h : (exS b s).2 = 0) : s.2 = 0 ∧ b = true ∧ exS b s = s := by
  unfold exS at h ⊢
  split at h
  · cases h
  · next hn =>
    have hb : b = true := by
      cases b with
      | true => rfl
      | false => exact absurd ⟨h, rfl⟩ hn
    subst hb
    exact ⟨h, rfl, by simp⟩
theorem tk_ok {n : Nat} {s : RS} (h : (tkS n s).2.2 = 0) : s.2 = 0 ∧ n ≤ s.1.length ∧ tkS n s = (s.1.take n, (s.1.drop n, 0)) := by
  unfold tkS at h ⊢
  by_cases h0 : s.2 = 0
  · rw [if_pos h0] at h ⊢
    by_cases hl : s.1.length < n
    · rw [if_pos hl] at h
      cases h
    · rw [if_neg hl]
      exact ⟨h0, by omega, rfl⟩
  · rw [if_neg h0] at h
    exact absurd h h0
theorem tx_ok {t : List UInt8} {s : RS} (h : (txS t s).2 = 0) : s.2 = 0 ∧ txB t s.1 = true ∧ t.length ≤ s.1.length ∧ txS t s = (s.1.drop t.length, 0) := by
  unfold txS at h ⊢
  obtain ⟨h1, h2, h3⟩ := tk_ok h
  obtain ⟨h4, h5, h6⟩ := ex_ok h1
  rw [h6] at h2 h3 ⊢
  exact ⟨h4, h5, h2, by rw [h3]⟩
theorem dg_ok {least most : Nat} {s : RS} (h : (dgS least most s).2.2 = 0) : s.2 = 0 ∧ (least ≤ dnL most s.1 ∨ dnL most s.1 = s.1.length) ∧ max (dnL most s.1) least ≤ s.1.length ∧ dgS least most s = (s.1.take (max (dnL most s.1) least), (s.1.drop (max (dnL most s.1) least), 0)) := by
  unfold dgS at h ⊢
  obtain ⟨h1, h2, h3⟩ := tk_ok h
  obtain ⟨h4, h5, h6⟩ := ex_ok h1
  rw [h6] at h2 h3 ⊢
  refine ⟨h4, by simpa using h5, h2, h3⟩
theorem ck_less {s : RS} (h : (ckS s).s.2 = 0) : (ckS s).s.1.length < s.1.length := by
  have key : (txS crT (tkS (numL (dgS 1 8 s).1) (txS crT (dgS 64 64 (txS sigT (dgS 1 8 s).2)).2)).2).2 = 0 ∧ (ckS s).s.1 = (txS crT (tkS (numL (dgS 1 8 s).1) (txS crT (dgS 64 64 (txS sigT (dgS 1 8 s).2)).2)).2).1 := by
    by_cases h0 : numL (dgS 1 8 s).1 = 0
    · rw [ck_yes h0] at h ⊢
      obtain ⟨h1, _, h2⟩ := ex_ok h
      exact ⟨h1, by rw [exS_rest]⟩
    · rw [ck_no h0] at h ⊢
      exact ⟨h, rfl⟩
  obtain ⟨k1, k2⟩ := key
  rw [k2]
  have a1 := (tx_ok k1).1
  have a2 := (tk_ok a1).1
  have a3 := (tx_ok a2).1
  have a4 := (dg_ok a3).1
  have a5 := (tx_ok a4).1
  obtain ⟨-, -, a6, a7⟩ := dg_ok a5
  have b1 := tx_rest crT (tkS (numL (dgS 1 8 s).1) (txS crT (dgS 64 64 (txS sigT (dgS 1 8 s).2)).2)).2
  have b2 := tk_rest (numL (dgS 1 8 s).1) (txS crT (dgS 64 64 (txS sigT (dgS 1 8 s).2)).2)
  have b3 := tx_rest crT (dgS 64 64 (txS sigT (dgS 1 8 s).2)).2
  have b4 := dg_rest 64 64 (txS sigT (dgS 1 8 s).2)
  have b5 := tx_rest sigT (dgS 1 8 s).2
  have b6 : (dgS 1 8 s).2.1.length < s.1.length := by
    rw [a7]
    simp only [List.length_drop]
    omega
  omega
theorem tk_room (n : Nat) (s : RS) : (tkS n s).1.length + (tkS n s).2.1.length ≤ s.1.length := by
  unfold tkS
  split
  · split
    · simp
    · simp only [List.length_take, List.length_drop]; omega
  · simp
theorem ck_room (s : RS) : (ckS s).data.length + (ckS s).s.1.length ≤ s.1.length := by
  have b1 := tx_rest crT (tkS (numL (dgS 1 8 s).1) (txS crT (dgS 64 64 (txS sigT (dgS 1 8 s).2)).2)).2
  have b2 := tk_room (numL (dgS 1 8 s).1) (txS crT (dgS 64 64 (txS sigT (dgS 1 8 s).2)).2)
  have b3 := tx_rest crT (dgS 64 64 (txS sigT (dgS 1 8 s).2)).2
  have b4 := dg_rest 64 64 (txS sigT (dgS 1 8 s).2)
  have b5 := tx_rest sigT (dgS 1 8 s).2
  have b6 := dg_rest 1 8 s
  have hd : (ckS s).data = (tkS (numL (dgS 1 8 s).1) (txS crT (dgS 64 64 (txS sigT (dgS 1 8 s).2)).2)).1 := rfl
  have hs : (ckS s).s.1.length ≤ (txS crT (tkS (numL (dgS 1 8 s).1) (txS crT (dgS 64 64 (txS sigT (dgS 1 8 s).2)).2)).2).1.length := by
    by_cases h0 : numL (dgS 1 8 s).1 = 0
    · rw [ck_yes h0]
      exact ex_rest _ _
    · rw [ck_no h0]
      exact Nat.le_refl _
  rw [hd]
  omega
theorem ck_sig (s : RS) : (ckS s).sig.length ≤ 64 := dg_len (least := 64) (most := 64) (by omega)
/-- What is told of the chunks from here on, n more at most. -/
def decF (key date scope : List UInt8) (size : Int) : Nat → List UInt8 → List UInt8 → RS → List UInt8 × Int
  | 0, _, _, _ => ([], 0)
  | n + 1, last, data, s =>
    if (ckS s).s.2 = 0 then
      (if (ckS s).sig = sgL key date scope last (ckS s).data then
        (if (ckS s).data = [] then (if (data.length : Int) = size then (data, 0) else ([], 307)) else decF key date scope size n (ckS s).sig (data ++ (ckS s).data) (ckS s).s)
      else ([], 301))
    else ([], (ckS s).s.2)
def decL (x : Wh) (size : Int) (l : List UInt8) : List UInt8 × Int := decF x.key x.date x.scope size (l.length + 1) x.sig [] (l, 0)
theorem decF_more {key date scope : List UInt8} {size : Int} : ∀ (n m : Nat) {last data : List UInt8} {s : RS}, s.1.length < n → s.1.length < m → decF key date scope size n last data s = decF key date scope size m last data s
  | 0, _, _, _, _, h, _ => by omega
  | _ + 1, 0, _, _, _, _, h => by omega
  | n + 1, m + 1, last, data, s, h1, h2 => by
    rw [decF, decF]
    by_cases h0 : (ckS s).s.2 = 0
    · have := ck_less h0
      rw [decF_more n m (by omega) (by omega)]
    · rw [if_neg h0, if_neg h0]
end Go.Proofs.YtgpjjlkkfddjnaaDoor
/-
  chunk.Decode: any body is taken apart, or refused.
-/
namespace Go.Proofs.YtgpjjlkkfddjnaaDoor
open Go.RowKit

/-- How many bytes the reader in the box p still has. -/
def lenAt (w : World) (p : Nat) : Nat := match w.cell? ⟨p, 0, none⟩ with
  | some (.slice _ n _) => n
  | _ => 0
theorem Rx.len_at {w : World} {p B : Nat} {a : Option Addr} {cap : Nat} {s : RS} (h : Rx w p B a cap s) : lenAt w p = s.1.length := by
  have c : w.cell? ⟨p, 0, none⟩ = some (.slice a s.1.length cap) := (cell_blk h.box 0).trans rfl
  rw [lenAt, c]
theorem Rx.grown {w W : World} {p B : Nat} {a : Option Addr} {cap : Nat} {s : RS} {row : Option Nat} (h : Rx w p B a cap s) (hg : w.grownBy W row) (hr : ∀ j, row = some j → j ≠ p ∧ B ≤ j) : Rx W p B a cap s :=
  ⟨keep_blk h.box (Md.ofGrown hg) (fun e => (hr p e).1 rfl), h.by_.md (Md.ofGrown hg) (fun b off e hb => by have := (h.lo _ e).2; have := (hr b hb).2; simp only at *; omega), h.cap_, h.an, h.lo, h.bp, h.len⟩
/-- What Decode's loop keeps: the box of who signs (N), the reader (p), the data so far. -/
structure DcI (w wr : World) (N p : Nat) (x : Wh) (ka : Option Addr) (kc : Nat) (s : RS) (data : List UInt8) (dv : Value) : Prop where
  rd : ∃ a cap, Rx wr p w.heap.size a cap s
  who : wr.heap[N]? = some (.cells #[.string ⟨x.id.toArray⟩, .string ⟨x.date.toArray⟩, .string ⟨x.scope.toArray⟩, .string ⟨x.sig.toArray⟩, .slice ka x.key.length kc, .string ⟨x.pay.toArray⟩] 24 (0, 0))
  own : Own wr w.heap.size dv data
  bl : Below w.heap.size w wr
theorem bytes_news {w : World} {b off : Nat} {l : List UInt8} (h : ∀ j (h : j < l.length), w.cell? ⟨b, off + j, none⟩ = some (.int .u8 (l[j].toNat : Int))) : ∀ j u, (bcs l)[j]? = some u → w.cell? ((⟨b, off, none⟩ : Addr).add j) = some u := by
  intro j u hj
  have hlt : j < l.length := by
    have := (List.getElem?_eq_some_iff.1 hj).1
    rw [bcs_length] at this
    exact this
  rw [Addr.add_lit, h j hlt, ← bcs_get hlt]
  exact hj
theorem DcI.ne {w wr : World} {N p : Nat} {x : Wh} {ka : Option Addr} {kc : Nat} {s : RS} {data : List UInt8} {dv : Value} (h : DcI w wr N p x ka kc s data dv) : ∀ j, dv.ownBlock = some j → j ≠ p ∧ j ≠ N ∧ w.heap.size ≤ j := by
  intro j hj
  obtain ⟨a, cap, hr⟩ := h.rd
  exact ⟨own_ne h.own hr.box (by decide) j hj, own_ne h.own h.who (by decide) j hj, (World.ownsRow.lt h.own j hj).1⟩
theorem DcI.keep {w wr W : World} {N p : Nat} {x : Wh} {ka : Option Addr} {kc : Nat} {s : RS} {data : List UInt8} {dv : Value} (h : DcI w wr N p x ka kc s data dv) (hb : Below wr.heap.size wr W) : DcI w W N p x ka kc s data dv := by
  obtain ⟨a, cap, hr⟩ := h.rd
  exact ⟨⟨a, cap, hr.keep hb⟩, (hb.block N (blk_lt h.who)).trans h.who, own_md h.own (Md.ofBelow (F := fun _ => False) hb) (fun _ _ h => h), h.bl.trans (hb.mono h.bl.size)⟩
theorem DcI.add {w wr W : World} {N p : Nat} {x : Wh} {ka : Option Addr} {kc : Nat} {s : RS} {data data' : List UInt8} {dv dv' : Value} (h : DcI w wr N p x ka kc s data dv) (ho : Own W w.heap.size dv' data') (hg : wr.grownBy W dv.ownBlock) : DcI w W N p x ka kc s data' dv' := by
  obtain ⟨a, cap, hr⟩ := h.rd
  exact ⟨⟨a, cap, hr.grown hg (fun j hj => ⟨(h.ne j hj).1, (h.ne j hj).2.2⟩)⟩, keep_blk h.who (Md.ofGrown hg) (fun e => (h.ne N e).2.1 rfl), ho, h.bl.grown hg h.bl.size (fun k hk => (h.ne k hk).2.2)⟩
theorem drewN_below (w : World) (n : Nat) : Below w.heap.size w (w.drewN n) := by
  induction n with
  | zero => exact Below.refl _ _
  | succ n ih => exact ⟨rfl, rfl, rfl, Nat.le_refl _, fun _ _ => rfl⟩
set_option maxRecDepth 20000 in
set_option maxHeartbeats 4000000 in
theorem decode_any (x : Wh) (ka : Option Addr) (kc : Nat) (a : Option Addr) (l : List UInt8) (cap : Nat) (size : Int) (w : World) (hk : x.key.length ≤ kc) (hkl : x.key.length ≤ 1000000000) (hkB : Bytes w ka x.key)
    (h1 : x.date.length ≤ 1000000000) (h2 : x.scope.length ≤ 1000000000) (h3 : x.sig.length ≤ 1000000000)
    (hB : Bytes w a l) (hcap : l.length ≤ cap) (han : a = none → cap = 0) (hlo : ∀ y, a = some y → y.spot = none ∧ y.block < w.heap.size) (hc9 : cap ≤ 9223372036854775807) (hl : l.length ≤ 1000000000) (he : Er w) :
    Calls Tryd.prog 9 #[x.v ka kc, .slice a l.length cap, .int .i64 size] w fun e w' => ∃ v, e = .returned (.tuple #[v, .int .i64 (decL x size l).2]) ∧ Own w' w.heap.size v (decL x size l).1 ∧ Below w.heap.size w w' := by
  have HW := (show Hid (x.key.length ≤ kc ∧ x.key.length ≤ 1000000000 ∧ Bytes w ka x.key ∧ x.date.length ≤ 1000000000 ∧ x.scope.length ≤ 1000000000 ∧ Er w ∧ l.length ≤ 1000000000) from ⟨hk, hkl, hkB, h1, h2, he, hl⟩)
  have HS : Hid (x.sig.length ≤ 1000000000) := h3
  have H3 : Hid (3 < w.heap.size) := by
    obtain ⟨-, e2, h3, -⟩ := he
    exact block_lt_of_cell h3
  obtain ⟨W1, hW1⟩ : ∃ W1, W1 = w.alloc (.cells #[.string ⟨x.id.toArray⟩, .string ⟨x.date.toArray⟩, .string ⟨x.scope.toArray⟩, .string ⟨x.sig.toArray⟩, .slice ka x.key.length kc, .string ⟨x.pay.toArray⟩] 24) := ⟨_, rfl⟩
  obtain ⟨W, hW⟩ : ∃ W, W = W1.alloc (.cells #[.slice a l.length cap, .int .i64 0] 51) := ⟨_, rfl⟩
  obtain ⟨N, hN⟩ : ∃ N, N = w.heap.size := ⟨_, rfl⟩
  obtain ⟨p, hp⟩ : ∃ p, p = w.heap.size + 1 := ⟨_, rfl⟩
  have hp1 : p = W1.heap.size := by rw [hp, hW1]; show _ = (w.heap.push _).size; simp
  have n1 : W1.heap[N]? = some (.cells #[.string ⟨x.id.toArray⟩, .string ⟨x.date.toArray⟩, .string ⟨x.scope.toArray⟩, .string ⟨x.sig.toArray⟩, .slice ka x.key.length kc, .string ⟨x.pay.toArray⟩] 24 (0, 0)) := by rw [hW1, hN]; exact heap_alloc_new w _
  have hb1 : Below w.heap.size w W1 := by rw [hW1]; exact (Below.refl _ _).alloc (Nat.le_refl _) _
  have hb2 : Below W1.heap.size W1 W := by rw [hW]; exact (Below.refl _ _).alloc (Nat.le_refl _) _
  have nN := (hb2.block N (blk_lt n1)).trans n1
  have nP : W.heap[p]? = some (.cells #[.slice a l.length cap, .int .i64 0] 51 (0, 0)) := by rw [hW, hp1]; exact heap_alloc_new W1 _
  have hbW : Below w.heap.size w W := hb1.trans (hb2.mono hb1.size)
  have HI := (show Hid (DcI w W N p x ka kc (l, 0) [] (.slice none 0 0)) from ⟨⟨a, cap, ⟨nP, hB.below hbW (Nat.le_refl _), hcap, han, hlo, by have := hb1.size; omega, hc9⟩⟩, nN, World.ownsRow_nil _ _ _ _, hbW⟩)
  obtain ⟨x0, x1, x2, x3, x4, x5⟩ := six_of nN
  obtain ⟨R, hR⟩ : ∃ R, R = decL x size l := ⟨_, rfl⟩
  have HR : Hid (R = decF x.key x.date x.scope size (l.length + 1) x.sig [] (l, 0)) := hR
  rw [← hR]
  clear hk hkl hkB h1 h2 h3 hB hcap han hlo hc9 hl he n1 hb1 hb2 nN nP hbW hR hp1
  unfold Wh.v
  go_enter Tryd.func9, Tryd.ntmps9
  go_wp2_with fail
  go_step3
  go_wp2_with fail
  rw [← hW1, ← hW, ← hp, ← hN]
  clear hW1 hW hp hN x0 x1 x2 x3 x4 x5
  go_step3
  go_wp2_with fail
  go_loopw [9, 10] (fun lv dv wr => ∃ (n : Nat) (last data : List UInt8) (s : RS), lv = .string ⟨last.toArray⟩ ∧ Hid (DcI w wr N p x ka kc s data dv ∧ s.1.length < n ∧ data.length + s.1.length ≤ 1000000000 ∧ last.length ≤ 1000000000 ∧ R = decF x.key x.date x.scope size n last data s)) (fun _ _ wr => lenAt wr p)
  case atStart => exact ⟨_, _, [], (l, 0), rfl, ⟨HI.out, Nat.lt_succ_self _, by have := HW.out.2.2.2.2.2.2; simpa using this, HS.out, HR.out⟩⟩
  case round =>
    obtain ⟨n, last, data, s, rfl, hi⟩ := hrel
    obtain ⟨va, vc, rfl⟩ := own_slice hi.out.1.own
    obtain ⟨ra, rcap, hrx⟩ := hi.out.1.rd
    have K1 := (show Hid _ from chunk_any p w.heap.size ra rcap s wr hrx (by have := hi.out.2.2.1; omega) (HW.out.2.2.2.2.2.1.below hi.out.1.bl (Nat.le_refl _)) H3.out)
    have hless := ck_less (s := s)
    have hroom := ck_room s
    have hsig := ck_sig s
    have hRn : R = decF x.key x.date x.scope size (n - 1 + 1) last data s := by rw [hi.out.2.2.2.2]; congr 1; have := hi.out.2.1; omega
    rw [decF] at hRn
    have hlen0 := hrx.len_at
    obtain ⟨r, hr⟩ : ∃ r, r = ckS s := ⟨_, rfl⟩
    rw [← hr] at K1 hless hroom hsig hRn
    obtain ⟨SG, hSG⟩ : ∃ SG, SG = sgL x.key x.date x.scope last r.data := ⟨_, rfl⟩
    rw [← hSG] at hRn
    have HM := (show Hid ((r.s.2 = 0 → r.s.1.length < s.1.length) ∧ r.data.length + r.s.1.length ≤ s.1.length ∧ r.sig.length ≤ 64 ∧ lenAt wr p = s.1.length ∧ SG = sgL x.key x.date x.scope last r.data) from ⟨hless, hroom, hsig, hlen0, hSG⟩)
    have HRn := (show Hid _ from hRn)
    clear hless hroom hsig hRn hlen0 hr hSG
    go_wp2_with fail
    refine Calls.mono K1.out ?_
    rintro e w1 ⟨⟨da, dc, rfl, hdc, hdB, hdlo, hdan⟩, ⟨ra1, rc1, hrx1⟩, hmd⟩
    have hnp : N ≠ p := by
      rintro rfl
      have e1 := hi.out.1.who
      rw [hrx.box] at e1
      simp at e1
    have hD1 : DcI w w1 N p x ka kc r.s data (.slice va data.length vc) := ⟨⟨ra1, rc1, hrx1⟩, keep_blk hi.out.1.who hmd hnp, own_md hi.out.1.own hmd (fun j hj => (hi.out.1.ne j hj).1), Md.toBelow hi.out.1.bl hmd (fun b hb e => by have := hrx.bp; omega) (Nat.le_refl _)⟩
    have HD1 := (show Hid _ from hD1)
    have HDA := (show Hid (r.data.length ≤ dc ∧ Bytes w1 da r.data ∧ (∀ y, da = some y → y.spot = none ∧ y.block < w.heap.size) ∧ (da = none → dc = 0)) from ⟨hdc, hdB, hdlo, hdan⟩)
    have c1 : w1.cell? ⟨p, 1, none⟩ = some (.int .i64 r.s.2) := (cell_blk hrx1.box 1).trans rfl
    obtain ⟨x0, x1, x2, x3, x4, x5⟩ := six_of hD1.who
    have HRX := (show Hid _ from hrx1)
    clear hdc hdB hdlo hdan hrx1 hmd hrx hnp hD1 K1
    by_cases hf : r.s.2 = 0
    · rw [hf] at c1
      have K2 := (show Hid _ from sign_any x ka kc last r.data da dc w1 HW.out.1 HW.out.2.1 (HW.out.2.2.1.below HD1.out.bl (Nat.le_refl _)) HDA.out.1 (by have := HM.out.2.1; have := hi.out.2.2.1; omega) HDA.out.2.1 HW.out.2.2.2.1 HW.out.2.2.2.2.1 hi.out.2.2.2.1)
      rw [← HM.out.2.2.2.2] at K2
      unfold Wh.v at K2
      have hRn := HRn.out
      rw [if_pos hf] at hRn
      go_wp2_with fail
      refine Calls.mono K2.out ?_
      rintro e w2 ⟨rfl, hb2⟩
      have HB2 := (show Hid (Below w1.heap.size w1 w2) from hb2)
      clear hb2 K2 c1 x0 x1 x2 x3 x4 x5
      by_cases hs : r.sig = SG
      · rw [if_pos hs] at hRn
        have hq1 : (r.sig == SG) = true := by simp [hs]
        have hq2 : (r.sig != SG) = false := by simp [hs]
        have HS2 := (show Hid _ from hs)
        clear hs
        by_cases hd : r.data = []
        · rw [if_pos hd] at hRn
          have hdl : (r.data.length : Int) = 0 := by rw [hd]; rfl
          have HR2 := (show Hid _ from hRn)
          clear hd hRn
          have HO2 := (show Hid (Own w2 w.heap.size (.slice va data.length vc) data ∧ Below w.heap.size w w2) from ⟨own_md HD1.out.own (Md.ofBelow (F := fun _ => False) HB2.out) (fun _ _ h => h), HD1.out.bl.trans (HB2.out.mono HD1.out.bl.size)⟩)
          by_cases hz : (data.length : Int) = size
          · have HR3 := (show Hid (R = (data, 0)) from by have := HR2.out; rw [if_pos hz] at this; exact this)
            clear HR2
            go_wp2_with fail
            try rw [Exit.noGoto_ret]
            go_ret2
            rw [HR3.out]
            exact ⟨_, rfl, HO2.out⟩
          · have HR3 := (show Hid (R = ([], 307)) from by have := HR2.out; rw [if_neg hz] at this; exact this)
            clear HR2
            go_wp2_with fail
            try rw [Exit.noGoto_ret]
            go_ret2
            rw [HR3.out]
            exact ⟨_, rfl, World.ownsRow_nil _ _ _ _, HO2.out.2⟩
        · have hRn2 := hRn
          rw [if_neg hd] at hRn2
          have HR3 := (show Hid _ from hRn2)
          have hdl : ¬ (r.data.length : Int) = 0 := by
            intro h
            exact hd (List.eq_nil_of_length_eq_zero (by omega))
          have HO2 := (show Hid (Own w2 w.heap.size (.slice va data.length vc) data ∧ Below w.heap.size w w2) from ⟨own_md HD1.out.own (Md.ofBelow (F := fun _ => False) HB2.out) (fun _ _ h => h), HD1.out.bl.trans (HB2.out.mono HD1.out.bl.size)⟩)
          obtain ⟨b, off, rfl, hbs, hcs⟩ := (HDA.out.2.1.below HB2.out (Nat.le_refl _)).at (k := 0) (by cases hx : r.data with
            | nil => exact absurd hx hd
            | cons _ _ => simp)
          have HCS := (show Hid (∀ j u, (bcs r.data)[j]? = some u → w2.cell? ((⟨b, off, none⟩ : Addr).add j) = some u) from bytes_news hcs)
          clear hRn hRn2 hd hbs hcs
          obtain ⟨i0, hi0, hz0, hz1, hz2⟩ := info_parts info5
          have HI0 := (show Hid (Tryd.prog.info? 5 = some i0 ∧ _ ∧ _ ∧ _) from ⟨hi0, hz0, hz1, hz2⟩)
          have HLE := (show Hid (data.length + r.data.length ≤ 1000000000 ∧ r.s.1.length < n - 1 ∧ data.length + r.data.length + r.s.1.length ≤ 1000000000 ∧ r.s.1.length < s.1.length) from by
            have h1 := HM.out.1 hf
            have h2 := HM.out.2.1
            have h3 := hi.out.2.1
            have h4 := hi.out.2.2.1
            show _ ∧ _
            refine ⟨?_, ?_, ?_, ?_⟩ <;> omega)
          have HD2 := (show Hid (DcI w w2 N p x ka kc r.s data (.slice va data.length vc)) from HD1.out.keep HB2.out)
          clear hi0 hz0 hz1 hz2
          go_wp2_with (at_builtin; refine wpList_append_own _ rfl (.tmp 44) (.tmp 45) 22 rfl w.heap.size 5 i0 _ 1 1 Tryd.underlying22 HI0.out.1 HI0.out.2.1 HI0.out.2.2.1 HI0.out.2.2.2 rfl (by omega) (.slice va data.length vc) data.length (bcs data) rfl HO2.out.1 ⟨b, off, none⟩ r.data.length dc (bcs r.data) rfl (by rw [bcs_length]; omega) HCS.out (bcs_one _) (by have := HLE.out; unfold maxLen; omega) (by have := HLE.out; omega) HO2.out.2.size ?_; intro v3 w3 hown3 hg3 _; have HD3 := (show Hid (DcI w w3 N p x ka kc r.s (data ++ r.data) v3) from HD2.out.add (by rw [Own, List.length_append, bcs_append]; exact hown3) hg3); clear hown3 hg3)
          go_roundw
          case rel => exact ⟨n - 1, r.sig, data ++ r.data, r.s, rfl, ⟨HD3.out, HLE.out.2.1, by rw [List.length_append]; exact HLE.out.2.2.1, by have := HM.out.2.2.1; omega, HR3.out⟩⟩
          case measure =>
            obtain ⟨a3, c3, r3⟩ := HD3.out.rd
            rw [r3.len_at, HM.out.2.2.2.1]
            exact HLE.out.2.2.2
      · rw [if_neg hs] at hRn
        have hq1 : (r.sig == SG) = false := by simpa using hs
        have hq2 : (r.sig != SG) = true := by simpa using hs
        have HR3 := (show Hid _ from hRn)
        have HO2 := (show Hid (Below w.heap.size w w2) from HD1.out.bl.trans (HB2.out.mono HD1.out.bl.size))
        clear hs hRn
        go_wp2_with fail
        try rw [Exit.noGoto_ret]
        go_ret2
        rw [HR3.out]
        exact ⟨_, rfl, World.ownsRow_nil _ _ _ _, HO2.out⟩
    · have hRn := HRn.out
      rw [if_neg hf] at hRn
      have HR3 := (show Hid _ from hRn)
      have HO2 := (show Hid (Below w.heap.size w w1) from HD1.out.bl)
      clear hRn
      go_wp2_with fail
      go_quiet (fail)
      go_wp2_with fail
      try rw [Exit.noGoto_ret]
      go_ret2
      rw [HR3.out]
      exact ⟨_, rfl, World.ownsRow_nil _ _ _ _, HO2.out.trans ((drewN_below w1 _).mono HO2.out.size)⟩
end Go.Proofs.YtgpjjlkkfddjnaaDoor
/-
  cut: the pieces of data that make a chunk each.
-/
namespace Go.Proofs.YtgpjjlkkfddjnaaDoor
open Go.RowKit

/-- The data cut by sizes, and the empty piece that ends it. -/
def cutL : List UInt8 → List Int → List (List UInt8)
  | d, [] => if d = [] then [[]] else [d, []]
  | d, z :: zs => if 0 < z ∧ d ≠ [] then d.take z.toNat :: cutL (d.drop z.toNat) zs else cutL d zs
/-- Ints in memory. -/
def Ints (w : World) (a : Option Addr) (l : List Int) : Prop :=
  l = [] ∨ ∃ b off, a = some ⟨b, off, none⟩ ∧ b < w.heap.size ∧ ∀ j (h : j < l.length), w.cell? ⟨b, off + j, none⟩ = some (.int .i64 l[j])
/-- A piece: bytes that lie below B. -/
def PcAt (w : World) (B : Nat) (v : Value) (y : List UInt8) : Prop :=
  ∃ a c, v = .slice a y.length c ∧ y.length ≤ c ∧ Bytes w a y ∧ (∀ x, a = some x → x.spot = none ∧ x.block < B) ∧ (a = none → c = 0)
/-- Pieces. -/
structure Pcs (w : World) (B : Nat) (ps : List Value) (ys : List (List UInt8)) : Prop where
  len : ps.length = ys.length
  at_ : ∀ j (h : j < ys.length), PcAt w B (ps[j]'(by rw [len]; exact h)) ys[j]
theorem Pcs.snoc {w : World} {B : Nat} {ps : List Value} {ys : List (List UInt8)} (h : Pcs w B ps ys) {v : Value} {y : List UInt8} (hv : PcAt w B v y) : Pcs w B (ps ++ [v]) (ys ++ [y]) := by
  refine ⟨by simp [h.len], fun j hj => ?_⟩
  by_cases hlt : j < ys.length
  · have := h.at_ j hlt
    rw [List.getElem_append_left (by rw [h.len]; exact hlt), List.getElem_append_left hlt]
    exact this
  · have hj2 : j = ys.length := by
      have : j < ys.length + 1 := by simpa using hj
      omega
    subst hj2
    rw [List.getElem_append_right (by rw [h.len]; exact Nat.le_refl _), List.getElem_append_right (Nat.le_refl _)]
    simpa using hv
theorem from_lo {a : Option Addr} {cap k N : Nat} (h : ∀ x, a = some x → x.spot = none ∧ x.block < N) : ∀ x, fromA a cap k = some x → x.spot = none ∧ x.block < N := by
  intro x e
  unfold fromA at e
  split at e
  · exact h x e
  · cases a with
    | none => simp at e
    | some y =>
      obtain ⟨yb, yo, ys⟩ := y
      have := h _ rfl
      simp only at this
      obtain ⟨rfl, h2⟩ := this
      simp only [Option.map_some, Addr.add_lit, Option.some.injEq] at e
      subst e
      exact ⟨rfl, h2⟩
theorem from_nil {a : Option Addr} {cap k : Nat} (h : a = none → cap = 0) : fromA a cap k = none → cap - k = 0 := by
  intro e
  unfold fromA at e
  split at e
  · omega
  · have : a = none := by cases a with
      | none => rfl
      | some x => simp at e
    have := h this
    omega
theorem info22 : (Tryd.prog.info? 22).map (fun i => (i.zero, i.size, i.bytes)) = some (some (.slice none 0 0), 1, 24) := by kernel_rfl
/-- What cut's loop keeps. -/
structure CtI (w wr : World) (dv pv : Value) (D : List UInt8) (ps : List Value) (ys : List (List UInt8)) : Prop where
  d : PcAt w w.heap.size dv D
  own : wr.ownsRow w.heap.size 22 1 pv ps.length ps
  pc : Pcs w w.heap.size ps ys
  bl : Below w.heap.size w wr
theorem one_new (w : World) (a : Value) (t : TypeId) : ∀ j u, [a][j]? = some u → (w.alloc (.cells #[a] t)).cell? ((⟨w.heap.size, 0, none⟩ : Addr).add j) = some u := by
  intro j u hj
  rw [Addr.add_lit, World.cell?_alloc_mark]
  simpa using hj
theorem cut_go {d : List UInt8} {z : Int} {zs : List Int} (hz : 0 < z) (hd : d ≠ []) : cutL d (z :: zs) = d.take z.toNat :: cutL (d.drop z.toNat) zs := by rw [cutL, if_pos ⟨hz, hd⟩]
theorem cut_skip {d : List UInt8} {z : Int} {zs : List Int} (h : ¬ (0 < z ∧ d ≠ [])) : cutL d (z :: zs) = cutL d zs := by rw [cutL, if_neg h]
set_option maxRecDepth 20000 in
set_option maxHeartbeats 4000000 in
theorem cut_any (da : Option Addr) (data : List UInt8) (dc : Nat) (sa : Option Addr) (zs : List Int) (sc : Nat) (w : World) (hd : data.length ≤ dc) (hdl : data.length ≤ 1000000000) (hdB : Bytes w da data) (hdo : ∀ y, da = some y → y.spot = none ∧ y.block < w.heap.size) (hdn : da = none → dc = 0) (hS : Ints w sa zs) (hzl : zs.length ≤ 1000000000) :
    Calls Tryd.prog 30 #[.slice da data.length dc, .slice sa zs.length sc] w fun e w' => ∃ pv ps, e = .returned pv ∧ w'.ownsRow w.heap.size 22 1 pv ps.length ps ∧ Pcs w w.heap.size ps (cutL data zs) ∧ ps.length ≤ zs.length + 2 ∧ Below w.heap.size w w' := by
  have HZ := (show Hid (Ints w sa zs ∧ zs.length ≤ 1000000000) from ⟨hS, hzl⟩)
  have H0 := (show Hid (CtI w w (.slice da data.length dc) (.slice none 0 0) data [] []) from ⟨⟨da, dc, rfl, hd, hdB, hdo, hdn⟩, World.ownsRow_nil _ _ _ _, ⟨rfl, fun j h => by simp at h⟩, Below.refl _ _⟩)
  obtain ⟨i0, hi0, hz0, hz1, hz2⟩ := info_parts info22
  have HI0 := (show Hid (Tryd.prog.info? 22 = some i0 ∧ _ ∧ _ ∧ _) from ⟨hi0, hz0, hz1, hz2⟩)
  clear hS hzl hi0 hz0 hz1 hz2 hd hdB hdo hdn
  go_enter Tryd.func30, Tryd.ntmps30
  go_wp2_with fail
  go_loopw [0, 5, 11] (fun dv pv i wr => ∃ (k : Nat) (D : List UInt8) (ps : List Value) (ys : List (List UInt8)), k ≤ zs.length ∧ i = .int .i64 (k : Int) ∧ Hid (CtI w wr dv pv D ps ys ∧ ps.length ≤ k ∧ cutL data zs = ys ++ cutL D (zs.drop k) ∧ D.length ≤ 1000000000)) (fun _ _ i _ => zs.length - (intOf i).toNat)
  case atStart => exact ⟨0, data, [], [], Nat.zero_le _, rfl, ⟨H0.out, Nat.zero_le _, rfl, hdl⟩⟩
  case round =>
    obtain ⟨k, D, ps, ys, hk, rfl, hi⟩ := hrel
    obtain ⟨a1, c1, rfl, hc1, hB1, hl1, hn1⟩ := hi.out.1.d
    obtain ⟨pa, pc, rfl⟩ := own_slice hi.out.1.own
    have HD := (show Hid (D.length ≤ c1 ∧ Bytes w a1 D ∧ (∀ y, a1 = some y → y.spot = none ∧ y.block < w.heap.size) ∧ (a1 = none → c1 = 0)) from ⟨hc1, hB1, hl1, hn1⟩)
    clear hB1 hl1 hn1
    by_cases hlt : k < zs.length
    · have hki : (k : Int) < (zs.length : Int) := by omega
      have hk0 : (0 : Int) ≤ (k : Int) := by omega
      have hk9 : (k : Int) < 10000000000 := by have := HZ.out.2; omega
      rcases HZ.out.1 with hnil | ⟨b, off, rfl, hbs, hcs⟩
      · rw [hnil] at hlt; simp at hlt
      have hcell : wr.cell? ⟨b, off + k, none⟩ = some (.int .i64 zs[k]) := (hi.out.1.bl.cell (p := ⟨b, off + k, none⟩) hbs).trans (hcs k hlt)
      have hstep := hi.out.2.2.1
      rw [List.drop_eq_getElem_cons hlt] at hstep
      obtain ⟨z, hz⟩ : ∃ z, z = zs[k] := ⟨_, rfl⟩
      rw [← hz] at hcell hstep
      clear hz hcs
      by_cases hzp : 0 < z ∧ D ≠ []
      · rw [cut_go hzp.1 hzp.2] at hstep
        have hDl : 0 < D.length := List.length_pos_iff.2 hzp.2
        obtain ⟨n, hn1, hn2, hn3, hn4, hn5⟩ : ∃ n : Nat, 0 < n ∧ n ≤ D.length ∧ min z (D.length : Int) = (n : Int) ∧ D.take z.toNat = D.take n ∧ D.drop z.toNat = D.drop n := by
          by_cases hzl : z ≤ (D.length : Int)
          · exact ⟨z.toNat, by omega, by omega, by omega, rfl, rfl⟩
          · exact ⟨D.length, hDl, Nat.le_refl _, by omega, by rw [List.take_of_length_le (by omega), List.take_length], by rw [List.drop_eq_nil_of_le (by omega), List.drop_length]⟩
        rw [hn4, hn5] at hstep
        have HST := (show Hid _ from hstep)
        have hnp : (0 : Int) < (n : Int) := by omega
        have hnd : (n : Int) ≤ (D.length : Int) := by omega
        have hnc : (n : Int) ≤ (c1 : Int) := by omega
        have HPT := (show Hid (PcAt w w.heap.size (.slice a1 n c1) (D.take n)) from ⟨a1, c1, by rw [List.length_take]; congr 1; omega, by rw [List.length_take]; omega, bytes_take n HD.out.2.1, HD.out.2.2.1, HD.out.2.2.2⟩)
        have HPF := (show Hid (PcAt w w.heap.size (.slice (fromA a1 c1 n) (D.length - n) (c1 - n)) (D.drop n)) from ⟨_, _, by rw [List.length_drop], by rw [List.length_drop]; omega, bytes_from HD.out.2.1 HD.out.1, from_lo HD.out.2.2.1, from_nil HD.out.2.2.2⟩)
        have HN := (show Hid (n ≤ D.length) from hn2)
        have HOA := (show Hid ((wr.alloc (.cells #[Value.slice a1 n c1] 22)).ownsRow w.heap.size 22 1 (.slice pa ps.length pc) ps.length ps) from World.ownsRow.alloc hi.out.1.own _)
        have HBA := (show Hid (Below w.heap.size w (wr.alloc (.cells #[Value.slice a1 n c1] 22))) from hi.out.1.bl.alloc hi.out.1.bl.size _)
        clear hn4 hn5 hstep hzp hn2 hDl hnp
        go_wp2_with (at_builtin; (refine wpList_append_own _ rfl (.tmp 21) (.tmp 25) 66 rfl w.heap.size 22 i0 _ 1 24 Tryd.underlying66 HI0.out.1 HI0.out.2.1 HI0.out.2.2.1 HI0.out.2.2.2 rfl (by omega) (.slice pa ps.length pc) ps.length ps rfl HOA.out ⟨wr.heap.size, 0, none⟩ 1 1 [Value.slice a1 n c1] rfl rfl (one_new _ _ _) (fun u hu => by simp only [List.mem_singleton] at hu; subst hu; rfl) (by have := hi.out.2.1; have := HZ.out.2; unfold maxLen; omega) (by have := hi.out.2.1; have := HZ.out.2; omega) HBA.out.size ?_); intro v3 w3 hown3 hg3 _; have HO3 := (show Hid (w3.ownsRow w.heap.size 22 1 v3 (ps ++ [Value.slice a1 n c1]).length (ps ++ [Value.slice a1 n c1]) ∧ Below w.heap.size w w3) from ⟨by rw [List.length_append]; exact hown3, HBA.out.grown hg3 HBA.out.size (fun j hj => (World.ownsRow.lt HOA.out j hj).1)⟩); clear hown3 hg3)
        all_goals
          go_roundw
          case rel => exact ⟨k + 1, D.drop n, ps ++ [Value.slice a1 n c1], ys ++ [D.take n], by omega, by go_num, ⟨⟨by simpa [fromA, *] using HPF.out, HO3.out.1, hi.out.1.pc.snoc HPT.out, HO3.out.2⟩, by rw [List.length_append]; have := hi.out.2.1; simp only [List.length_cons, List.length_nil]; omega, by rw [HST.out]; simp, by rw [List.length_drop]; have := hi.out.2.2.2; omega⟩⟩
          case measure => simp [intOf]; omega
      · rw [cut_skip hzp] at hstep
        have HST := (show Hid _ from hstep)
        have hmin : ¬ 0 < min z (D.length : Int) := by
          intro h
          apply hzp
          refine ⟨by omega, fun e => ?_⟩
          rw [e] at h
          simp only [List.length_nil] at h
          omega
        clear hzp hstep
        go_wp2_with fail
        all_goals
          go_roundw
          case rel => exact ⟨k + 1, D, ps, ys, by omega, by go_num, ⟨hi.out.1, by have := hi.out.2.1; omega, HST.out, hi.out.2.2.2⟩⟩
          case measure => simp [intOf]; omega
    · obtain rfl : k = zs.length := by omega
      have hstep := hi.out.2.2.1
      rw [List.drop_length, cutL] at hstep
      have HPN := (show Hid (PcAt w w.heap.size (.slice none 0 0) []) from ⟨none, 0, rfl, Nat.le_refl _, .inl rfl, (fun x hx => by cases hx), fun _ => rfl⟩)
      by_cases h0 : D = []
      · rw [if_pos h0] at hstep
        have HST := (show Hid _ from hstep)
        have hD0 : ¬ 0 < D.length := by rw [h0]; simp
        have HOA := (show Hid ((wr.alloc (.cells #[.slice none 0 0] 22)).ownsRow w.heap.size 22 1 (.slice pa ps.length pc) ps.length ps) from World.ownsRow.alloc hi.out.1.own _)
        have HBA := (show Hid (Below w.heap.size w (wr.alloc (.cells #[.slice none 0 0] 22))) from hi.out.1.bl.alloc hi.out.1.bl.size _)
        clear hstep h0
        go_wp2_with (at_builtin; refine wpList_append_own _ rfl (.tmp 38) (.tmp 39) 66 rfl w.heap.size 22 i0 _ 1 24 Tryd.underlying66 HI0.out.1 HI0.out.2.1 HI0.out.2.2.1 HI0.out.2.2.2 rfl (by omega) (.slice pa ps.length pc) ps.length ps rfl HOA.out ⟨wr.heap.size, 0, none⟩ 1 1 [Value.slice none 0 0] rfl rfl (one_new _ _ _) (fun u hu => by simp only [List.mem_singleton] at hu; subst hu; rfl) (by have := hi.out.2.1; have := HZ.out.2; unfold maxLen; omega) (by have := hi.out.2.1; have := HZ.out.2; omega) HBA.out.size ?_; intro v3 w3 hown3 hg3 _; have HO3 := (show Hid (w3.ownsRow w.heap.size 22 1 v3 (ps ++ [Value.slice none 0 0]).length (ps ++ [Value.slice none 0 0]) ∧ Below w.heap.size w w3) from ⟨by rw [List.length_append]; exact hown3, HBA.out.grown hg3 HBA.out.size (fun j hj => (World.ownsRow.lt HOA.out j hj).1)⟩); clear hown3 hg3)
        go_ret
        exact ⟨_, _, rfl, HO3.out.1, by rw [HST.out]; exact hi.out.1.pc.snoc HPN.out, by rw [List.length_append]; have := hi.out.2.1; simp only [List.length_cons, List.length_nil]; omega, HO3.out.2⟩
      · rw [if_neg h0] at hstep
        have HST := (show Hid _ from hstep)
        have hD0 : 0 < D.length := List.length_pos_iff.2 h0
        have HOA := (show Hid ((wr.alloc (.cells #[.slice a1 D.length c1] 22)).ownsRow w.heap.size 22 1 (.slice pa ps.length pc) ps.length ps) from World.ownsRow.alloc hi.out.1.own _)
        have HBA := (show Hid (Below w.heap.size w (wr.alloc (.cells #[.slice a1 D.length c1] 22))) from hi.out.1.bl.alloc hi.out.1.bl.size _)
        clear hstep h0
        go_upto_region 12 with (at_builtin; refine wpList_append_own _ rfl (.tmp 34) (.tmp 36) 66 rfl w.heap.size 22 i0 _ 1 24 Tryd.underlying66 HI0.out.1 HI0.out.2.1 HI0.out.2.2.1 HI0.out.2.2.2 rfl (by omega) (.slice pa ps.length pc) ps.length ps rfl HOA.out ⟨wr.heap.size, 0, none⟩ 1 1 [Value.slice a1 D.length c1] rfl rfl (one_new _ _ _) (fun u hu => by simp only [List.mem_singleton] at hu; subst hu; rfl) (by have := hi.out.2.1; have := HZ.out.2; unfold maxLen; omega) (by have := hi.out.2.1; have := HZ.out.2; omega) HBA.out.size ?_; intro v3 w3 hown3 hg3 _; have HO3 := (show Hid (w3.ownsRow w.heap.size 22 1 v3 (ps.length + 1) (ps ++ [Value.slice a1 D.length c1]) ∧ Below w.heap.size w w3) from ⟨hown3, HBA.out.grown hg3 HBA.out.size (fun j hj => (World.ownsRow.lt HOA.out j hj).1)⟩); clear hown3 hg3)
        have HOB := (show Hid ((w3.alloc (.cells #[.slice none 0 0] 22)).ownsRow w.heap.size 22 1 v3 (ps.length + 1) (ps ++ [Value.slice a1 D.length c1])) from World.ownsRow.alloc HO3.out.1 _)
        have HBB := (show Hid (Below w.heap.size w (w3.alloc (.cells #[.slice none 0 0] 22))) from HO3.out.2.alloc HO3.out.2.size _)
        go_wp2_with (at_builtin; refine wpList_append_own _ rfl (.tmp 38) (.tmp 39) 66 rfl w.heap.size 22 i0 _ 1 24 Tryd.underlying66 HI0.out.1 HI0.out.2.1 HI0.out.2.2.1 HI0.out.2.2.2 rfl (by omega) v3 (ps.length + 1) (ps ++ [Value.slice a1 D.length c1]) rfl HOB.out ⟨w3.heap.size, 0, none⟩ 1 1 [Value.slice none 0 0] rfl rfl (one_new _ _ _) (fun u hu => by simp only [List.mem_singleton] at hu; subst hu; rfl) (by have := hi.out.2.1; have := HZ.out.2; unfold maxLen; omega) (by have := hi.out.2.1; have := HZ.out.2; omega) HBB.out.size ?_; intro v4 w4 hown4 hg4 _; have HO4 := (show Hid (w4.ownsRow w.heap.size 22 1 v4 (ps ++ [Value.slice a1 D.length c1] ++ [Value.slice none 0 0]).length (ps ++ [Value.slice a1 D.length c1] ++ [Value.slice none 0 0]) ∧ Below w.heap.size w w4) from ⟨by rw [List.length_append, List.length_append]; exact hown4, HBB.out.grown hg4 HBB.out.size (fun j hj => (World.ownsRow.lt HOB.out j hj).1)⟩); clear hown4 hg4)
        go_ret
        exact ⟨_, _, rfl, HO4.out.1, by rw [HST.out, show ys ++ [D, []] = ys ++ [D] ++ [[]] from by simp]; exact (hi.out.1.pc.snoc ⟨a1, c1, rfl, HD.out⟩).snoc HPN.out, by rw [List.length_append, List.length_append]; have := hi.out.2.1; simp only [List.length_cons, List.length_nil]; omega, HO4.out.2⟩
end Go.Proofs.YtgpjjlkkfddjnaaDoor
/-
  strconv.FormatInt at the base 16.
-/
namespace Go.Proofs.YtgpjjlkkfddjnaaDoor
open Go.RowKit

/-- The table of bits has its place for 16. -/
def Tz (w : World) : Prop := w.cell? ⟨5, 15, none⟩ = some (.int .u8 4)
theorem Tz.below {w w' : World} (h : Tz w) {B : Nat} (hb : Below B w w') (hB : w.heap.size ≤ B) : Tz w' := by
  have p1 : 5 < w.heap.size := block_lt_of_cell h
  exact (hb.cell (by show 5 < B; omega)).trans h
/-- A digit. -/
def hxC (n : Nat) : UInt8 := UInt8.ofNat (if n < 10 then 48 + n else 87 + n)
/-- A number's digits, the last ones first told: k of them at most. -/
def hxF : Nat → Nat → List UInt8
  | 0, _ => []
  | k + 1, n => if n < 16 then [hxC n] else hxF k (n / 16) ++ [hxC (n % 16)]
def hxN (n : Nat) : List UInt8 := hxF 64 n
theorem hxF_more : ∀ (k m n : Nat), n < 16 ^ k → n < 16 ^ m → 0 < k → 0 < m → hxF k n = hxF m n
  | 0, _, _, _, _, h, _ => by omega
  | _, 0, _, _, _, _, h => by omega
  | k + 1, m + 1, n, h1, h2, _, _ => by
    rw [hxF, hxF]
    by_cases h : n < 16
    · rw [if_pos h, if_pos h]
    · rw [if_neg h, if_neg h]
      have hk : 0 < k := by
        rcases Nat.eq_zero_or_pos k with rfl | h3
        · simp at h1; omega
        · exact h3
      have hm : 0 < m := by
        rcases Nat.eq_zero_or_pos m with rfl | h3
        · simp at h2; omega
        · exact h3
      rw [hxF_more k m (n / 16) (by rw [Nat.div_lt_iff_lt_mul (by omega)]; rw [Nat.pow_succ] at h1; exact h1) (by rw [Nat.div_lt_iff_lt_mul (by omega)]; rw [Nat.pow_succ] at h2; exact h2) hk hm]
theorem hxN_small {n : Nat} (h : n < 16) : hxN n = [hxC n] := by rw [hxN, hxF, if_pos h]
theorem hxN_great {n : Nat} (h : ¬ n < 16) (hn : n < 1000000000000) : hxN n = hxN (n / 16) ++ [hxC (n % 16)] := by
  rw [hxN, hxF, if_neg h, hxN]
  have e1 : (1000000000000 : Nat) < 16 ^ 63 := by decide
  have e2 : (1000000000000 : Nat) < 16 ^ 64 := by decide
  rw [hxF_more 63 64 (n / 16) (by omega) (by omega) (by omega) (by omega)]
theorem wraps63 (n : Int) (h₀ : 0 ≤ n) (h₁ : n < 2 ^ 63) : IntKind.u64.wrap n = n := by rw [IntKind.wrap_u64]; omega
theorem and15 {m : Nat} (h : m < 1000000000000) : bits .and .u64 (m : Int) 15 = ((m % 16 : Nat) : Int) := by
  have h := bits_mask .u64 63 (by decide) wraps63 4 (by decide) (m : Int) (by omega) (by omega)
  have e : ((2 : Int) ^ 4 - 1) = 15 := by decide
  have e2 : ((2 : Int) ^ 4) = 16 := by decide
  rw [e, e2] at h
  rw [h]
  omega
set_option maxHeartbeats 1000000 in
theorem pow_any (w : World) : Calls Tryd.prog 83 #[.int .i64 16] w fun e w' => e = .returned (.bool true) ∧ w' = w := by
  have hb : bits .and .i64 16 15 = 0 := by decide
  go_enter Tryd.func83, Tryd.ntmps83
  go_wp2
  go_ret
  exact ⟨rfl, rfl⟩
set_option maxHeartbeats 1000000 in
theorem tz_any (w : World) (h : Tz w) : Calls Tryd.prog 84 #[.int .u64 16] w fun e w' => e = .returned (.int .i64 4) ∧ w' = w := by
  have c : w.cell? ⟨5, 15, none⟩ = some (.int .u8 4) := h
  clear h
  have hw : IntKind.u64.wrap (-16) = 18446744073709551600 := by decide
  have hb : bits .and .u64 16 18446744073709551600 = 16 := by decide
  have hm : IntKind.u64.wrap (16 * 285870213051353865) = 4573923408821661840 := by decide
  go_enter Tryd.func84, Tryd.ntmps84
  go_wp2
  go_ret
  exact ⟨rfl, rfl⟩
end Go.Proofs.YtgpjjlkkfddjnaaDoor
/-
  strconv.FormatInt at the base 16: the walk.
-/
namespace Go.Proofs.YtgpjjlkkfddjnaaDoor
open Go.RowKit

def digT : ByteArray := ⟨#[48, 49, 50, 51, 52, 53, 54, 55, 56, 57, 97, 98, 99, 100, 101, 102, 103, 104, 105, 106, 107, 108, 109, 110, 111, 112, 113, 114, 115, 116, 117, 118, 119, 120, 121, 122]⟩
theorem dig_fin : ∀ d : Fin 16, (digT.data[d.val]'(by show d.val < 36; omega)).toNat = (hxC d.val).toNat := by decide
theorem dig_at (d : Nat) (hd : d < 16) (h : d < (⟨#[48, 49, 50, 51, 52, 53, 54, 55, 56, 57, 97, 98, 99, 100, 101, 102, 103, 104, 105, 106, 107, 108, 109, 110, 111, 112, 113, 114, 115, 116, 117, 118, 119, 120, 121, 122]⟩ : ByteArray).size) : ((⟨#[48, 49, 50, 51, 52, 53, 54, 55, 56, 57, 97, 98, 99, 100, 101, 102, 103, 104, 105, 106, 107, 108, 109, 110, 111, 112, 113, 114, 115, 116, 117, 118, 119, 120, 121, 122]⟩ : ByteArray)[d]'h).toNat = (hxC d).toNat := dig_fin ⟨d, hd⟩
theorem slice_tail (A q : Nat) (w : World) (hq : q < 65) : (Instr.sliceAt 128 (.pointer (some ⟨A, 0, none⟩)) (some (.int .i64 (q : Int))) none none).run Tryd.prog w = .ok (.slice (some ⟨A, q, none⟩) (65 - q) (65 - q)) w := by
  have hl : (Tryd.prog.arrayLen 128) = 65 := by kernel_rfl
  obtain ⟨i0, hi, hz0, hz1, hz2⟩ := info_parts info5
  simp [Instr.sliceAt, Instr.sureAddr, run_underlying Tryd.underlying128, Instr.sliceBounds, run_sliceBound, sizeOf, typeInfo, hi, hz1, (by omega : (q : Int) ≤ 65), Addr.add]
  rw [if_neg (by omega)]
  split
  · rename_i h; subst h; rfl
  · rfl
/-- What is written of the digits, so far. -/
structure FmI (w wr : World) (A q : Nat) (T : List UInt8) (cur : Array Value) : Prop where
  box : wr.heap[A]? = some (.cells cur 128 (0, 0))
  size : cur.size = 65
  len : T.length + q = 65
  at_ : ∀ j (h : j < T.length), cur[q + j]? = some (.int .u8 (T[j].toNat : Int))
  bl : Below w.heap.size w wr
  ge : w.heap.size ≤ A
theorem FmI.add {w wr : World} {A q : Nat} {T : List UInt8} {cur : Array Value} (h : FmI w wr A (q + 1) T cur) (c : UInt8) (v : Value) (hv : v = .int .u8 (c.toNat : Int)) : FmI w (wr.setCell ⟨A, q, none⟩ v) A q (c :: T) (cur.setIfInBounds q v) := by
  have hl := h.len
  refine ⟨set_blk h.box _ _, by rw [Array.size_setIfInBounds]; exact h.size, by simp only [List.length_cons]; omega, fun j hj => ?_, Md.toBelow h.bl (Md.setp (p := A) (Md.refl _ _) q v) (fun b hb e => by have := h.ge; omega) (Nat.le_refl _), h.ge⟩
  cases j with
  | zero =>
    rw [Nat.add_zero, Array.getElem?_setIfInBounds_self_of_lt (by rw [h.size]; omega), hv]
    rfl
  | succ j =>
    rw [Array.getElem?_setIfInBounds_ne (by omega), show q + (j + 1) = q + 1 + j from by omega]
    exact h.at_ j (by simpa using hj)
theorem FmI.conv {w wr : World} {A q : Nat} {T : List UInt8} {cur : Array Value} (h : FmI w wr A q T cur) : (convert 22 9 (.slice (some ⟨A, q, none⟩) (65 - q) (65 - q))).run Tryd.prog wr = .ok (.string ⟨T.toArray⟩) wr := by
  have hl := h.len
  have hB : Bytes wr (some ⟨A, q, none⟩) T := .inr ⟨A, q, rfl, blk_lt h.box, fun j hj => (cell_blk h.box (q + j)).trans (h.at_ j hj)⟩
  have := convert_bytes wr (some ⟨A, q, none⟩) (65 - q) T hB
  rw [show T.length = 65 - q from by omega] at this
  exact this
set_option maxRecDepth 20000 in
set_option maxHeartbeats 2000000 in
theorem bits_any (n : Nat) (w : World) (hn : n < 1000000000000) (ht : Tz w) :
    Calls Tryd.prog 72 #[.slice none 0 0, .int .u64 (n : Int), .int .i64 16, .bool false, .bool false] w fun e w' => e = .returned (.tuple #[.slice none 0 0, .string ⟨(hxN n).toArray⟩]) ∧ Below w.heap.size w w' := by
  have HP := (show Hid (∀ W, Calls Tryd.prog 83 #[.int .i64 16] W fun e w' => e = .returned (.bool true) ∧ w' = W) from pow_any)
  have HT : Hid (Tz w) := ht
  have HN : Hid (n < 1000000000000) := hn
  clear ht
  go_enter Tryd.func72, Tryd.ntmps72
  go_wp2_with (first
    | (go_at_call 83; refine Calls.mono (HP.out _) ?_; rintro e w1 ⟨rfl, rfl⟩)
    | (go_at_call 84; refine Calls.mono (tz_any _ (HT.out.below ((Below.refl _ _).alloc (Nat.le_refl _) _) (Nat.le_refl _))) ?_; rintro e w1 ⟨rfl, rfl⟩))
  obtain ⟨A, hA⟩ : ∃ A, A = w.heap.size := ⟨_, rfl⟩
  rw [← hA]
  have HA := (show Hid (A = w.heap.size) from hA)
  have h0 : (w.alloc (.cells Tryd.zeroCells128 128)).heap[A]? = some (.cells Tryd.zeroCells128 128 (0, 0)) := by rw [hA]; exact heap_alloc_new w _
  have h1 : Tryd.zeroCells128.size = 65 := by kernel_rfl
  have hb0 : Below w.heap.size w (w.alloc (.cells Tryd.zeroCells128 128)) := (Below.refl _ _).alloc (Nat.le_refl _) _
  have HI := (show Hid ((w.alloc (.cells Tryd.zeroCells128 128)).heap[A]? = some (.cells Tryd.zeroCells128 128 (0, 0)) ∧ _ ∧ _) from ⟨h0, h1, hb0⟩)
  generalize w.alloc (.cells Tryd.zeroCells128 128) = W0 at *
  generalize Tryd.zeroCells128 = Z at *
  clear h0 h1 hb0 hA
  go_loopw [1, 13] (fun u i wr => ∃ (m q : Nat) (T : List UInt8) (cur : Array Value), u = .int .u64 (m : Int) ∧ i = .int .i64 (q : Int) ∧ q ≤ 65 ∧ Hid (FmI w wr A q T cur ∧ hxN n = hxN m ++ T ∧ m * 16 ^ T.length ≤ n ∧ T.length < 12)) (fun u _ _ => (intOf u).toNat)
  case atStart => exact ⟨n, 65, [], Z, rfl, rfl, by omega, ⟨⟨HI.out.1, HI.out.2.1, rfl, fun j h => by simp at h, HI.out.2.2, by rw [HA.out]; exact Nat.le_refl _⟩, by simp, by simp, by simp⟩⟩
  case round =>
    obtain ⟨m, q, T, cur, rfl, rfl, hq, hi⟩ := hrel
    by_cases hm : m < 16
    · have HM := (show Hid (m < 16) from hm)
      have hTq : 1 ≤ q := by
        have hT := hi.out.2.2.2
        have := hi.out.1.len
        omega
      obtain ⟨q', rfl⟩ : ∃ q', q = q' + 1 := ⟨q - 1, by omega⟩
      have f0 := frozen_blk hi.out.1.box q'
      obtain ⟨v0, hv0⟩ : ∃ v, cur[q']? = some v := ⟨cur[q']'(by have := hi.out.1.size; omega), Array.getElem?_eq_getElem _⟩
      have c0 : wr.cell? ⟨A, q', none⟩ = some v0 := (cell_blk hi.out.1.box q').trans hv0
      have hmi : (m : Int) < 16 := by omega
      have hq65 : (q' : Int) < 65 := by omega
      have hdi : (m : Int) < 36 := by omega
      clear hv0 hm
      go_upto_region 30 with fail
      have hE := hi.out.1.add (hxC m) _ (by rw [← dig_at m HM.out (by show m < 36; omega)])
      have hcv := hE.conv
      have hbl := hE.bl
      have HR := (show Hid (hxN n = hxC m :: T) from by show _ = _; rw [hi.out.2.1, hxN_small HM.out]; rfl)
      clear f0 c0
      revert hcv hbl hE
      generalize hW9 : wr.setCell _ _ = W9
      intro hE hcv hbl
      have HBL := (show Hid _ from hbl)
      clear hW9 hE hbl
      have hsl := slice_tail A q' W9 (by omega)
      go_wp2
      go_ret2
      rw [HR.out]
      exact ⟨rfl, HBL.out⟩
    · have hT : T.length < 10 := by
        rcases Nat.lt_or_ge T.length 10 with h | h
        · exact h
        · have e1 : 16 ^ 10 ≤ 16 ^ T.length := Nat.pow_le_pow_right (by omega) h
          have e2 : 16 * 16 ^ T.length ≤ m * 16 ^ T.length := Nat.mul_le_mul_right _ (by omega)
          have e3 := hi.out.2.2.1
          have e4 : (1000000000000 : Nat) < 16 * 16 ^ 10 := by decide
          have := HN.out
          omega
      have hm12 : m < 1000000000000 := by
        have e2 : m * 1 ≤ m * 16 ^ T.length := Nat.mul_le_mul_left _ (Nat.pos_of_ne_zero (by simp))
        have e3 := hi.out.2.2.1
        have := HN.out
        omega
      obtain ⟨q', rfl⟩ : ∃ q', q = q' + 1 := ⟨q - 1, by have := hi.out.1.len; omega⟩
      have hand := and15 hm12
      have hd : m % 16 < 16 := Nat.mod_lt _ (by omega)
      obtain ⟨d, hdd⟩ : ∃ d, d = m % 16 := ⟨_, rfl⟩
      rw [← hdd] at hand hd
      have HDD := (show Hid _ from hdd)
      have f0 := frozen_blk hi.out.1.box q'
      obtain ⟨v0, hv0⟩ : ∃ v, cur[q']? = some v := ⟨cur[q']'(by have := hi.out.1.size; omega), Array.getElem?_eq_getElem _⟩
      have c0 : wr.cell? ⟨A, q', none⟩ = some v0 := (cell_blk hi.out.1.box q').trans hv0
      have hmi : ¬ (m : Int) < 16 := by omega
      have hq65 : (q' : Int) < 65 := by omega
      have hdi : (d : Int) < 36 := by omega
      clear hdd hv0 hm
      go_wp2
      have hE := hi.out.1.add (hxC d) _ (by rw [← dig_at d hd (by show d < 36; omega)])
      refine ⟨⟨m / 16, q', hxC d :: T, _, by go_num, rfl, by omega, ⟨hE, ?_, ?_, by simp only [List.length_cons]; omega⟩⟩, ?_⟩
      · rw [hi.out.2.1, hxN_great (by omega) hm12, ← HDD.out]
        simp
      · have e1 := hi.out.2.2.1
        rw [List.length_cons, Nat.pow_succ, Nat.mul_comm (16 ^ T.length) 16, ← Nat.mul_assoc]
        exact Nat.le_trans (Nat.mul_le_mul_right _ (Nat.div_mul_le_self m 16)) e1
      · simp only [intOf]
        omega
set_option maxHeartbeats 1000000 in
theorem format_any (n : Nat) (w : World) (hn : n < 1000000000000) (ht : Tz w) :
    Calls Tryd.prog 31 #[.int .i64 (n : Int), .int .i64 16] w fun e w' => e = .returned (.string ⟨(hxN n).toArray⟩) ∧ Below w.heap.size w w' := by
  have K := (show Hid _ from bits_any n w hn ht)
  have h0 : (0 : Int) ≤ (n : Int) := by omega
  have h9 : (n : Int) < 1000000000000 := by omega
  have HI : Hid (Calls Tryd.prog 55 #[.int .i64 (n : Int), .int .i64 16] w fun e w' => e = .returned (.string ⟨(hxN n).toArray⟩) ∧ Below w.heap.size w w') := by
    clear ht hn
    show Calls _ _ _ _ _
    go_enter Tryd.func55, Tryd.ntmps55
    go_wp2_with fail
    refine Calls.mono K.out ?_
    rintro e w1 ⟨rfl, hb⟩
    have HB := (show Hid _ from hb)
    clear hb K
    go_wp2
    go_ret
    exact ⟨rfl, HB.out⟩
  clear ht hn K
  go_enter Tryd.func31, Tryd.ntmps31
  go_wp2_with fail
  refine Calls.mono HI.out ?_
  rintro e w1 ⟨rfl, hb⟩
  have HB := (show Hid _ from hb)
  clear hb HI
  go_wp2
  go_ret
  exact ⟨rfl, HB.out⟩
end Go.Proofs.YtgpjjlkkfddjnaaDoor
/-
  chunk.Encode: data is cut and signed.
-/
namespace Go.Proofs.YtgpjjlkkfddjnaaDoor
open Go.RowKit

/-- A chunk's text. -/
def chkT (sig p : List UInt8) : List UInt8 := hxN p.length ++ sigT ++ sig ++ crT ++ p ++ crT
def encF (key date scope : List UInt8) : List UInt8 → List (List UInt8) → List UInt8
  | _, [] => []
  | last, p :: ps => chkT (sgL key date scope last p) p ++ encF key date scope (sgL key date scope last p) ps
def encL (x : Wh) (data : List UInt8) (zs : List Int) : List UInt8 := encF x.key x.date x.scope x.sig (cutL data zs)
/-- The signature of the last of some chunks. -/
def lastF (key date scope : List UInt8) : List UInt8 → List (List UInt8) → List UInt8
  | last, [] => last
  | last, p :: ps => lastF key date scope (sgL key date scope last p) ps
theorem encF_snoc {key date scope : List UInt8} {p : List UInt8} : ∀ (ps : List (List UInt8)) (last : List UInt8), encF key date scope last (ps ++ [p]) = encF key date scope last ps ++ chkT (sgL key date scope (lastF key date scope last ps) p) p
  | [], last => by simp [encF, lastF]
  | q :: ps, last => by simp [encF, lastF, encF_snoc ps, List.append_assoc]
theorem lastF_snoc {key date scope : List UInt8} {p : List UInt8} : ∀ (ps : List (List UInt8)) (last : List UInt8), lastF key date scope last (ps ++ [p]) = sgL key date scope (lastF key date scope last ps) p
  | [], last => by simp [lastF]
  | q :: ps, last => by simp [lastF, lastF_snoc ps]
theorem sgL_len (key date scope last data : List UInt8) : (sgL key date scope last data).length = 64 := by
  rw [sgL, hexL_length]
  rfl
theorem hxF_len : ∀ (k n : Nat), (hxF k n).length ≤ k
  | 0, n => by simp [hxF]
  | k + 1, n => by
    rw [hxF]
    split
    · simp
    · rw [List.length_append]
      have := hxF_len k (n / 16)
      simp only [List.length_cons, List.length_nil]
      omega
theorem chkT_len (sig p : List UInt8) : (chkT sig p).length ≤ sig.length + p.length + 100 := by
  have := hxF_len 64 p.length
  simp only [chkT, hxN, List.length_append, sigT, crT, List.length_cons, List.length_nil]
  omega
theorem lastF_len {key date scope : List UInt8} : ∀ (ps : List (List UInt8)) (last : List UInt8), last.length ≤ 1000000000 → (lastF key date scope last ps).length ≤ 1000000000
  | [], last, h => h
  | q :: ps, last, h => lastF_len ps _ (by rw [sgL_len]; omega)
/-- What Encode's loop keeps: the box of who signs, and the body so far. -/
structure EcI (w wr : World) (N : Nat) (x : Wh) (ka : Option Addr) (kc : Nat) (body : List UInt8) (bv : Value) : Prop where
  who : wr.heap[N]? = some (.cells #[.string ⟨x.id.toArray⟩, .string ⟨x.date.toArray⟩, .string ⟨x.scope.toArray⟩, .string ⟨x.sig.toArray⟩, .slice ka x.key.length kc, .string ⟨x.pay.toArray⟩] 24 (0, 0))
  own : Own wr w.heap.size bv body
  bl : Below w.heap.size w wr
theorem EcI.ne {w wr : World} {N : Nat} {x : Wh} {ka : Option Addr} {kc : Nat} {body : List UInt8} {bv : Value} (h : EcI w wr N x ka kc body bv) : ∀ j, bv.ownBlock = some j → j ≠ N ∧ w.heap.size ≤ j :=
  fun j hj => ⟨own_ne h.own h.who (by decide) j hj, (World.ownsRow.lt h.own j hj).1⟩
theorem EcI.keep {w wr W : World} {N : Nat} {x : Wh} {ka : Option Addr} {kc : Nat} {body : List UInt8} {bv : Value} (h : EcI w wr N x ka kc body bv) (hb : Below wr.heap.size wr W) : EcI w W N x ka kc body bv :=
  ⟨(hb.block N (blk_lt h.who)).trans h.who, own_md h.own (Md.ofBelow (F := fun _ => False) hb) (fun _ _ h => h), h.bl.trans (hb.mono h.bl.size)⟩
theorem EcI.add {w wr W : World} {N : Nat} {x : Wh} {ka : Option Addr} {kc : Nat} {body body' : List UInt8} {bv bv' : Value} (h : EcI w wr N x ka kc body bv) (ho : Own W w.heap.size bv' body') (hg : wr.grownBy W bv.ownBlock) : EcI w W N x ka kc body' bv' :=
  ⟨keep_blk h.who (Md.ofGrown hg) (fun e => (h.ne N e).1 rfl), ho, h.bl.grown hg h.bl.size (fun k hk => (h.ne k hk).2)⟩
/-- The append of a text to the body, for a walk. -/
theorem wpList_body_str {w wr : World} {N : Nat} {x : Wh} {ka : Option Addr} {kc : Nat} {body : List UInt8} {bv : Value} (hI : EcI w wr N x ka kc body bv) {ops : Array Oper} {rest : List Oper} {o : Oper} {a : Act} {Q : Exit → Act → World → Prop} (hgd : o.guard = none) (sl xo : Operand)
    (ho : o.op = .call { callee := .builtin .append, args := #[sl, xo], argTypes := #[22, 9] }) (hs : a.eval sl = bv) (s : ByteArray) (y : List UInt8) (hx : a.eval xo = .string s) (hy : s.data.toList = y) (hl : body.length + y.length ≤ 100000000000)
    (h : ∀ v' w', EcI w w' N x ka kc (body ++ y) v' → wr.grownBy w' bv.ownBlock → wpList Tryd.prog ops Q rest (a.put o.dst v') w') : wpList Tryd.prog ops Q (o :: rest) a wr := by
  obtain ⟨i0, hi, hz0, hz1, hz2⟩ := info_parts info5
  have e : s.size = y.length := by rw [← hy]; simp
  refine Lib.wpList_append_own_string wr hgd sl xo 22 9 ho w.heap.size 5 i0 Tryd.underlying22 Tryd.underlying9 hi hz0 hz1 hz2 bv body.length (bcs body) hs hI.own s hx (by unfold maxLen; omega) (by omega) hI.bl.size ?_
  intro v' w' h1 h2 _
  refine h v' w' (hI.add ?_ h2) h2
  rw [Own, List.length_append, bcs_append, ← e]
  have e2 : Lib.strCells s = bcs y := by rw [← hy]; simp [Lib.strCells, bcs]
  rw [← e2]
  exact h1
/-- The append of a piece. -/
theorem wpList_body_sl {w wr : World} {N : Nat} {x : Wh} {ka : Option Addr} {kc : Nat} {body : List UInt8} {bv : Value} (hI : EcI w wr N x ka kc body bv) {ops : Array Oper} {rest : List Oper} {o : Oper} {a : Act} {Q : Exit → Act → World → Prop} (hgd : o.guard = none) (sl xo : Operand)
    (ho : o.op = .call { callee := .builtin .append, args := #[sl, xo], argTypes := #[22, 22] }) (hs : a.eval sl = bv) (ad : Option Addr) (y : List UInt8) (c : Nat) (hx : a.eval xo = .slice ad y.length c) (hy : Bytes wr ad y) (hyc : y.length ≤ c) (hn : ad = none → c = 0) (hl : body.length + y.length ≤ 100000000000)
    (h : ∀ v' w', EcI w w' N x ka kc (body ++ y) v' → wr.grownBy w' bv.ownBlock → wpList Tryd.prog ops Q rest (a.put o.dst v') w') : wpList Tryd.prog ops Q (o :: rest) a wr := by
  obtain ⟨i0, hi, hz0, hz1, hz2⟩ := info_parts info5
  cases ad with
  | none =>
    obtain rfl : c = 0 := hn rfl
    obtain rfl : y = [] := List.eq_nil_of_length_eq_zero (by omega)
    refine wpList_append_own_none hgd sl xo 22 ho w.heap.size 5 i0 1 Tryd.underlying22 hi bv body.length (bcs body) hs hI.own hx ?_
    exact h bv wr (by rw [List.append_nil]; exact hI) ⟨rfl, rfl, rfl, Nat.le_refl _, fun _ _ _ => rfl⟩
  | some x0 =>
    have hnews : ∀ j u, (bcs y)[j]? = some u → wr.cell? (x0.add j) = some u := by
      intro j u hj
      rcases hy with rfl | ⟨b, off, e, _, hc⟩
      · simp [bcs] at hj
      · simp only [Option.some.injEq] at e
        subst e
        exact bytes_news hc j u hj
    refine wpList_append_own wr hgd sl xo 22 ho w.heap.size 5 i0 _ 1 1 Tryd.underlying22 hi hz0 hz1 hz2 rfl (by omega) bv body.length (bcs body) hs hI.own x0 y.length c (bcs y) hx (by rw [bcs_length]; omega) hnews (bcs_one _) (by unfold maxLen; omega) (by omega) hI.bl.size ?_
    intro v' w' h1 h2 _
    refine h v' w' (hI.add ?_ h2) h2
    rw [Own, List.length_append, bcs_append]
    exact h1
end Go.Proofs.YtgpjjlkkfddjnaaDoor
/-
  chunk.Encode: the walk.
-/
namespace Go.Proofs.YtgpjjlkkfddjnaaDoor
open Go.RowKit

theorem own_base {w : World} {base base' : Nat} {v : Value} {l : List UInt8} (h : Own w base v l) (hb : base' ≤ base) : Own w base' v l := by
  obtain ⟨h0, h1 | ⟨g, cap, cur, e, hg, rest⟩⟩ := h
  · exact ⟨h0, .inl h1⟩
  · exact ⟨h0, .inr ⟨g, cap, cur, e, Nat.le_trans hb hg, rest⟩⟩
theorem cut_flat : ∀ (zs : List Int) (d : List UInt8), (cutL d zs).flatten = d
  | [], d => by
    rw [cutL]
    split
    · next h => rw [h]; rfl
    · simp
  | z :: zs, d => by
    rw [cutL]
    split
    · rw [List.flatten_cons, cut_flat zs, List.take_append_drop]
    · exact cut_flat zs d
theorem cut_len : ∀ (zs : List Int) (d : List UInt8), (cutL d zs).length ≤ zs.length + 2
  | [], d => by
    rw [cutL]
    split <;> simp
  | z :: zs, d => by
    rw [cutL]
    split
    · have := cut_len zs (d.drop z.toNat)
      simp only [List.length_cons]
      omega
    · have := cut_len zs d
      simp only [List.length_cons]
      omega
theorem encF_len {key date scope : List UInt8} : ∀ (ps : List (List UInt8)) (last : List UInt8), (encF key date scope last ps).length ≤ 164 * ps.length + ps.flatten.length
  | [], last => by simp [encF]
  | p :: ps, last => by
    have h1 := encF_len (key := key) (date := date) (scope := scope) ps (sgL key date scope last p)
    have h2 := chkT_len (sgL key date scope last p) p
    rw [sgL_len] at h2
    simp only [encF, List.length_append, List.length_cons, List.flatten_cons]
    omega
theorem flat_take (ys : List (List UInt8)) (k : Nat) : (ys.take k).flatten.length ≤ ys.flatten.length := by
  have h : ys.flatten = (ys.take k).flatten ++ (ys.drop k).flatten := by rw [← List.flatten_append, List.take_append_drop]
  rw [h, List.length_append]
  omega
theorem piece_le {ys : List (List UInt8)} {k : Nat} (h : k < ys.length) : ys[k].length ≤ ys.flatten.length := by
  have h1 := flat_take ys (k + 1)
  rw [List.take_succ_eq_append_getElem h, List.flatten_append, List.length_append] at h1
  simp only [List.flatten_cons, List.flatten_nil, List.append_nil] at h1
  omega
set_option maxRecDepth 20000 in
set_option maxHeartbeats 4000000 in
theorem encode_any (x : Wh) (ka : Option Addr) (kc : Nat) (da : Option Addr) (data : List UInt8) (dc : Nat) (sa : Option Addr) (zs : List Int) (sc : Nat) (w : World) (hk : x.key.length ≤ kc) (hkl : x.key.length ≤ 1000000000) (hkB : Bytes w ka x.key)
    (h1 : x.date.length ≤ 1000000000) (h2 : x.scope.length ≤ 1000000000) (h3 : x.sig.length ≤ 1000000000)
    (hd : data.length ≤ dc) (hdl : data.length ≤ 1000000000) (hdB : Bytes w da data) (hdo : ∀ y, da = some y → y.spot = none ∧ y.block < w.heap.size) (hdn : da = none → dc = 0) (hS : Ints w sa zs) (hzl : zs.length ≤ 100000000) (ht : Tz w) :
    Calls Tryd.prog 15 #[x.v ka kc, .slice da data.length dc, .slice sa zs.length sc] w fun e w' => ∃ v, e = .returned v ∧ Own w' w.heap.size v (encL x data zs) ∧ Below w.heap.size w w' := by
  obtain ⟨W0, hW0⟩ : ∃ W0, W0 = w.alloc (.cells #[.string ⟨x.id.toArray⟩, .string ⟨x.date.toArray⟩, .string ⟨x.scope.toArray⟩, .string ⟨x.sig.toArray⟩, .slice ka x.key.length kc, .string ⟨x.pay.toArray⟩] 24) := ⟨_, rfl⟩
  obtain ⟨N, hN⟩ : ∃ N, N = w.heap.size := ⟨_, rfl⟩
  have n0 : W0.heap[N]? = some (.cells #[.string ⟨x.id.toArray⟩, .string ⟨x.date.toArray⟩, .string ⟨x.scope.toArray⟩, .string ⟨x.sig.toArray⟩, .slice ka x.key.length kc, .string ⟨x.pay.toArray⟩] 24 (0, 0)) := by rw [hW0, hN]; exact heap_alloc_new w _
  have hb0 : Below w.heap.size w W0 := by rw [hW0]; exact (Below.refl _ _).alloc (Nat.le_refl _) _
  have HS0 : Ints W0 sa zs := by
    rcases hS with h | ⟨b, off, e1, e2, e3⟩
    · exact .inl h
    · exact .inr ⟨b, off, e1, Nat.lt_of_lt_of_le e2 hb0.size, fun j hj => (hb0.cell (p := ⟨b, off + j, none⟩) e2).trans (e3 j hj)⟩
  have K1 := (show Hid _ from cut_any da data dc sa zs sc W0 hd hdl (hdB.below hb0 (Nat.le_refl _)) (fun y hy => ⟨(hdo y hy).1, Nat.lt_of_lt_of_le (hdo y hy).2 hb0.size⟩) hdn HS0 (by omega))
  have HW := (show Hid (x.key.length ≤ kc ∧ x.key.length ≤ 1000000000 ∧ Bytes W0 ka x.key ∧ x.date.length ≤ 1000000000 ∧ x.scope.length ≤ 1000000000 ∧ x.sig.length ≤ 1000000000 ∧ data.length ≤ 1000000000 ∧ zs.length ≤ 100000000 ∧ Tz W0) from ⟨hk, hkl, hkB.below hb0 (Nat.le_refl _), h1, h2, h3, hdl, hzl, ht.below hb0 (Nat.le_refl _)⟩)
  obtain ⟨ys, hys⟩ : ∃ ys, ys = cutL data zs := ⟨_, rfl⟩
  have HY := (show Hid (ys.flatten = data ∧ ys.length ≤ zs.length + 2) from by rw [hys]; exact ⟨cut_flat zs data, cut_len zs data⟩)
  obtain ⟨E, hE⟩ : ∃ E, E = encL x data zs := ⟨_, rfl⟩
  have HE := (show Hid (E = encF x.key x.date x.scope x.sig ys) from by show _ = _; rw [hE, encL, hys])
  rw [← hys] at K1
  rw [← hE]
  have HB0 := (show Hid (Below w.heap.size w W0) from hb0)
  have HN0 := (show Hid _ from n0)
  obtain ⟨x0, x1, x2, x3, x4, x5⟩ := six_of n0
  clear hk hkl hkB h1 h2 h3 hd hdl hdB hdo hdn hS hzl ht n0 hb0 HS0 hys hE
  unfold Wh.v
  go_enter Tryd.func15, Tryd.ntmps15
  go_upto_region 1 with fail
  rw [← hN, ← hW0]
  clear hN hW0
  go_wp2_with fail
  refine Calls.mono K1.out ?_
  rintro e W1 ⟨pv, ps, rfl, hpo, hpp, hpl, hb1⟩
  obtain ⟨pa, pc, rfl⟩ := own_slice hpo
  have H1 := (show Hid (W1.ownsRow W0.heap.size 22 1 (.slice pa ps.length pc) ps.length ps ∧ Pcs W0 W0.heap.size ps ys ∧ Below W0.heap.size W0 W1) from ⟨hpo, hpp, hb1⟩)
  have HPY : Hid (ps.length = ys.length) := hpp.len
  have n1 := (hb1.block N (blk_lt HN0.out)).trans HN0.out
  have HI := (show Hid (EcI W1 W1 N x ka kc [] (.slice none 0 0)) from ⟨n1, World.ownsRow_nil _ _ _ _, Below.refl _ _⟩)
  clear hpo hpp hb1 K1 n1 x0 x1 x2 x3 x4 x5
  go_wp2_with fail
  go_loopw [7, 8, 17] (fun lv bv i wr => ∃ k : Nat, k ≤ ps.length ∧ i = .int .i64 (k : Int) ∧ lv = .string ⟨(lastF x.key x.date x.scope x.sig (ys.take k)).toArray⟩ ∧ Hid (EcI W1 wr N x ka kc (encF x.key x.date x.scope x.sig (ys.take k)) bv)) (fun _ _ i _ => ps.length - (intOf i).toNat)
  case atStart => exact ⟨0, Nat.zero_le _, rfl, rfl, HI.out⟩
  case round =>
    obtain ⟨k, hk, rfl, rfl, hi⟩ := hrel
    by_cases hlt : k < ps.length
    · have hki : (k : Int) < (ps.length : Int) := by omega
      have hk0 : (0 : Int) ≤ (k : Int) := by omega
      have hky : k < ys.length := by have := HPY.out; omega
      have hk9 : (k : Int) < 1000000000 := by have := HPY.out; have := HY.out.2; have := HW.out.2.2.2.2.2.2.2.1; omega
      have hkN : k < 1000000000 := by omega
      obtain ⟨g, rfl, hg⟩ : ∃ g, pa = some ⟨g, 0, none⟩ ∧ g < W1.heap.size := by
        have ho := H1.out.1
        rcases ho.2 with ⟨e, h0⟩ | ⟨g, c2, cur, e, _, hgg, _⟩
        · omega
        · simp only [Value.slice.injEq] at e
          exact ⟨g, e.1, blk_lt hgg⟩
      have hcell : W1.cell? ⟨g, k, none⟩ = ps[k]? := World.ownsRow.cellAt H1.out.1 k (by omega)
      obtain ⟨qa, qc, hv, hqc, hqB, hqo, hqn⟩ := H1.out.2.1.at_ k hky
      rw [List.getElem?_eq_getElem hlt, hv] at hcell
      have hpl2 : ys[k].length ≤ data.length := by
        have := piece_le hky
        rw [HY.out.1] at this
        exact this
      have htk : ys.take (k + 1) = ys.take k ++ [ys[k]] := by rw [List.take_succ_eq_append_getElem hky]
      obtain ⟨p, hp⟩ : ∃ p, p = ys[k] := ⟨_, rfl⟩
      rw [← hp] at hcell hqc hqB hpl2 htk
      have hLl := lastF_len (key := x.key) (date := x.date) (scope := x.scope) (ys.take k) x.sig HW.out.2.2.2.2.2.1
      have hBl := encF_len (key := x.key) (date := x.date) (scope := x.scope) (ys.take k) x.sig
      have hfl := flat_take ys k
      rw [HY.out.1] at hfl
      have HTL := (show Hid (lastF x.key x.date x.scope x.sig (ys.take (k + 1)) = sgL x.key x.date x.scope (lastF x.key x.date x.scope x.sig (ys.take k)) p ∧ encF x.key x.date x.scope x.sig (ys.take (k + 1)) = encF x.key x.date x.scope x.sig (ys.take k) ++ chkT (sgL x.key x.date x.scope (lastF x.key x.date x.scope x.sig (ys.take k)) p) p) from by rw [htk]; exact ⟨lastF_snoc _ _, encF_snoc _ _⟩)
      obtain ⟨LS, hLS⟩ : ∃ LS, LS = lastF x.key x.date x.scope x.sig (ys.take k) := ⟨_, rfl⟩
      obtain ⟨BD, hBD⟩ : ∃ BD, BD = encF x.key x.date x.scope x.sig (ys.take k) := ⟨_, rfl⟩
      rw [← hBD, ← hLS] at HTL
      rw [← hLS] at hLl ⊢
      rw [← hBD] at hi hBl
      have hbW : Below W0.heap.size W0 wr := H1.out.2.2.trans (hi.out.bl.mono H1.out.2.2.size)
      have K2 := (show Hid _ from sign_any x ka kc LS p qa qc wr HW.out.1 HW.out.2.1 (HW.out.2.2.1.below hbW (Nat.le_refl _)) hqc (by have := HW.out.2.2.2.2.2.2.1; omega) (hqB.below hbW (Nat.le_refl _)) HW.out.2.2.2.1 HW.out.2.2.2.2.1 hLl)
      obtain ⟨SG, hSG⟩ : ∃ SG, SG = sgL x.key x.date x.scope LS p := ⟨_, rfl⟩
      have hSGl : SG.length = 64 := by rw [hSG]; exact sgL_len _ _ _ _ _
      rw [← hSG] at K2 HTL
      unfold Wh.v at K2
      have HQ := (show Hid (p.length ≤ qc ∧ Bytes W0 qa p ∧ (qa = none → qc = 0) ∧ SG.length = 64 ∧ BD.length ≤ 30000000000 ∧ p.length ≤ 1000000000 ∧ k < ps.length) from ⟨hqc, hqB, hqn, hSGl, by
        have h1 := HW.out.2.2.2.2.2.2.1
        have h2 := HW.out.2.2.2.2.2.2.2.1
        have h3 := HY.out.2
        have h9 := HPY.out
        have h4 : (ys.take k).length ≤ k := by rw [List.length_take]; omega
        have h5 : 164 * (ys.take k).length ≤ 164 * k := Nat.mul_le_mul_left _ h4
        omega, by have := HW.out.2.2.2.2.2.2.1; omega, hlt⟩)
      have c0 : wr.cell? ⟨g, k, none⟩ = some (.slice qa p.length qc) := (hi.out.bl.cell (p := ⟨g, k, none⟩) hg).trans hcell
      obtain ⟨x0, x1, x2, x3, x4, x5⟩ := six_of hi.out.who
      have HBW := (show Hid (Below W0.heap.size W0 wr) from hbW)
      clear hqc hqB hqn hqo hSGl hSG hBD hLS hp hv hcell hLl hBl hfl htk hbW hky hpl2 hkN
      go_wp2_with fail
      refine Calls.mono K2.out ?_
      rintro e w2 ⟨rfl, hb2⟩
      have HB2 := (show Hid (Below wr.heap.size wr w2) from hb2)
      have K3 := (show Hid _ from format_any p.length w2 (by have := HQ.out.2.2.2.2.2.1; omega) (HW.out.2.2.2.2.2.2.2.2.below (HBW.out.trans (hb2.mono HBW.out.size)) (Nat.le_refl _)))
      clear hb2 K2 c0 x0 x1 x2 x3 x4 x5
      go_wp2_with fail
      refine Calls.mono K3.out ?_
      rintro e w3 ⟨rfl, hb3⟩
      have HI3 := (show Hid (EcI W1 w3 N x ka kc BD _) from hi.out.keep (HB2.out.trans (hb3.mono HB2.out.size)))
      have hxl := hxF_len 64 p.length
      rw [show hxF 64 p.length = hxN p.length from rfl] at hxl
      have HX := (show Hid ((hxN p.length).length ≤ 64) from hxl)
      obtain ⟨HS, hHS⟩ : ∃ HS : ByteArray, HS = ⟨(hxN p.length).toArray⟩ := ⟨_, rfl⟩
      have hHz : HS.size ≤ 64 := by rw [hHS]; simpa [ByteArray.size] using hxl
      obtain ⟨GS, hGS⟩ : ∃ GS : ByteArray, GS = ⟨SG.toArray⟩ := ⟨_, rfl⟩
      have hGz : GS.size ≤ 64 := by rw [hGS]; have := HQ.out.2.2.2.1; simp [ByteArray.size]; omega
      rw [← hHS, ← hGS]
      have HSE := (show Hid (HS.data.toList = hxN p.length ∧ GS.data.toList = SG) from by rw [hHS, hGS]; exact ⟨by simp, by simp⟩)
      have HGS := (show Hid (GS = ⟨SG.toArray⟩) from hGS)
      clear hHS hGS
      clear hb3 K3
      have hq9 : ¬ (HS.size + 17 > 9223372036854775807) := by omega
      have hq8 : ¬ (HS.size + 17 + GS.size > 9223372036854775807) := by omega
      have hq7 : ¬ (HS.size + 17 + GS.size + 2 > 9223372036854775807) := by omega
      clear hHz hGz hxl
      go_upto_region 8 with (at_builtin; refine wpList_body_str HI3.out rfl (.tmp 25) (.tmp 32) rfl rfl _ (hxN p.length ++ sigT ++ SG ++ crT) rfl (by have := HSE.out; simp [sigT, crT, this.1, this.2]) (by have := HQ.out; have := HX.out; simp only [List.length_append, sigT, crT, List.length_cons, List.length_nil]; omega) ?_; intro v4 w4 h4 _; have HI4 := (show Hid (EcI W1 w4 N x ka kc (BD ++ (hxN p.length ++ sigT ++ SG ++ crT)) v4) from h4); clear h4)
      have HB4 := (show Hid (Bytes w4 qa p) from HQ.out.2.1.below (H1.out.2.2.trans (HI4.out.bl.mono H1.out.2.2.size)) (Nat.le_refl _))
      go_upto_region 9 with (at_builtin; refine wpList_body_sl HI4.out rfl (.tmp 34) (.tmp 35) rfl rfl qa p qc rfl HB4.out HQ.out.1 HQ.out.2.2.1 (by have := HQ.out; have := HX.out; simp only [List.length_append, sigT, crT, List.length_cons, List.length_nil]; omega) ?_; intro v5 w5 h5 _; have HI5 := (show Hid (EcI W1 w5 N x ka kc (BD ++ (hxN p.length ++ sigT ++ SG ++ crT) ++ p) v5) from h5); clear h5)
      go_wp2_with (at_builtin; refine wpList_body_str HI5.out rfl (.tmp 37) _ rfl rfl ⟨#[13, 10]⟩ crT rfl rfl (by have := HQ.out; have := HX.out; simp only [List.length_append, sigT, crT, List.length_cons, List.length_nil]; omega) ?_; intro v6 w6 h6 _; have HI6 := (show Hid (EcI W1 w6 N x ka kc (BD ++ (hxN p.length ++ sigT ++ SG ++ crT) ++ p ++ crT) v6) from h6); clear h6)
      go_roundw
      case rel => exact ⟨k + 1, by have := HQ.out; omega, by go_num, by rw [HTL.out.1, HGS.out], by rw [HTL.out.2, show BD ++ chkT SG p = BD ++ (hxN p.length ++ sigT ++ SG ++ crT) ++ p ++ crT from by simp [chkT, List.append_assoc]]; exact HI6.out⟩
      case measure => simp [intOf]; have := HQ.out; omega
    · obtain rfl : k = ps.length := by omega
      have HR := (show Hid (E = encF x.key x.date x.scope x.sig (ys.take ps.length)) from by show _ = _; rw [HE.out, HPY.out, List.take_length])
      go_wp2_with fail
      go_ret
      rw [HR.out]
      exact ⟨_, rfl, own_base hi.out.own (Nat.le_trans HB0.out.size H1.out.2.2.size), HB0.out.trans ((H1.out.2.2.trans (hi.out.bl.mono H1.out.2.2.size)).mono HB0.out.size)⟩
end Go.Proofs.YtgpjjlkkfddjnaaDoor
/-
  What is written is read as it was: chunks.
-/
namespace Go.Proofs.YtgpjjlkkfddjnaaDoor
open Go.RowKit

theorem hxC_fin : ∀ d : Fin 16, isDg (hxC d.val) = true ∧ dvN (hxC d.val) = d.val := by decide
theorem hxC_dg {n : Nat} (h : n < 16) : isDg (hxC n) = true ∧ dvN (hxC n) = n := hxC_fin ⟨n, h⟩
theorem hxF_dg : ∀ (k n : Nat), ∀ c ∈ hxF k n, isDg c = true
  | 0, n, c, h => by simp [hxF] at h
  | k + 1, n, c, h => by
    rw [hxF] at h
    split at h
    · next hn =>
      simp only [List.mem_singleton] at h
      subst h
      exact (hxC_dg hn).1
    · rcases List.mem_append.1 h with h | h
      · exact hxF_dg k _ c h
      · simp only [List.mem_singleton] at h
        subst h
        exact (hxC_dg (Nat.mod_lt _ (by omega))).1
theorem numL_snoc (l : List UInt8) (c : UInt8) : numL (l ++ [c]) = numL l * 16 + dvN c := by simp [numL]
theorem hxF_num : ∀ (k n : Nat), n < 16 ^ k → 0 < k → numL (hxF k n) = n
  | 0, n, _, h => by omega
  | k + 1, n, h, _ => by
    rw [hxF]
    split
    · next hn => simp [numL, (hxC_dg hn).2]
    · next hn =>
      have hk : 0 < k := by
        rcases Nat.eq_zero_or_pos k with rfl | h3
        · simp at h; omega
        · exact h3
      rw [numL_snoc, hxF_num k (n / 16) (by rw [Nat.div_lt_iff_lt_mul (by omega)]; rw [Nat.pow_succ] at h; exact h) hk, (hxC_dg (Nat.mod_lt _ (by omega))).2]
      omega
theorem hxF_pos : ∀ (k n : Nat), 0 < k → 0 < (hxF k n).length
  | 0, n, h => by omega
  | k + 1, n, _ => by
    rw [hxF]
    split
    · simp
    · rw [List.length_append]
      simp only [List.length_cons, List.length_nil]
      omega
theorem hxN_facts {n : Nat} (h : n < 4294967296) : (∀ c ∈ hxN n, isDg c = true) ∧ numL (hxN n) = n ∧ 0 < (hxN n).length ∧ (hxN n).length ≤ 8 := by
  have e : hxN n = hxF 8 n := hxF_more 64 8 n (Nat.lt_trans h (by decide)) (by omega) (by omega) (by omega)
  rw [e]
  exact ⟨hxF_dg 8 n, hxF_num 8 n (by omega) (by omega), hxF_pos 8 n (by omega), hxF_len 8 n⟩
theorem h2_fin : ∀ d : Fin 256, ∀ c ∈ h2 (UInt8.ofNat d.val), isDg c = true := by decide +kernel
theorem hexL_dg (l : List UInt8) : ∀ c ∈ hexL l, isDg c = true := by
  intro c hc
  simp only [hexL, List.mem_flatMap] at hc
  obtain ⟨a, _, h⟩ := hc
  have := h2_fin ⟨a.toNat, a.toNat_lt⟩ c
  simp only [UInt8.ofNat_toNat] at this
  exact this h
/-- As many digits as there are, up to a byte that is none. -/
theorem dnL_stop {most : Nat} {l : List UInt8} {c : UInt8} {r : List UInt8} (hl : ∀ c ∈ l, isDg c = true) (hm : l.length ≤ most) (hc : isDg c = false) : dnL most (l ++ c :: r) = l.length := by
  have h := dnL_le most (l ++ c :: r)
  by_cases h1 : dnL most (l ++ c :: r) < l.length
  · have h2 := (dnL_at (most := most) (l := l ++ c :: r) (Nat.le_refl _)).2 ⟨by omega, by rw [List.length_append]; omega, by rw [List.getElem_append_left h1]; exact hl _ (List.getElem_mem _)⟩
    omega
  · by_cases h3 : l.length < dnL most (l ++ c :: r)
    · have h4 := (dnL_at (most := most) (l := l ++ c :: r) (k := l.length) (by omega)).1 h3
      obtain ⟨_, h5, h6⟩ := h4
      rw [List.getElem_append_right (Nat.le_refl _)] at h6
      simp [hc] at h6
    · omega
theorem dnL_full {most : Nat} {l r : List UInt8} (hl : ∀ c ∈ l, isDg c = true) (hm : l.length = most) : dnL most (l ++ r) = most := by
  have h := dnL_le most (l ++ r)
  by_cases h1 : dnL most (l ++ r) < most
  · have h2 := (dnL_at (most := most) (l := l ++ r) (Nat.le_refl _)).2 ⟨h1, by rw [List.length_append]; omega, by rw [List.getElem_append_left (by omega)]; exact hl _ (List.getElem_mem _)⟩
    omega
  · omega
theorem tx_yes (t r : List UInt8) : txS t (t ++ r, 0) = (r, 0) := by
  have h : txB t (t ++ r) = true := by
    rw [txB, List.length_append, Nat.min_eq_left (by omega)]
    simp
  have h2 : ¬ t.length + r.length < t.length := by omega
  simp [txS, h, exS, tkS, h2]
theorem tk_yes (p r : List UInt8) : tkS p.length (p ++ r, 0) = (p, (r, 0)) := by simp [tkS]
theorem dg_num {n : Nat} (h : n < 4294967296) (c : UInt8) (r : List UInt8) (hc : isDg c = false) : dgS 1 8 (hxN n ++ c :: r, 0) = (hxN n, (c :: r, 0)) := by
  obtain ⟨h1, h2, h3, h4⟩ := hxN_facts h
  rw [dgS, dnL_stop h1 h4 hc]
  have e : max (hxN n).length 1 = (hxN n).length := by omega
  have e2 : decide (1 ≤ (hxN n).length) = true := decide_eq_true h3
  rw [e, e2]
  simp [exS, tkS]
theorem dg_sig {sig r : List UInt8} (h : sig.length = 64) (hd : ∀ c ∈ sig, isDg c = true) : dgS 64 64 (sig ++ r, 0) = (sig, (r, 0)) := by
  rw [dgS, dnL_full hd h]
  simp [exS, tkS, h]
/-- A chunk that is written is read as it was. -/
theorem ck_chunk {sig p r : List UInt8} (hp : p.length < 4294967296) (h : sig.length = 64) (hd : ∀ c ∈ sig, isDg c = true) :
    ckS (chkT sig p ++ r, 0) = ⟨p, sig, if p = [] then exS (decide (r = [])) (r, 0) else (r, 0)⟩ := by
  have e : chkT sig p ++ r = hxN p.length ++ 59 :: ([99, 104, 117, 110, 107, 45, 115, 105, 103, 110, 97, 116, 117, 114, 101, 61] ++ (sig ++ (crT ++ (p ++ (crT ++ r))))) := by simp [chkT, sigT, List.append_assoc]
  have e2 : (59 : UInt8) :: ([99, 104, 117, 110, 107, 45, 115, 105, 103, 110, 97, 116, 117, 114, 101, 61] ++ (sig ++ (crT ++ (p ++ (crT ++ r))))) = sigT ++ (sig ++ (crT ++ (p ++ (crT ++ r)))) := by simp [sigT]
  have hn := (hxN_facts hp).2.1
  rw [e]
  unfold ckS
  simp only [dg_num hp 59 _ (by decide)]
  rw [e2]
  simp only [tx_yes, dg_sig h hd, hn, tk_yes]
  by_cases h0 : p = []
  · subst h0
    simp
  · have : ¬ p.length = 0 := fun h => h0 (List.eq_nil_of_length_eq_zero h)
    simp [this, h0]
theorem sgL_dg (key date scope last data : List UInt8) : ∀ c ∈ sgL key date scope last data, isDg c = true := hexL_dg _
/-- The pieces: some that are not empty, and the empty one. -/
theorem cut_shape : ∀ (zs : List Int) (d : List UInt8), ∃ ps, cutL d zs = ps ++ [[]] ∧ ∀ p ∈ ps, p ≠ []
  | [], d => by
    rw [cutL]
    split
    · exact ⟨[], rfl, fun p hp => by simp at hp⟩
    · next h => exact ⟨[d], rfl, fun p hp => by simp only [List.mem_singleton] at hp; subst hp; exact h⟩
  | z :: zs, d => by
    rw [cutL]
    split
    · next h =>
      obtain ⟨ps, h1, h2⟩ := cut_shape zs (d.drop z.toNat)
      refine ⟨d.take z.toNat :: ps, by rw [h1]; rfl, fun p hp => ?_⟩
      rcases List.mem_cons.1 hp with rfl | hp
      · intro e
        have h3 := List.length_pos_iff.2 h.2
        have h4 : (d.take z.toNat).length = 0 := by rw [e]; rfl
        rw [List.length_take] at h4
        have := h.1
        omega
      · exact h2 p hp
    · exact cut_shape zs d
theorem back_go {key date scope : List UInt8} {size : Int} : ∀ (ps : List (List UInt8)) (n : Nat) (last acc : List UInt8), (∀ p ∈ ps, p ≠ [] ∧ p.length < 4294967296) → (encF key date scope last (ps ++ [[]])).length < n →
    decF key date scope size n last acc (encF key date scope last (ps ++ [[]]), 0) = if ((acc ++ ps.flatten).length : Int) = size then (acc ++ ps.flatten, 0) else ([], 307)
  | _, 0, _, _, _, h => by omega
  | [], n + 1, last, acc, _, _ => by
    have hc := ck_chunk (sig := sgL key date scope last []) (p := []) (r := []) (by simp) (sgL_len _ _ _ _ _) (sgL_dg _ _ _ _ _)
    rw [List.append_nil] at hc
    rw [decF]
    simp only [List.nil_append, encF, List.append_nil, hc, List.flatten_nil]
    simp [exS]
  | p :: ps, n + 1, last, acc, h, hn => by
    obtain ⟨h1, h2⟩ := h p (by simp)
    have hc := ck_chunk (sig := sgL key date scope last p) (p := p) (r := encF key date scope (sgL key date scope last p) (ps ++ [[]])) h2 (sgL_len _ _ _ _ _) (sgL_dg _ _ _ _ _)
    rw [if_neg h1] at hc
    have hpos : 0 < (chkT (sgL key date scope last p) p).length := by
      simp only [chkT, List.length_append, crT, List.length_cons, List.length_nil]
      omega
    rw [decF]
    simp only [List.cons_append, encF, hc]
    rw [if_pos trivial, if_pos trivial, if_neg h1]
    have hl : (encF key date scope (sgL key date scope last p) (ps ++ [[]])).length < n := by
      simp only [List.cons_append, encF, List.length_append] at hn
      omega
    rw [back_go ps n _ _ (fun q hq => h q (by simp [hq])) hl]
    simp [List.append_assoc]
/-- Data that is cut and signed comes back whole. -/
theorem back_all (x : Wh) (data : List UInt8) (zs : List Int) (size : Int) (hd : data.length ≤ 1000000000) : decL x size (encL x data zs) = if (data.length : Int) = size then (data, 0) else ([], 307) := by
  obtain ⟨ps, h1, h2⟩ := cut_shape zs data
  have hf := cut_flat zs data
  rw [h1] at hf
  simp only [List.flatten_append, List.flatten_cons, List.flatten_nil, List.append_nil] at hf
  have hle : ∀ p ∈ ps, p.length ≤ data.length := by
    intro p hp
    rw [← hf]
    obtain ⟨i, hi, rfl⟩ := List.mem_iff_getElem.1 hp
    exact piece_le hi
  rw [decL, encL, h1, back_go ps _ _ _ (fun p hp => ⟨h2 p hp, by have := hle p hp; omega⟩) (Nat.lt_succ_self _)]
  rw [List.nil_append, hf]
end Go.Proofs.YtgpjjlkkfddjnaaDoor
/-
  stowagelaw19.awake.
-/
namespace Go.Proofs.YtgpjjlkkfddjnaaDoor
open Go.RowKit

def aw0 : Wh := ⟨[], [50, 48, 49, 51, 48, 53, 50, 52, 84, 48, 48, 48, 48, 48, 48, 90], [120], [121], [107], []⟩
theorem aw_nil : decL aw0 0 [] = ([], 307) := by rfl
theorem const_bytes (w : World) (L : List UInt8) (fr : Nat × Nat) : Bytes (w.alloc (.cells (bcs L).toArray 5 fr)) (some ⟨w.heap.size, 0, none⟩) L := by
  refine .inr ⟨w.heap.size, 0, rfl, by show w.heap.size < (w.heap.push _).size; simp, fun j hj => ?_⟩
  rw [Nat.zero_add, World.cell?_alloc_mark]
  have := bcs_get hj
  simpa using this
theorem own_head {w : World} {base : Nat} {v : Value} {l : List UInt8} (h : Own w base v l) : ∃ a cap, v = .slice a l.length cap ∧ l.length ≤ cap ∧ cap ≤ 9223372036854775807 ∧ Bytes w a l ∧ (∀ x, a = some x → x.spot = none ∧ x.block < w.heap.size) ∧ (a = none → cap = 0) := by
  obtain ⟨a0, c0, e0, hB⟩ := h.bytes
  obtain ⟨hl, ⟨rfl, hn⟩ | ⟨g, cap, cur, rfl, hg, hh, hnc, hcm, hcs, htk⟩⟩ := h
  · simp only [Value.slice.injEq] at e0
    obtain ⟨rfl, h1, rfl⟩ := e0
    exact ⟨none, 0, by rw [← h1], by omega, by omega, hB, (fun x hx => by cases hx), fun _ => rfl⟩
  · simp only [Value.slice.injEq] at e0
    obtain ⟨rfl, h1, rfl⟩ := e0
    refine ⟨_, cap, rfl, hnc, by unfold maxLen at hcm; omega, hB, fun x hx => ?_, fun h => by cases h⟩
    simp only [Option.some.injEq] at hx
    subst hx
    exact ⟨rfl, blk_lt hh⟩
theorem encL_len (x : Wh) (data : List UInt8) (zs : List Int) : (encL x data zs).length ≤ 164 * (zs.length + 2) + data.length := by
  have h1 := encF_len (key := x.key) (date := x.date) (scope := x.scope) (cutL data zs) x.sig
  have h2 := cut_len zs data
  have h3 := cut_flat zs data
  rw [h3] at h1
  have h4 : 164 * (cutL data zs).length ≤ 164 * (zs.length + 2) := Nat.mul_le_mul_left _ h2
  rw [encL]
  omega
set_option maxRecDepth 20000 in
set_option maxHeartbeats 4000000 in
theorem awake_any (w : World) (he : Er w) (ht : Tz w) : Calls Tryd.prog 14 #[] w fun e w' => e = .returned (.bool true) ∧ Below w.heap.size w w' := by
  have HE := (show Hid (Er w ∧ Tz w) from ⟨he, ht⟩)
  clear he ht
  have hc1 := Lib.run_convert_bytes_const (P := Tryd.prog) w 22 5 #[.int .u8 107] 1 1 Tryd.underlying22 Tryd.underlying5
  go_enter Tryd.func14, Tryd.ntmps14
  go_upto_region 2 with fail
  obtain ⟨W1, hW1⟩ : ∃ W1, W1 = w.alloc (.cells #[.int .u8 107] 5 (1, 2)) := ⟨_, rfl⟩
  obtain ⟨W2, hW2⟩ : ∃ W2, W2 = W1.alloc (.cells #[.string ⟨#[]⟩, .string ⟨#[50, 48, 49, 51, 48, 53, 50, 52, 84, 48, 48, 48, 48, 48, 48, 90]⟩, .string ⟨#[120]⟩, .string ⟨#[121]⟩, .slice (some ⟨w.heap.size, 0, none⟩) 1 1, .string ⟨#[]⟩] 24) := ⟨_, rfl⟩
  rw [← hW1, ← hW2]
  have hs1 : W1.heap.size = w.heap.size + 1 := by rw [hW1]; show (w.heap.push _).size = _; simp
  have hb1 : Below w.heap.size w W1 := by rw [hW1]; exact (Below.refl _ _).alloc (Nat.le_refl _) _
  have hb2 : Below W1.heap.size W1 W2 := by rw [hW2]; exact (Below.refl _ _).alloc (Nat.le_refl _) _
  obtain ⟨A, hA⟩ : ∃ A, A = w.heap.size := ⟨_, rfl⟩
  obtain ⟨N, hN⟩ : ∃ N, N = w.heap.size + 1 := ⟨_, rfl⟩
  have nN : W2.heap[N]? = some (.cells #[.string ⟨#[]⟩, .string ⟨#[50, 48, 49, 51, 48, 53, 50, 52, 84, 48, 48, 48, 48, 48, 48, 90]⟩, .string ⟨#[120]⟩, .string ⟨#[121]⟩, .slice (some ⟨A, 0, none⟩) 1 1, .string ⟨#[]⟩] 24 (0, 0)) := by
    rw [hW2, hN, ← hs1, hA]
    exact heap_alloc_new W1 _
  have hk1 : Bytes W1 (some ⟨A, 0, none⟩) [107] := by rw [hW1, hA]; exact const_bytes w [107] (1, 2)
  rw [← hN, ← hA]
  have HB2 := (show Hid (Below w.heap.size w W2) from hb1.trans (hb2.mono hb1.size))
  have HK := (show Hid (Bytes W2 (some ⟨A, 0, none⟩) aw0.key) from hk1.below hb2 (Nat.le_refl _))
  have HN := (show Hid _ from nN)
  have hc2 := Lib.run_convert_bytes_const (P := Tryd.prog) W2 22 5 #[.int .u8 97, .int .u8 98, .int .u8 99] 3 3 Tryd.underlying22 Tryd.underlying5
  obtain ⟨x0, x1, x2, x3, x4, x5⟩ := six_of nN
  clear hc1 hs1 hb1 hb2 hk1 hA hN hW1 hW2 nN
  go_wp2_with fail
  clear hc2
  obtain ⟨W3, hW3⟩ : ∃ W3, W3 = W2.alloc (.cells #[.int .u8 97, .int .u8 98, .int .u8 99] 5 (3, 4)) := ⟨_, rfl⟩
  rw [show (W2.alloc (.cells #[.int .u8 97, .int .u8 98, .int .u8 99] 5 (3, 4))) = W3 from hW3.symm]
  have hb3 : Below W2.heap.size W2 W3 := by rw [hW3]; exact (Below.refl _ _).alloc (Nat.le_refl _) _
  have hdB : Bytes W3 (some ⟨W2.heap.size, 0, none⟩) [97, 98, 99] := by rw [hW3]; exact const_bytes W2 [97, 98, 99] (3, 4)
  have HB3 := (show Hid (Below w.heap.size w W3) from HB2.out.trans (hb3.mono HB2.out.size))
  have K1 := (show Hid _ from encode_any aw0 (some ⟨A, 0, none⟩) 1 (some ⟨W2.heap.size, 0, none⟩) [97, 98, 99] 3 none [] 0 W3 (by decide) (by decide) (HK.out.below hb3 (Nat.le_refl _)) (by decide) (by decide) (by decide) (by decide) (by decide) hdB (fun y hy => by simp only [Option.some.injEq] at hy; subst hy; exact ⟨rfl, by rw [hW3]; show W2.heap.size < (W2.heap.push _).size; simp⟩) (fun h => by cases h) (.inl rfl) (by simp) (HE.out.2.below HB3.out (Nat.le_refl _)))
  have hn3 := (hb3.block N (blk_lt HN.out)).trans HN.out
  have HN3 := (show Hid _ from hn3)
  have HK3 := (show Hid (Bytes W3 (some ⟨A, 0, none⟩) aw0.key) from HK.out.below hb3 (Nat.le_refl _))
  obtain ⟨E, hE⟩ : ∃ E, E = encL aw0 [97, 98, 99] [] := ⟨_, rfl⟩
  rw [← hE] at K1
  have HEE := (show Hid (decL aw0 3 E = ([97, 98, 99], 0) ∧ E.length ≤ 1000000) from by
    rw [hE]
    exact ⟨by rw [back_all aw0 [97, 98, 99] [] 3 (by decide)]; rfl, by have := encL_len aw0 [97, 98, 99] []; simp only [List.length_cons, List.length_nil] at this; omega⟩)
  clear hE hb3 hdB hW3 hn3 x0 x1 x2 x3 x4 x5 HN
  refine Calls.mono K1.out ?_
  rintro e w4 ⟨v4, rfl, ho4, hb4⟩
  have HB4 := (show Hid (Below w.heap.size w w4) from HB3.out.trans (hb4.mono HB3.out.size))
  have hn4 := (hb4.block N (blk_lt HN3.out)).trans HN3.out
  have HN4 := (show Hid _ from hn4)
  have HK4 := (show Hid (Bytes w4 (some ⟨A, 0, none⟩) aw0.key) from HK3.out.below hb4 (Nat.le_refl _))
  obtain ⟨ba, bc, rfl, hbl, hbm, hbB, hbo, hbn⟩ := own_head ho4
  have K2 := (show Hid _ from decode_any aw0 (some ⟨A, 0, none⟩) 1 ba E bc 3 w4 (by decide) (by decide) HK4.out (by decide) (by decide) (by decide) hbB hbl hbn hbo hbm (by have := HEE.out.2; omega) (HE.out.1.below HB4.out (Nat.le_refl _)))
  rw [HEE.out.1] at K2
  obtain ⟨x0, x1, x2, x3, x4, x5⟩ := six_of hn4
  clear hn4 ho4 hb4 hbl hbm hbB hbo hbn K1
  go_wp2_with fail
  refine Calls.mono K2.out ?_
  rintro e w5 ⟨v5, rfl, ho5, hb5⟩
  have HB5 := (show Hid (Below w.heap.size w w5) from HB4.out.trans (hb5.mono HB4.out.size))
  have hn5 := (hb5.block N (blk_lt HN4.out)).trans HN4.out
  have HN5 := (show Hid _ from hn5)
  have HK5 := (show Hid (Bytes w5 (some ⟨A, 0, none⟩) aw0.key) from HK4.out.below hb5 (Nat.le_refl _))
  have HO5 := (show Hid (Own w5 w4.heap.size v5 [97, 98, 99]) from ho5)
  have K3 := (show Hid _ from decode_any aw0 (some ⟨A, 0, none⟩) 1 none [] 0 0 w5 (by decide) (by decide) HK5.out (by decide) (by decide) (by decide) (.inl rfl) (Nat.le_refl _) (fun _ => rfl) (fun y hy => by cases hy) (by decide) (by simp) (HE.out.1.below HB5.out (Nat.le_refl _)))
  rw [aw_nil] at K3
  obtain ⟨x0, x1, x2, x3, x4, x5⟩ := six_of hn5
  clear hn5 ho5 hb5 K2
  go_wp2_with fail
  refine Calls.mono K3.out ?_
  rintro e w6 ⟨v6, rfl, ho6, hb6⟩
  have HB6 := (show Hid (Below w.heap.size w w6) from HB5.out.trans (hb6.mono HB5.out.size))
  have hn6 := (hb6.block N (blk_lt HN5.out)).trans HN5.out
  have HK6 := (show Hid (Bytes w6 (some ⟨A, 0, none⟩) aw0.key) from HK5.out.below hb6 (Nat.le_refl _))
  have hcv : (convert 22 9 v5).run Tryd.prog w6 = .ok (.string ⟨#[97, 98, 99]⟩) w6 := by
    have ho := own_md HO5.out (Md.ofBelow (F := fun _ => False) hb6) (fun _ _ h => h)
    obtain ⟨a, c, e, -, -, hB, -, -⟩ := own_head ho
    rw [e]
    exact convert_bytes w6 a c [97, 98, 99] hB
  have K4 := (show Hid _ from sign_any aw0 (some ⟨A, 0, none⟩) 1 [] [] none 0 w6 (by decide) (by decide) HK6.out (Nat.le_refl _) (by simp) (.inl rfl) (by decide) (by decide) (by simp))
  have HSG := sgL_len aw0.key aw0.date aw0.scope [] []
  obtain ⟨SG, hSG⟩ : ∃ SG, SG = sgL aw0.key aw0.date aw0.scope [] [] := ⟨_, rfl⟩
  rw [← hSG] at K4 HSG
  have HSL := (show Hid (SG.length = 64) from HSG)
  obtain ⟨x0, x1, x2, x3, x4, x5⟩ := six_of hn6
  clear hn6 ho6 hb6 K3 hSG HSG
  go_wp2_with fail
  refine Calls.mono K4.out ?_
  rintro e w7 ⟨rfl, hb7⟩
  have HB7 := (show Hid (Below w.heap.size w w7) from HB6.out.trans (hb7.mono HB6.out.size))
  obtain ⟨GS, hGS⟩ : ∃ GS : ByteArray, GS = ⟨SG.toArray⟩ := ⟨_, rfl⟩
  have hGz : GS.size = 64 := by rw [hGS]; have := HSL.out; simpa [ByteArray.size] using this
  rw [← hGS]
  clear hGS hb7 K4
  go_wp2
  go_ret
  exact ⟨rfl, HB7.out⟩
end Go.Proofs.YtgpjjlkkfddjnaaDoor
/-
  The laws of chunk: what their walks share.
-/
namespace Go.Proofs.YtgpjjlkkfddjnaaDoor
open Go.RowKit

/-- Who signs, as it came in. -/
structure WhOk (w : World) (x : Wh) (ka : Option Addr) (kc : Nat) : Prop where
  cap : x.key.length ≤ kc
  key : x.key.length ≤ 1000000000
  by_ : Bytes w ka x.key
  date : x.date.length ≤ 1000000000
  scope : x.scope.length ≤ 1000000000
  sig : x.sig.length ≤ 1000000000
theorem WhOk.below {w w' : World} {x : Wh} {ka : Option Addr} {kc : Nat} (h : WhOk w x ka kc) (hb : Below w.heap.size w w') : WhOk w' x ka kc := ⟨h.cap, h.key, h.by_.below hb (Nat.le_refl _), h.date, h.scope, h.sig⟩
/-- Bytes, as they lie somewhere below. -/
structure Sl (w : World) (a : Option Addr) (c : Nat) (l : List UInt8) : Prop where
  cap : l.length ≤ c
  max : c ≤ 9223372036854775807
  by_ : Bytes w a l
  lo : ∀ x, a = some x → x.spot = none ∧ x.block < w.heap.size
  nil : a = none → c = 0
theorem Sl.below {w w' : World} {a : Option Addr} {c : Nat} {l : List UInt8} (h : Sl w a c l) (hb : Below w.heap.size w w') : Sl w' a c l := ⟨h.cap, h.max, h.by_.below hb (Nat.le_refl _), fun x hx => ⟨(h.lo x hx).1, Nat.lt_of_lt_of_le (h.lo x hx).2 hb.size⟩, h.nil⟩
theorem own_sl {w : World} {base : Nat} {v : Value} {l : List UInt8} (h : Own w base v l) : ∃ a c, v = .slice a l.length c ∧ Sl w a c l := by
  obtain ⟨a, c, h1, h2, h3, h4, h5, h6⟩ := own_head h
  exact ⟨a, c, h1, h2, h3, h4, h5, h6⟩
theorem Sl.conv {w : World} {a : Option Addr} {c : Nat} {l : List UInt8} (h : Sl w a c l) : (convert 22 9 (.slice a l.length c)).run Tryd.prog w = .ok (.string ⟨l.toArray⟩) w := convert_bytes w a c l h.by_
theorem Ints.below {w w' : World} {a : Option Addr} {l : List Int} (h : Ints w a l) (hb : Below w.heap.size w w') : Ints w' a l := by
  rcases h with h | ⟨b, off, e1, e2, e3⟩
  · exact .inl h
  · exact .inr ⟨b, off, e1, Nat.lt_of_lt_of_le e2 hb.size, fun j hj => (hb.cell (p := ⟨b, off + j, none⟩) e2).trans (e3 j hj)⟩
theorem encode_call {x : Wh} {ka : Option Addr} {kc : Nat} {da : Option Addr} {data : List UInt8} {dc : Nat} {sa : Option Addr} {zs : List Int} {sc : Nat} {w : World} (hx : WhOk w x ka kc) (hd : Sl w da dc data) (hdl : data.length ≤ 1000000000) (hS : Ints w sa zs) (hzl : zs.length ≤ 100000000) (ht : Tz w) :
    Calls Tryd.prog 15 #[x.v ka kc, .slice da data.length dc, .slice sa zs.length sc] w fun e w' => ∃ a c, e = .returned (.slice a (encL x data zs).length c) ∧ Sl w' a c (encL x data zs) ∧ Below w.heap.size w w' :=
  (encode_any x ka kc da data dc sa zs sc w hx.cap hx.key hx.by_ hx.date hx.scope hx.sig hd.cap hdl hd.by_ hd.lo hd.nil hS hzl ht).mono fun e w' ⟨v, h1, h2, h3⟩ => by
    obtain ⟨a, c, h4, h5⟩ := own_sl h2
    exact ⟨a, c, by rw [h1, h4], h5, h3⟩
theorem decode_call {x : Wh} {ka : Option Addr} {kc : Nat} {a : Option Addr} {l : List UInt8} {c : Nat} (size : Int) {w : World} (hx : WhOk w x ka kc) (hl : Sl w a c l) (hll : l.length ≤ 1000000000) (he : Er w) :
    Calls Tryd.prog 9 #[x.v ka kc, .slice a l.length c, .int .i64 size] w fun e w' => ∃ a' c', e = .returned (.tuple #[.slice a' (decL x size l).1.length c', .int .i64 (decL x size l).2]) ∧ Sl w' a' c' (decL x size l).1 ∧ Below w.heap.size w w' :=
  (decode_any x ka kc a l c size w hx.cap hx.key hx.by_ hx.date hx.scope hx.sig hl.by_ hl.cap hl.nil hl.lo hl.max hll he).mono fun e w' ⟨v, h1, h2, h3⟩ => by
    obtain ⟨a', c', h4, h5⟩ := own_sl h2
    exact ⟨a', c', by rw [h1, h4], h5, h3⟩
end Go.Proofs.YtgpjjlkkfddjnaaDoor
/-
  A body that is cut off, or that goes on behind its end.
-/
namespace Go.Proofs.YtgpjjlkkfddjnaaDoor
open Go.RowKit

theorem tk_f {n : Nat} {s : RS} (h : s.2 = 307) : (tkS n s).2.2 = 307 := by rw [tkS_fault (by rw [h]; decide)]; exact h
theorem ex_f {b : Bool} {s : RS} (h : s.2 = 307) : (exS b s).2 = 307 := by rw [exS_fault (by rw [h]; decide)]; exact h
theorem tx_f {t : List UInt8} {s : RS} (h : s.2 = 307) : (txS t s).2 = 307 := tk_f (ex_f h)
theorem dg_f {least most : Nat} {s : RS} (h : s.2 = 307) : (dgS least most s).2.2 = 307 := tk_f (ex_f h)
theorem tx_short {t : List UInt8} {j : Nat} (h : j < t.length) : (txS t (t.take j, 0)).2 = 307 := by
  have hl : (t.take j).length = j := by rw [List.length_take]; omega
  have h1 : txB t (t.take j) = true := by
    rw [txB, hl, Nat.min_eq_right (by omega), List.take_take, Nat.min_self]
    simp
  have h2 : j < t.length := h
  simp [txS, h1, exS, tkS, hl, h2]
theorem tk_short {p : List UInt8} {j : Nat} (h : j < p.length) : (tkS p.length (p.take j, 0)).2.2 = 307 := by
  have hl : (p.take j).length = j := by rw [List.length_take]; omega
  simp [tkS, hl, h]
theorem dnL_whole {most : Nat} {l : List UInt8} (hl : ∀ c ∈ l, isDg c = true) (hm : l.length ≤ most) : dnL most l = l.length := by
  have h := dnL_le most l
  by_cases h1 : dnL most l < l.length
  · have h2 := (dnL_at (most := most) (l := l) (Nat.le_refl _)).2 ⟨by omega, h1, hl _ (List.getElem_mem _)⟩
    omega
  · omega
theorem dg_short {sig : List UInt8} {j : Nat} (h : sig.length = 64) (hd : ∀ c ∈ sig, isDg c = true) (hj : j < 64) : (dgS 64 64 (sig.take j, 0)).2.2 = 307 := by
  have hl : (sig.take j).length = j := by rw [List.length_take]; omega
  have hn : dnL 64 (sig.take j) = j := by rw [dnL_whole (fun c hc => hd c (List.mem_of_mem_take hc)) (by omega), hl]
  have e : max j 64 = 64 := by omega
  simp [dgS, hn, hl, exS, tkS, e, hj]
/-- Digits alone. -/
theorem dg_alone {n j : Nat} (h : n < 4294967296) : (txS sigT (dgS 1 8 ((hxN n).take j, 0)).2).2 = 307 := by
  obtain ⟨h1, h2, h3, h4⟩ := hxN_facts h
  obtain ⟨D, hD⟩ : ∃ D, D = (hxN n).take j := ⟨_, rfl⟩
  have hDl : D.length ≤ 8 := by rw [hD, List.length_take]; omega
  have hDd : ∀ c ∈ D, isDg c = true := by rw [hD]; exact fun c hc => h1 c (List.mem_of_mem_take hc)
  rw [← hD]
  have hn := dnL_whole hDd hDl
  by_cases h0 : D = []
  · subst h0
    rfl
  · have hp : 0 < D.length := List.length_pos_iff.2 h0
    have e : max D.length 1 = D.length := by omega
    have hg : dgS 1 8 ((D, 0) : RS) = (D, ([], 0)) := by simp [dgS, hn, exS, tkS, e]
    rw [hg]
    rfl
theorem take_more {A B : List UInt8} {k : Nat} (h : A.length ≤ k) : (A ++ B).take k = A ++ B.take (k - A.length) := by
  rw [List.take_append, List.take_of_length_le h]
theorem take_less {A B : List UInt8} {k : Nat} (h : k ≤ A.length) : (A ++ B).take k = A.take k := by
  rw [List.take_append_of_le_length h]
theorem ck_f {s : RS} (h : (txS crT (tkS (numL (dgS 1 8 s).1) (txS crT (dgS 64 64 (txS sigT (dgS 1 8 s).2)).2)).2).2 = 307) : (ckS s).s.2 = 307 := by
  by_cases h0 : numL (dgS 1 8 s).1 = 0
  · rw [ck_yes h0]
    exact ex_f h
  · rw [ck_no h0]
    exact h
/-- A chunk's text that is cut off. -/
theorem ck_cut {sig p : List UInt8} {k : Nat} (hp : p.length < 4294967296) (h : sig.length = 64) (hd : ∀ c ∈ sig, isDg c = true) (hk : k < (chkT sig p).length) : (ckS ((chkT sig p).take k, 0)).s.2 = 307 := by
  refine ck_f ?_
  obtain ⟨f1, f2, f3, f4⟩ := hxN_facts hp
  have hlen : (chkT sig p).length = (hxN p.length).length + 17 + 64 + 2 + p.length + 2 := by simp only [chkT, List.length_append, h, sigT, crT, List.length_cons, List.length_nil]
  have e0 : chkT sig p = hxN p.length ++ (sigT ++ (sig ++ (crT ++ (p ++ crT)))) := by simp [chkT, List.append_assoc]
  rw [e0]
  by_cases c1 : k ≤ (hxN p.length).length
  · rw [take_less c1]
    exact tx_f (tk_f (tx_f (dg_f (dg_alone hp))))
  · rw [take_more (by omega)]
    obtain ⟨j, hj⟩ : ∃ j, j = k - (hxN p.length).length := ⟨_, rfl⟩
    rw [← hj]
    have e1 : (sigT ++ (sig ++ (crT ++ (p ++ crT)))).take j = 59 :: (([99, 104, 117, 110, 107, 45, 115, 105, 103, 110, 97, 116, 117, 114, 101, 61] ++ (sig ++ (crT ++ (p ++ crT)))).take (j - 1)) := by
      obtain ⟨i, rfl⟩ : ∃ i, j = i + 1 := ⟨j - 1, by omega⟩
      simp [sigT]
    have hg : dgS 1 8 (hxN p.length ++ (sigT ++ (sig ++ (crT ++ (p ++ crT)))).take j, 0) = (hxN p.length, ((sigT ++ (sig ++ (crT ++ (p ++ crT)))).take j, 0)) := by
      rw [e1]
      exact dg_num hp 59 _ (by decide)
    rw [hg]
    simp only [f2]
    by_cases c2 : j < 17
    · rw [take_less (by show j ≤ 17; omega)]
      exact tx_f (tk_f (tx_f (dg_f (tx_short (by show j < 17; omega)))))
    · rw [take_more (by show 17 ≤ j; omega), tx_yes]
      rw [show j - sigT.length = j - 17 from rfl]
      by_cases c3 : j - 17 < 64
      · rw [take_less (by omega)]
        exact tx_f (tk_f (tx_f (dg_short h hd c3)))
      · rw [take_more (by omega), dg_sig h hd]
        simp only
        rw [h]
        by_cases c4 : j - 17 - 64 < 2
        · rw [take_less (by show _ ≤ 2; omega)]
          exact tx_f (tk_f (tx_short (by show _ < 2; omega)))
        · rw [take_more (by show 2 ≤ _; omega), tx_yes]
          rw [show j - 17 - 64 - crT.length = j - 17 - 64 - 2 from rfl]
          by_cases c5 : j - 17 - 64 - 2 < p.length
          · rw [take_less (by omega)]
            exact tx_f (tk_short c5)
          · rw [take_more (by omega), tk_yes]
            simp only
            exact tx_short (by show _ < 2; omega)
theorem cut_off {key date scope : List UInt8} {size : Int} : ∀ (ps : List (List UInt8)) (n : Nat) (last acc : List UInt8) (k : Nat), (∀ p ∈ ps, p ≠ [] ∧ p.length < 4294967296) → k < (encF key date scope last (ps ++ [[]])).length → k < n →
    decF key date scope size n last acc ((encF key date scope last (ps ++ [[]])).take k, 0) = ([], 307)
  | _, 0, _, _, _, _, _, h => by omega
  | [], n + 1, last, acc, k, _, hk, _ => by
    simp only [List.nil_append, encF, List.append_nil] at hk ⊢
    have hf := ck_cut (sig := sgL key date scope last []) (p := []) (by simp) (sgL_len _ _ _ _ _) (sgL_dg _ _ _ _ _) hk
    rw [decF, if_neg (by rw [hf]; decide), hf]
  | p :: ps, n + 1, last, acc, k, h, hk, hn => by
    obtain ⟨h1, h2⟩ := h p (by simp)
    simp only [List.cons_append, encF] at hk ⊢
    by_cases c : k < (chkT (sgL key date scope last p) p).length
    · rw [take_less (by omega)]
      have hf := ck_cut h2 (sgL_len _ _ _ _ _) (sgL_dg _ _ _ _ _) c
      rw [decF, if_neg (by rw [hf]; decide), hf]
    · rw [take_more (by omega)]
      have hc := ck_chunk (sig := sgL key date scope last p) (p := p) (r := (encF key date scope (sgL key date scope last p) (ps ++ [[]])).take (k - (chkT (sgL key date scope last p) p).length)) h2 (sgL_len _ _ _ _ _) (sgL_dg _ _ _ _ _)
      rw [if_neg h1] at hc
      have hpos : 0 < (chkT (sgL key date scope last p) p).length := by
        simp only [chkT, List.length_append, crT, List.length_cons, List.length_nil]
        omega
      rw [decF]
      simp only [hc]
      rw [if_pos trivial, if_pos trivial, if_neg h1]
      rw [List.length_append] at hk
      exact cut_off ps n _ _ _ (fun q hq => h q (by simp [hq])) (by omega) (by omega)
theorem goes_on {key date scope : List UInt8} {size : Int} {r : List UInt8} (hr : r ≠ []) : ∀ (ps : List (List UInt8)) (n : Nat) (last acc : List UInt8), (∀ p ∈ ps, p ≠ [] ∧ p.length < 4294967296) → (encF key date scope last (ps ++ [[]])).length < n →
    decF key date scope size n last acc (encF key date scope last (ps ++ [[]]) ++ r, 0) = ([], 308)
  | _, 0, _, _, _, h => by omega
  | [], n + 1, last, acc, _, _ => by
    have hc := ck_chunk (sig := sgL key date scope last []) (p := []) (r := r) (by simp) (sgL_len _ _ _ _ _) (sgL_dg _ _ _ _ _)
    rw [decF]
    simp only [List.nil_append, encF, List.append_nil, hc]
    simp [exS, hr]
  | p :: ps, n + 1, last, acc, h, hn => by
    obtain ⟨h1, h2⟩ := h p (by simp)
    have hc := ck_chunk (sig := sgL key date scope last p) (p := p) (r := encF key date scope (sgL key date scope last p) (ps ++ [[]]) ++ r) h2 (sgL_len _ _ _ _ _) (sgL_dg _ _ _ _ _)
    rw [if_neg h1] at hc
    have hpos : 0 < (chkT (sgL key date scope last p) p).length := by
      simp only [chkT, List.length_append, crT, List.length_cons, List.length_nil]
      omega
    rw [decF]
    simp only [List.cons_append, encF, List.append_assoc, hc]
    rw [if_pos trivial, if_pos trivial, if_neg h1]
    have hl : (encF key date scope (sgL key date scope last p) (ps ++ [[]])).length < n := by
      simp only [List.cons_append, encF, List.length_append] at hn
      omega
    exact goes_on hr ps n _ _ (fun q hq => h q (by simp [hq])) hl
theorem small_pieces {data : List UInt8} {ps : List (List UInt8)} (hd : data.length ≤ 1000000000) (hf : ps.flatten = data) : ∀ p ∈ ps, p.length < 4294967296 := by
  intro p hp
  obtain ⟨i, hi, rfl⟩ := List.mem_iff_getElem.1 hp
  have := piece_le hi
  rw [hf] at this
  omega
theorem shape_flat {zs : List Int} {data : List UInt8} {ps : List (List UInt8)} (h1 : cutL data zs = ps ++ [[]]) : ps.flatten = data := by
  have hf := cut_flat zs data
  rw [h1] at hf
  simpa using hf
theorem cut_all (x : Wh) (data : List UInt8) (zs : List Int) (size : Int) (hd : data.length ≤ 1000000000) {k : Nat} (hk : k < (encL x data zs).length) : decL x size ((encL x data zs).take k) = ([], 307) := by
  obtain ⟨ps, h1, h2⟩ := cut_shape zs data
  rw [decL, encL, h1]
  rw [encL, h1] at hk
  exact cut_off ps _ _ _ k (fun p hp => ⟨h2 p hp, small_pieces hd (shape_flat h1) p hp⟩) hk (by rw [List.length_take]; omega)
theorem more_all (x : Wh) (data : List UInt8) (zs : List Int) (size : Int) (hd : data.length ≤ 1000000000) {r : List UInt8} (hr : r ≠ []) : decL x size (encL x data zs ++ r) = ([], 308) := by
  obtain ⟨ps, h1, h2⟩ := cut_shape zs data
  rw [decL, encL, h1]
  exact goes_on hr ps _ _ _ (fun p hp => ⟨h2 p hp, small_pieces hd (shape_flat h1) p hp⟩) (by rw [List.length_append]; omega)
end Go.Proofs.YtgpjjlkkfddjnaaDoor
