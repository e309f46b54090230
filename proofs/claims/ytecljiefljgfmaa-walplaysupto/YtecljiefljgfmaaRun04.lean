/-
  enc.number, enc.Get64 and the document's Get64 by their contracts.
-/
import Derived.Test.YtecljiefljgfmaaRun03
import Derived.Laws.Bits64b
import Derived.Lib.AppendStr
import Derived.Deep.QuietTactic
import Derived.BigQuiet
import Derived.Laws.AppendOwnNone
import Derived.Lib.AppendZeros
namespace Go.Proofs.Ytecljiefljgfmaa
open Go.RowKit

/-- The number that the first k bytes tell, the highest first. -/
def vl (l : List UInt8) : Nat → Nat
  | 0 => 0
  | k + 1 => vl l k * 256 + (l.getD k 0).toNat
theorem vl_bd (l : List UInt8) : ∀ k, vl l k < 256 ^ k
  | 0 => by simp [vl]
  | k + 1 => by
    have h := vl_bd l k
    have c := (l.getD k 0).toNat_lt
    simp only [vl, Nat.pow_succ]
    omega
theorem pow256 : ∀ k : Nat, k < 8 → 256 ^ k ≤ 72057594037927936 := by decide +kernel
theorem vl_7 (l : List UInt8) {k : Nat} (h : k < 8) : vl l k < 72057594037927936 := Nat.lt_of_lt_of_le (vl_bd l k) (pow256 k h)
theorem getD_nat {l : List UInt8} {k : Nat} (h : k < l.length) : (l.getD k 0).toNat = l[k].toNat := by simp [List.getD, List.getElem?_eq_getElem h]
theorem or_byte (n c : Nat) (hn : n < 72057594037927936) (hc : c < 256) : bits .or .u64 ((n : Int) * 256) (c : Int) = ((n * 256 + c : Nat) : Int) := by
  have e : ((n : Int) * 256) = ((n * 256 : Nat) : Int) := by omega
  rw [e, bits_or_u64_nat _ _ (by omega) (by omega)]
  have h := Nat.shiftLeft_add_eq_or_of_lt (i := 8) (b := c) (by omega) n
  rw [Nat.shiftLeft_eq] at h
  rw [show n * 256 = n * 2 ^ 8 from rfl, ← h]

set_option maxHeartbeats 400000 in
theorem number_any (a : Option Addr) (l : List UInt8) (cap : Nat) (w : World) (h8 : l.length ≤ 8) (hb : Bytes w a l) :
    Calls Try.prog 94 #[.slice a l.length cap] w fun e w' => e = .returned (.int .u64 (vl l l.length : Nat)) ∧ w = w' := by
  go_enter Try.func94, Try.ntmps94
  go_wp2
  go_loop [3, 8] (fun n i => ∃ k : Nat, k ≤ l.length ∧ i = .int .i64 k ∧ n = .int .u64 (vl l k : Nat)) (fun _ i => l.length - (intOf i).toNat)
  case atStart => exact ⟨0, Nat.zero_le _, rfl, rfl⟩
  case round =>
    obtain ⟨k, hk, rfl, rfl⟩ := hrel
    by_cases hlt : k < l.length
    · obtain ⟨b, off, rfl, hbl, hcs⟩ := hb.at hlt
      have hcell : w.cell? ⟨b, off + k, none⟩ = some (.int .u8 (l[k].toNat : Int)) := hcs k hlt
      have hc255 : (l[k].toNat : Int) ≤ 255 := by have := l[k].toNat_lt; omega
      have hv := vl_7 l (k := k) (by omega)
      have HO : Hid (bits .or .u64 ((vl l k : Int) * 256) (l[k].toNat : Int) = ((vl l k * 256 + l[k].toNat : Nat) : Int)) := or_byte _ _ hv (by have := l[k].toNat_lt; omega)
      have HG := getD_nat hlt
      have HG' : Hid ((l.getD k 0).toNat = l[k].toNat) := HG
      clear HG hcs
      go_wp2
      go_round
      case rel => exact ⟨k + 1, by omega, by go_num, by rw [HO.out, vl, HG'.out]⟩
      case measure => simp [intOf]; omega
    · have hkl : k = l.length := by omega
      subst hkl
      go_wp2
      go_ret
      exact ⟨rfl, rfl⟩

def g64 (l : List UInt8) : Nat := if l.length = 8 then vl l 8 else 0
def g64Ok (l : List UInt8) : Bool := decide (l.length = 8)
theorem g64_yes {l : List UInt8} (h : l.length = 8) : g64 l = vl l 8 ∧ g64Ok l = true := ⟨if_pos h, decide_eq_true h⟩
theorem g64_no {l : List UInt8} (h : l.length ≠ 8) : g64 l = 0 ∧ g64Ok l = false := ⟨if_neg h, decide_eq_false h⟩

set_option maxHeartbeats 400000 in
theorem get64_any (a : Option Addr) (l : List UInt8) (cap : Nat) (w : World) (_hr : l.length ≤ 140737488351232) (hb : Bytes w a l) :
    Calls Try.prog 77 #[.slice a l.length cap] w fun e w' => e = .returned (.tuple #[.int .u64 (g64 l : Nat), .bool (g64Ok l)]) ∧ w = w' := by
  by_cases h : l.length = 8
  · have hz : ((l.length : Int) != 8) = false := by simp; omega
    have H : Hid (l.length = 8) := h
    have hn := fun wx (hb : Bytes wx a l) => number_any a l cap wx (by omega) hb
    have HN : Hid (∀ wx, Bytes wx a l → Calls Try.prog 94 #[.slice a l.length cap] wx fun e w' => e = .returned (.int .u64 (vl l l.length : Nat)) ∧ wx = w') := hn
    clear h hn
    go_enter Try.func77, Try.ntmps77
    go_wp2_with fail
    refine (HN.out _ hb).mono ?_
    rintro e w' ⟨rfl, rfl⟩
    go_wp2
    go_ret2
    exact ⟨ret_ib (by rw [(g64_yes H.out).1, H.out]) (g64_yes H.out).2.symm, rfl⟩
  · have hz : ((l.length : Int) != 8) = true := by simp; omega
    have H : Hid (l.length ≠ 8) := h
    clear h
    go_enter Try.func77, Try.ntmps77
    go_wp2
    go_ret2
    exact ⟨ret_ib (by rw [(g64_no H.out).1]; rfl) (g64_no H.out).2.symm, rfl⟩

end Go.Proofs.Ytecljiefljgfmaa
/-
  enc.Pack by its contract.
-/
namespace Go.Proofs.Ytecljiefljgfmaa
open Go.RowKit

/-- The slice's head leads to the texts L (or there are none). -/
def Strs (w : World) (a : Option Addr) (L : List ByteArray) : Prop :=
  L = [] ∨ ∃ b off, a = some ⟨b, off, none⟩ ∧ b < w.heap.size ∧ ∀ j (h : j < L.length), w.cell? ⟨b, off + j, none⟩ = some (.string L[j])

theorem Strs.at {w : World} {a : Option Addr} {L : List ByteArray} (h : Strs w a L) {k : Nat} (hk : k < L.length) :
    ∃ b off, a = some ⟨b, off, none⟩ ∧ b < w.heap.size ∧ ∀ j (h : j < L.length), w.cell? ⟨b, off + j, none⟩ = some (.string L[j]) := by
  rcases h with rfl | h
  · simp at hk
  · exact h

theorem Strs.below {w w' : World} {a : Option Addr} {L : List ByteArray} (h : Strs w a L) {B : Nat} (hb : Below B w w') (hB : w.heap.size ≤ B) : Strs w' a L := by
  rcases h with rfl | ⟨b, off, rfl, hb', hc⟩
  · exact .inl rfl
  · refine .inr ⟨b, off, rfl, by have := hb.size; omega, fun j hj => ?_⟩
    rw [hb.cell (p := ⟨b, off + j, none⟩) (by show b < B; omega)]
    exact hc j hj

def tot : List ByteArray → Nat
  | [] => 0
  | s :: r => 4 + s.size + tot r
theorem tot_append (L M : List ByteArray) : tot (L ++ M) = tot L + tot M := by
  induction L with
  | nil => simp [tot]
  | cons a r ih => simp only [List.cons_append, tot, ih]; omega
theorem tot_snoc (L : List ByteArray) (k : Nat) (h : k < L.length) : tot (L.take (k + 1)) = tot (L.take k) + (4 + L[k].size) := by
  rw [List.take_succ_eq_append_getElem h, tot_append]
  simp [tot]
theorem tot_take (L : List ByteArray) (k : Nat) : tot (L.take k) ≤ tot L := by
  have := tot_append (L.take k) (L.drop k)
  rw [List.take_append_drop] at this
  omega
def packOne (s : ByteArray) : List UInt8 := be s.size 4 ++ s.data.toList
def packL (L : List ByteArray) : List UInt8 := L.flatMap packOne
theorem packL_snoc (L : List ByteArray) (k : Nat) (h : k < L.length) : packL (L.take (k + 1)) = packL (L.take k) ++ packOne L[k] := by
  rw [List.take_succ_eq_append_getElem h, packL, List.flatMap_append]
  simp only [List.flatMap_cons, List.flatMap_nil, List.append_nil]
  rfl
theorem packOne_length (s : ByteArray) : (packOne s).length = 4 + s.size := by simp [packOne, be_length]
theorem packL_length (L : List ByteArray) : (packL L).length = tot L := by
  induction L with
  | nil => rfl
  | cons a r ih =>
    have : packL (a :: r) = packOne a ++ packL r := rfl
    rw [this, List.length_append, packOne_length, ih, tot]

set_option maxHeartbeats 800000 in
theorem pack_any (a : Option Addr) (L : List ByteArray) (cap : Nat) (w : World) (hr : tot L ≤ 281474976710656 / 4) (hs : Strs w a L) :
    Calls Try.prog 81 #[.slice a L.length cap] w fun e w' => ∃ v', e = .returned v' ∧ Own w' w.heap.size v' (packL L) ∧ Below w.heap.size w w' := by
  obtain ⟨i0, hi, hz0, hz1, hz2⟩ := info_parts info5
  have hll : L.length ≤ tot L := by
    clear hr hs
    induction L with
    | nil => simp [tot]
    | cons x r ih => simp only [List.length_cons, tot]; omega
  have hm : i0.bytes * tot L ≤ 281474976710656 := by rw [hz2]; omega
  go_enter Try.func81, Try.ntmps81
  go_wp2
  go_loop [3, 11] (fun n i => ∃ k : Nat, k ≤ L.length ∧ i = .int .i64 k ∧ n = .int .i64 (tot (L.take k) : Nat)) (fun _ i => L.length - (intOf i).toNat)
  case atStart => exact ⟨0, Nat.zero_le _, rfl, rfl⟩
  case round =>
    obtain ⟨k, hk, rfl, rfl⟩ := hrel
    have htk := tot_take L k
    by_cases hlt : k < L.length
    · obtain ⟨b, off, rfl, hbl, hcs⟩ := hs.at hlt
      have hcell : w.cell? ⟨b, off + k, none⟩ = some (.string L[k]) := hcs k hlt
      have HS : Hid (tot (L.take (k + 1)) = tot (L.take k) + (4 + L[k].size)) := tot_snoc L k hlt
      have ht2 : tot (L.take k) + (4 + L[k].size) ≤ tot L := by rw [← HS.out]; exact tot_take L (k + 1)
      go_wp2
      go_round
      case rel => exact ⟨k + 1, by omega, by go_num, by rw [HS.out]; go_num⟩
      case measure => simp [intOf]; omega
    · have hkl : k = L.length := by omega
      subst hkl
      rw [List.take_length]
      clear htk hlt hk
      go_wp2_with (at_make; refine wpList_make_own _ rfl _ _ 50 rfl w.heap.size 5 i0 (.int .u8 0) 1 Try.underlying50 hi hz0 hz1 _ _ _ (tot L) rfl rfl (by omega) hm (by unfold maxLen; omega) (Nat.le_refl _) ?_; intro w0 hown0 hgrow0)
      go_loopw [6, 25] (fun v i wr => ∃ k : Nat, k ≤ L.length ∧ i = .int .i64 k ∧ Own wr w.heap.size v (packL (L.take k)) ∧ Below w.heap.size w wr)
        (fun _ i _ => L.length - (intOf i).toNat)
      case atStart => exact ⟨0, Nat.zero_le _, rfl, hown0, (Below.refl _ _).grown hgrow0 (Nat.le_refl _) (by simp)⟩
      case round =>
        obtain ⟨k, hk, rfl, hown, hnx⟩ := hrel
        have hsz := hnx.size
        have htk := tot_take L k
        clear hown0 hgrow0
        by_cases hlt : k < L.length
        · obtain ⟨b, off, rfl, hbl, hcs⟩ := hs.at hlt
          have hcell : wr.cell? ⟨b, off + k, none⟩ = some (.string L[k]) := (hnx.cell (p := ⟨b, off + k, none⟩) hbl).trans (hcs k hlt)
          have HS : Hid (tot (L.take (k + 1)) = tot (L.take k) + (4 + L[k].size)) := tot_snoc L k hlt
          have ht2 : tot (L.take k) + (4 + L[k].size) ≤ tot L := by rw [← HS.out]; exact tot_take L (k + 1)
          go_wp2_with (first
            | (go_at_call 96; refine (appendNumber_any w.heap.size _ (packL (L.take k)) L[k].size 4 _ hown hsz (by omega) (by rw [packL_length]; omega) (by omega)).mono ?_; rintro e w1 ⟨v1, rfl, ho1, hb1⟩)
            | (at_builtin; refine Lib.wpList_append_own_string _ rfl (.tmp 34) (.tmp 35) 50 9 rfl w.heap.size 5 i0 Try.underlying50 Try.underlying9 hi hz0 hz1 hz2 _ _ _ rfl ho1 L[k] rfl ?c1 ?c2 ?c3 ?_))
          case c1 => simp only [List.length_append, packL_length, be_length]; unfold maxLen; omega
          case c2 => simp only [List.length_append, packL_length, be_length]; omega
          case c3 => have := hb1.size; omega
          intro v2 w2 hown2 hgrow2 _
          have R : Own w2 w.heap.size v2 (packL (L.take (k + 1))) := by
            have e : packL (L.take (k + 1)) = packL (L.take k) ++ be L[k].size 4 ++ L[k].data.toList := by rw [packL_snoc L k hlt, packOne, List.append_assoc]
            have e2 : (packL (L.take k) ++ be L[k].size 4 ++ L[k].data.toList).length = (packL (L.take k)).length + (be L[k].size 4).length + L[k].size := by rw [List.length_append, List.length_append]; simp
            unfold Own
            rw [e, e2, bcs_append]
            exact hown2
          have hbl2 : Below w.heap.size w w2 := (hnx.trans hb1).grown hgrow2 (by have := hb1.size; omega) (fun j hj => (World.ownsRow.lt ho1 j hj).1)
          clear hown2 hgrow2 ho1
          go_wp2
          go_roundw
          case rel => exact ⟨k + 1, by omega, by go_num, R, hbl2⟩
          case measure => simp [intOf]; omega
        · have hkl : k = L.length := by omega
          subst hkl
          rw [List.take_length] at hown
          go_wp2
          go_ret
          exact ⟨_, rfl, hown, hnx⟩
end Go.Proofs.Ytecljiefljgfmaa
/-
  enc.Unpack by its contract.
-/
namespace Go.Proofs.Ytecljiefljgfmaa
open Go.RowKit

def piece (r : List UInt8) : ByteArray := ⟨((r.drop 4).take (vl r 4)).toArray⟩
/-- What Unpack answers, f rounds at the most. -/
def unp : Nat → List UInt8 → Option (List ByteArray)
  | 0, _ => none
  | f + 1, r => if r.length = 0 then some [] else if r.length < 4 then none else if r.length - 4 < vl r 4 then none else (unp f (r.drop (4 + vl r 4))).map (piece r :: ·)

theorem unp_fuel : ∀ (f g : Nat) (r : List UInt8), r.length < f → r.length < g → unp f r = unp g r
  | 0, _, _, h, _ => by omega
  | _ + 1, 0, _, _, h => by omega
  | f + 1, g + 1, r, h1, h2 => by
    simp only [unp]
    split
    · rfl
    · split
      · rfl
      · split
        · rfl
        · rw [unp_fuel f g (r.drop (4 + vl r 4)) (by simp; omega) (by simp; omega)]
theorem unp_nil {n : Nat} {r : List UInt8} (h : r.length = 0) : unp (n + 1) r = some [] := by simp only [unp, if_pos h]
theorem unp_short {n : Nat} {r : List UInt8} (h0 : r.length ≠ 0) (h : r.length < 4) : unp (n + 1) r = none := by simp only [unp, if_neg h0, if_pos h]
theorem unp_long {n : Nat} {r : List UInt8} (h0 : 4 ≤ r.length) (h : r.length - 4 < vl r 4) : unp (n + 1) r = none := by
  simp only [unp, if_neg (show ¬ r.length = 0 by omega), if_neg (show ¬ r.length < 4 by omega), if_pos h]
theorem unp_step {r : List UInt8} (h0 : 4 ≤ r.length) (h : vl r 4 ≤ r.length - 4) : unp (r.length + 1) r = (unp ((r.drop (4 + vl r 4)).length + 1) (r.drop (4 + vl r 4))).map (piece r :: ·) := by
  rw [unp, if_neg (show ¬ r.length = 0 by omega), if_neg (show ¬ r.length < 4 by omega), if_neg (show ¬ r.length - 4 < vl r 4 by omega)]
  rw [unp_fuel r.length ((r.drop (4 + vl r 4)).length + 1) (r.drop (4 + vl r 4)) (by simp; omega) (by simp)]

def uOk (l : List UInt8) : Bool := (unp (l.length + 1) l).isSome
def uL (l : List UInt8) : List ByteArray := (unp (l.length + 1) l).getD []

/-- A row of texts of the call's own. -/
def OwnS (w : World) (base : Nat) (v : Value) (L : List ByteArray) : Prop := w.ownsRow base 9 1 v L.length (L.map Value.string)
theorem ownS_nil (w : World) (base : Nat) {L : List ByteArray} (h : L = []) : OwnS w base (.slice none 0 0) L := by
  subst h
  exact World.ownsRow_nil _ _ _ _

theorem OwnS.strs {w : World} {base : Nat} {v : Value} {L : List ByteArray} (h : OwnS w base v L) : ∃ a cap, v = .slice a L.length cap ∧ Strs w a L := by
  obtain ⟨hl, ⟨rfl, hn⟩ | ⟨g, cap, cur, rfl, hg, hh, hnc, hcm, hcs, htk⟩⟩ := h
  · exact ⟨none, 0, by rw [hn], .inl (List.eq_nil_of_length_eq_zero hn)⟩
  · refine ⟨_, cap, rfl, .inr ⟨g, 0, rfl, ?_, ?_⟩⟩
    · rcases Nat.lt_or_ge g w.heap.size with h | h
      · exact h
      · rw [Array.getElem?_eq_none h] at hh
        simp at hh
    · intro j hj
      have hown : w.ownsRow base 9 1 (.slice (some ⟨g, 0, none⟩) L.length cap) L.length (L.map Value.string) := ⟨hl, .inr ⟨g, cap, cur, rfl, hg, hh, hnc, hcm, hcs, htk⟩⟩
      have := hown.cellAt j (by omega)
      simp only [Nat.zero_add]
      rw [this]
      simp [List.getElem?_eq_getElem hj]

theorem vl_take (r : List UInt8) (m : Nat) : ∀ k, k ≤ m → vl (r.take m) k = vl r k
  | 0, _ => rfl
  | k + 1, h => by
    rw [vl, vl, vl_take r m k (by omega)]
    have : (r.take m).getD k 0 = r.getD k 0 := by simp [List.getD, show k < m by omega]
    rw [this]
theorem vl4_bd (r : List UInt8) : vl r 4 < 4294967296 := by
  have := vl_bd r 4
  have e : (256 : Nat) ^ 4 = 4294967296 := by decide
  omega

theorem Bytes.take {w : World} {a : Option Addr} {r : List UInt8} (h : Bytes w a r) (k : Nat) : Bytes w a (r.take k) := by
  rcases h with rfl | ⟨b, off, rfl, hb, hc⟩
  · exact .inl (by simp)
  · refine .inr ⟨b, off, rfl, hb, fun j hj => ?_⟩
    have hj' : j < r.length := by simp at hj; omega
    rw [hc j hj']
    simp
theorem Bytes.drop {w : World} {b off : Nat} {r : List UInt8} (h : Bytes w (some ⟨b, off, none⟩) r) (k : Nat) : Bytes w (some ⟨b, off + k, none⟩) (r.drop k) := by
  rcases h with rfl | ⟨b', off', he, hb, hc⟩
  · exact .inl (by simp)
  · simp only [Option.some.injEq, Addr.mk.injEq, and_true] at he
    obtain ⟨rfl, rfl⟩ := he
    refine .inr ⟨b, off + k, rfl, hb, fun j hj => ?_⟩
    have hj' : k + j < r.length := by simp at hj; omega
    rw [show off + k + j = off + (k + j) from by omega, hc (k + j) hj']
    simp
theorem Bytes.cut {w : World} {b off c : Nat} {r : List UInt8} (h : Bytes w (some ⟨b, off, none⟩) r) {k : Nat} (hc : r.length ≤ c) : Bytes w (if c = k then some ⟨b, off, none⟩ else some ⟨b, off + k, none⟩) (r.drop k) := by
  split
  · exact .inl (List.drop_eq_nil_of_le (by omega))
  · exact h.drop k
theorem Bytes.drewN {w : World} {a : Option Addr} {r : List UInt8} (h : Bytes w a r) (n : Nat) : Bytes (w.drewN n) a r := h

theorem number4 (a : Option Addr) (r : List UInt8) (c : Nat) (w : World) (h : 4 ≤ r.length) (hb : Bytes w a r) :
    Calls Try.prog 94 #[.slice a 4 c] w fun e w' => e = .returned (.int .u64 (vl r 4 : Nat)) ∧ w' = w := by
  have hl : (r.take 4).length = 4 := by simp; omega
  have := number_any a (r.take 4) c w (by omega) (hb.take 4)
  rw [hl, vl_take r 4 4 (Nat.le_refl _)] at this
  exact this.mono fun _ _ h => ⟨h.1, h.2.symm⟩

theorem conv_piece (w : World) (a : Option Addr) (c : Nat) (r : List UInt8) (h : vl r 4 ≤ r.length - 4) (hb : Bytes w a (r.drop 4)) :
    (convert 50 9 (.slice a (vl r 4) c)).run Try.prog w = .ok (.string (piece r)) w := by
  have hl : ((r.drop 4).take (vl r 4)).length = vl r 4 := by simp; omega
  have := convert_bytes w a c ((r.drop 4).take (vl r 4)) (hb.take _)
  rw [hl] at this
  exact this

set_option maxHeartbeats 2000000 in
set_option maxRecDepth 20000 in
theorem unpack_any (a : Option Addr) (l : List UInt8) (cap : Nat) (w : World) (hr : l.length ≤ 8388608) (hcap : l.length ≤ cap) (hb : Bytes w a l) :
    Calls Try.prog 79 #[.slice a l.length cap] w fun e w' => ∃ v, e = .returned (.tuple #[v, .bool (uOk l)]) ∧ OwnS w' w.heap.size v (uL l) ∧ Below w.heap.size w w' := by
  obtain ⟨i0, hi, hz0, hz1, hz2⟩ := info_parts info9
  go_enter Try.func79, Try.ntmps79
  go_wp2
  go_loopw [0, 4] (fun u v wr => ∃ (a' : Option Addr) (r : List UInt8) (acc : List ByteArray) (c n : Nat), u = .slice a' n c ∧ n ≤ c ∧ r.length = n ∧ Bytes w a' r ∧ 4 * acc.length + n ≤ l.length ∧ unp (l.length + 1) l = (unp (r.length + 1) r).map (acc ++ ·) ∧
      OwnS wr w.heap.size v acc ∧ Below w.heap.size w wr)
    (fun u _ _ => match u with | .slice _ n _ => n | _ => 0)
  case atStart => exact ⟨a, l, [], cap, l.length, rfl, hcap, rfl, hb, by simp, by simp, World.ownsRow_nil _ _ _ _, Below.refl _ _⟩
  case round =>
    obtain ⟨a', r, acc, c, n, rfl, hrc, hrn, hbr, hal, hunp, hown, hnx⟩ := hrel
    have HN : Hid (r.length = n) := hrn
    have HU : Hid (unp (l.length + 1) l = (unp (r.length + 1) r).map (acc ++ ·)) := hunp
    clear hunp hrn
    have hsz := hnx.size
    by_cases h0 : 0 < n
    · by_cases h4 : n < 4
      · have hno : Hid (unp (l.length + 1) l = none) := by
          show _ = _
          rw [HU.out, unp_short (by rw [HN.out]; omega) (by rw [HN.out]; exact h4)]
          rfl
        go_wp2
        go_ret2
        exact ⟨_, ret_vb (by rw [uOk, hno.out]; rfl), ownS_nil _ _ (by rw [uL, hno.out]; rfl), hnx⟩
      · obtain ⟨b, off, rfl, hbb, hcs⟩ := hbr.at (k := 0) (by rw [HN.out]; exact h0)
        have hbw : Bytes wr (some ⟨b, off, none⟩) r := hbr.below hnx (Nat.le_refl _)
        have hv4 := vl4_bd r
        have k4 : (4 : Int) ≤ (n : Int) := by omega
        have k4c : (4 : Int) ≤ (c : Int) := by omega
        have HQ : Hid (∀ nq, Calls Try.prog 94 #[.slice (some ⟨b, off, none⟩) 4 c] (wr.drewN nq) fun e w' => e = .returned (.int .u64 (vl r 4 : Nat)) ∧ w' = wr.drewN nq) := fun nq => number4 _ r c _ (by rw [HN.out]; omega) (hbw.drewN nq)
        by_cases hlong : n - 4 < vl r 4
        · have hno : Hid (unp (l.length + 1) l = none) := by
            show _ = _
            rw [HU.out, unp_long (by rw [HN.out]; omega) (by rw [HN.out]; exact hlong)]
            rfl
          clear hcs hbr hbw
          go_wp2_with fail
          go_quiet ((go_at_call 94; exact Calls.quiet_of_same (HQ.out _)))
          go_wp2
          all_goals go_ret2
          all_goals exact ⟨_, ret_vb (by rw [uOk, hno.out]; rfl), ownS_nil _ _ (by rw [uL, hno.out]; rfl), below_drewN hnx _⟩
        · have hfit : vl r 4 ≤ n - 4 := by omega
          have HF : Hid (vl r 4 ≤ r.length - 4) := by
            show _ ≤ _
            rw [HN.out]
            exact hfit
          have kf : (vl r 4 : Int) ≤ (n : Int) - 4 := by omega
          by_cases hc4 : c = 4
          · have HW : Hid (Bytes wr (some ⟨b, off, none⟩) (r.drop 4)) := .inl (List.drop_eq_nil_of_le (by rw [HN.out]; omega))
            have HB : Hid (Bytes w (some ⟨b, off, none⟩) (r.drop (4 + vl r 4))) := .inl (List.drop_eq_nil_of_le (by rw [HN.out]; omega))
            clear hcs hbr hbw
            subst hc4
            obtain rfl : n = 4 := by omega
            have hv0 : vl r 4 = 0 := by omega
            have HV : Hid (vl r 4 = 0) := hv0
            clear hv0 hfit kf hlong hv4 k4 k4c hrc h4 h0
            have HQ' : Hid (∀ nq, Calls Try.prog 94 #[.slice (some ⟨b, off, none⟩) 4 4] (wr.drewN nq) fun e w' => e = .returned (.int .u64 0) ∧ w' = wr.drewN nq) := fun nq => by
              have := HQ.out nq
              rw [HV.out] at this
              exact this
            clear HQ
            go_wp2_with fail
            go_quiet ((go_at_call 94; exact Calls.quiet_of_same (HQ'.out _)))
            have hcv : (convert 50 9 (.slice (some ⟨b, off, none⟩) 0 0)).run Try.prog (wr.drewN nq) = .ok (.string (piece r)) (wr.drewN nq) := by
              have := conv_piece (wr.drewN nq) (some ⟨b, off, none⟩) 0 r HF.out (HW.out.drewN nq)
              rw [HV.out] at this
              exact this
            have hown' : (wr.drewN nq).ownsRow w.heap.size 9 1 u4 acc.length (acc.map Value.string) := hown
            go_wp2_with (at_builtin; refine wpList_append_own _ rfl (.tmp 23) (.tmp 28) 40 rfl w.heap.size 9 i0 (.string ⟨#[]⟩) 1 16 Try.underlying40 hi hz0 hz1 hz2 rfl (by decide) _ _ _ rfl (hown'.alloc _) ⟨wr.heap.size, 0, none⟩ 1 1 [.string (piece r)] rfl rfl ?c1a ?c2a ?c3a ?c4a ?c5a ?_)
            case c1a => exact cell_one_new (wr.drewN nq) _ _
            case c2a => exact one_one _ rfl
            case c3a => unfold maxLen; omega
            case c4a => omega
            case c5a => simp; omega
            intro v' w1 hown1 hgrow1 _
            have R : OwnS w1 w.heap.size v' (acc ++ [piece r]) := by
              unfold OwnS
              rw [List.length_append, List.map_append]
              exact hown1
            have hB1 : Below w.heap.size w w1 := ((below_drewN hnx nq).alloc hsz _).grown hgrow1 (by simp; omega) (fun j hj => (World.ownsRow.lt hown' j hj).1)
            clear hown1 hgrow1 hown' hcv hown
            go_wp2
            go_roundw
            case rel =>
              have hn := HN.out
              have hv := HV.out
              refine ⟨_, r.drop (4 + vl r 4), acc ++ [piece r], _, 0, rfl, by omega, by rw [List.length_drop]; omega, .inl (List.drop_eq_nil_of_le (by omega)), by simp; omega, ?_, R, hB1⟩
              · rw [HU.out, unp_step (by omega) HF.out, Option.map_map]
                congr 1
                funext x
                simp
            case measure => simp
          · have HW : Hid (Bytes wr (some ⟨b, off + 4, none⟩) (r.drop 4)) := hbw.drop 4
            have HB : Hid (Bytes w (some ⟨b, off + 4 + vl r 4, none⟩) (r.drop (4 + vl r 4))) := by
              have := hbr.drop (4 + vl r 4)
              rw [← Nat.add_assoc] at this
              exact this
            clear hcs hbr hbw
            go_wp2_with fail
            go_quiet ((go_at_call 94; exact Calls.quiet_of_same (HQ.out _)))
            have hcv := conv_piece (wr.drewN nq) (some ⟨b, off + 4, none⟩) (c - 4) r HF.out (HW.out.drewN nq)
            have hown' : (wr.drewN nq).ownsRow w.heap.size 9 1 u4 acc.length (acc.map Value.string) := hown
            go_wp2_with (at_builtin; refine wpList_append_own _ rfl (.tmp 23) (.tmp 28) 40 rfl w.heap.size 9 i0 (.string ⟨#[]⟩) 1 16 Try.underlying40 hi hz0 hz1 hz2 rfl (by decide) _ _ _ rfl (hown'.alloc _) ⟨wr.heap.size, 0, none⟩ 1 1 [.string (piece r)] rfl rfl ?c1b ?c2b ?c3b ?c4b ?c5b ?_)
            case c1b => exact cell_one_new (wr.drewN nq) _ _
            case c2b => exact one_one _ rfl
            case c3b => unfold maxLen; omega
            case c4b => omega
            case c5b => simp; omega
            intro v' w1 hown1 hgrow1 _
            have R : OwnS w1 w.heap.size v' (acc ++ [piece r]) := by
              unfold OwnS
              rw [List.length_append, List.map_append]
              exact hown1
            have hB1 : Below w.heap.size w w1 := ((below_drewN hnx nq).alloc hsz _).grown hgrow1 (by simp; omega) (fun j hj => (World.ownsRow.lt hown' j hj).1)
            clear hown1 hgrow1 hown' hcv hown
            go_wp2
            go_roundw
            case rel =>
              have hn := HN.out
              refine ⟨_, r.drop (4 + vl r 4), acc ++ [piece r], _, n - 4 - vl r 4, rfl, by omega, by rw [List.length_drop]; omega, ?_, by simp; omega, ?_, R, hB1⟩
              · split
                · exact .inl (List.drop_eq_nil_of_le (by omega))
                · exact HB.out
              · rw [HU.out, unp_step (by omega) HF.out, Option.map_map]
                congr 1
                funext x
                simp
            case measure => simp; omega
    · have hn0 : n = 0 := by omega
      have hyes : Hid (unp (l.length + 1) l = some acc) := by
        show _ = _
        rw [HU.out, unp_nil (by rw [HN.out]; exact hn0)]
        simp
      go_wp2
      go_ret2
      exact ⟨_, ret_vb (by rw [uOk, hyes.out]; rfl), by rw [uL, hyes.out]; exact hown, hnx⟩
end Go.Proofs.Ytecljiefljgfmaa
/-
  bytes.Equal, slices.Grow and slices.Concat of bytes by their contracts.
-/
namespace Go.Proofs.Ytecljiefljgfmaa
open Go.RowKit

theorem str_eq (x y : ByteArray) : (x.toList == y.toList) = decide (x = y) := by
  rw [ByteArray.toList_eq, ByteArray.toList_eq, Bool.eq_iff_iff]
  simp only [beq_iff_eq, decide_eq_true_eq]
  constructor
  · intro h
    cases x; cases y
    simpa using h
  · intro h; rw [h]
theorem ba_eq (l m : List UInt8) : ((⟨l.toArray⟩ : ByteArray) = ⟨m.toArray⟩) ↔ l = m := by
  constructor
  · intro h; simpa using h
  · intro h; rw [h]
set_option maxHeartbeats 1000000 in
theorem equal_any (a b : Option Addr) (l m : List UInt8) (c c' : Nat) (w : World) (h1 : Bytes w a l) (h2 : Bytes w b m) :
    Calls Try.prog 75 #[.slice a l.length c, .slice b m.length c'] w fun e w' => e = .returned (.bool (decide (l = m))) ∧ w = w' := by
  have q1 := convert_bytes w a c l h1
  have q2 := convert_bytes w b c' m h2
  obtain ⟨x, hx⟩ : ∃ x : ByteArray, x = ⟨l.toArray⟩ := ⟨_, rfl⟩
  obtain ⟨y, hy⟩ : ∃ y : ByteArray, y = ⟨m.toArray⟩ := ⟨_, rfl⟩
  have hd : decide (l = m) = (x.toList == y.toList) := by rw [str_eq, hx, hy]; exact decide_eq_decide.2 (ba_eq l m).symm
  rw [← hx] at q1
  rw [← hy] at q2
  rw [hd]
  clear h1 h2 hx hy hd
  go_enter Try.func75, Try.ntmps75
  go_wp2
  go_ret
  exact ⟨rfl, rfl⟩

theorem wpList_append_bytes {w : World} {ops : Array Oper} {rest : List Oper} {o : Oper} {a : Act} {Q : Exit → Act → World → Prop} (hgd : o.guard = none) (s x : Operand)
    (ho : o.op = .call { callee := .builtin .append, args := #[s, x], argTypes := #[50, 50] })
    (base : Nat) (v : Value) (l : List UInt8) (hs : a.eval s = v) (hown : Own w base v l)
    (xa : Option Addr) (m : List UInt8) (c : Nat) (hx : a.eval x = .slice xa m.length c) (hm : Bytes w xa m) (hc : xa = none → c = 0) (hbytes : l.length + m.length ≤ 140737488355328) (hbase : base ≤ w.heap.size)
    (h : ∀ v' w', Own w' base v' (l ++ m) → w.grownBy w' v.ownBlock → wpList Try.prog ops Q rest (a.put o.dst v') w') : wpList Try.prog ops Q (o :: rest) a w := by
  obtain ⟨i0, hi, hz0, hz1, hz2⟩ := info_parts info5
  cases xa with
  | none =>
    obtain rfl : m = [] := by rcases hm with h | ⟨_, _, he, _⟩; exact h; simp at he
    obtain rfl := hc rfl
    refine wpList_append_own_none hgd s x 50 ho base 5 i0 1 Try.underlying50 hi v l.length (bcs l) hs hown hx ?_
    exact h v w (by rw [List.append_nil]; exact hown) (World.grownBy.refl _ _)
  | some ad =>
    refine wpList_append_own w hgd s x 50 ho base 5 i0 (.int .u8 0) 1 1 Try.underlying50 hi hz0 hz1 hz2 rfl (by decide) v l.length (bcs l) hs hown ad m.length c (bcs m) hx (by rw [bcs_length, Nat.mul_one]) ?_ (bcs_one _) (by unfold maxLen; omega) (by omega) hbase ?_
    · intro j u hj
      rcases hm with rfl | ⟨b, off, he, _, hcs⟩
      · simp [bcs] at hj
      · simp only [Option.some.injEq] at he
        subst he
        have hj' : j < m.length := by
          have := (List.getElem?_eq_some_iff.1 hj).1
          rwa [bcs_length] at this
        rw [Addr.add_lit, hcs j hj', ← hj, bcs_get hj']
    · intro v' w' ho' hg' _
      refine h v' w' ?_ hg'
      unfold Own
      rw [List.length_append, bcs_append]
      exact ho'

/-- What a row of the call's own is, as a slice. -/
theorem Own.open {w : World} {base : Nat} {v : Value} {l : List UInt8} (h : Own w base v l) : ∃ a cap, v = .slice a l.length cap ∧ Bytes w a l ∧ (a = none → cap = 0) ∧ l.length ≤ cap ∧ ∀ g, Value.ownBlock (.slice a l.length cap) = some g → base ≤ g ∧ g < w.heap.size := by
  obtain ⟨a, cap, rfl, hb⟩ := h.bytes
  refine ⟨a, cap, rfl, hb, ?_, ?_, fun g hg => owns_lt h g hg⟩
  · rintro rfl
    obtain ⟨_, ⟨h1, h2⟩ | ⟨g, cap', cur, h1, _⟩⟩ := h
    · simp only [Value.slice.injEq] at h1; exact h1.2.2
    · simp at h1
  · obtain ⟨_, ⟨h1, h2⟩ | ⟨g, cap', cur, h1, _, _, h3, _⟩⟩ := h
    · omega
    · simp only [Value.slice.injEq] at h1
      obtain ⟨_, _, rfl⟩ := h1
      exact h3

/-- 'append' by its run. -/
theorem wpList_append_run {P : Program} {w : World} {ops : Array Oper} {rest : List Oper} {o : Oper} {a : Act} {Q : Exit → Act → World → Prop} (hgd : o.guard = none) (s x : Operand) (t tn : TypeId)
    (ho : o.op = .call { callee := .builtin .append, args := #[s, x], argTypes := #[t, tn] }) (vs vx : Value) (hs : a.eval s = vs) (hx : a.eval x = vx) (v' : Value) (w' : World)
    (hr : ∀ ty, (Builtin.append_ #[t, tn] ty #[vs, vx]).run P w = .ok v' w') (h : wpList P ops Q rest (a.put o.dst v') w') : wpList P ops Q (o :: rest) a w := by
  refine wpList_plain hgd fun _ hK => ?_
  unfold Oper.wp execOp
  simp only [ho, resolve, invoke, builtin, Sem.run_bind, Sem.run_pure, Result.andThen_ok, List.map_toArray, List.map_cons, List.map_nil, hs, hx, hr]
  exact hK _ _ h
theorem zeroCells_size (n : Nat) : (Builtin.zeroCells (Value.int .u8 0).cells n).size = n := by simp [Builtin.zeroCells, Value.cells]

set_option maxHeartbeats 1000000 in
set_option maxRecDepth 20000 in
theorem grow_any (n : Nat) (w : World) (hn : n ≤ 140737488355328) :
    Calls Try.prog 97 #[.slice none 0 0, .int .i64 (n : Int)] w fun e w' => ∃ v, e = .returned v ∧ Own w' w.heap.size v [] ∧ Below w.heap.size w w' := by
  obtain ⟨i0, hi, hz0, hz1, hz2⟩ := info_parts info5
  by_cases h0 : n = 0
  · subst h0
    go_enter Try.func97, Try.ntmps97
    go_wp2
    go_ret
    exact ⟨_, rfl, World.ownsRow_nil _ _ _ _, Below.refl _ _⟩
  · have hpos : (0 : Int) < (n : Int) := by omega
    have hrun : ∀ ty, (Builtin.append_ #[50, 3] ty #[.slice none 0 0, .int .i64 (n : Int)]).run Try.prog w = .ok (.slice (some ⟨w.heap.size, 0, none⟩) n (grownCap w n 0 5)) (w.drew.alloc (.cells (Builtin.zeroCells (Value.int .u8 0).cells n ++ Builtin.zeroCells (Value.int .u8 0).cells (grownCap w n 0 5 - n)) 5)) :=
      fun ty => Lib.run_append_nil_zeros w 50 3 ty 5 i0 (.int .u8 0) .i64 .i64 Try.underlying50 Try.underlying3 hi hz0 n (by omega) (by omega) (by omega) (by rw [hz2]; omega)
    have hG : n ≤ grownCap w n 0 5 := grownCap_ge w _ _ _
    have hG2 := grownCap_le_maxLen w n 0 5 (by unfold maxLen; omega)
    obtain ⟨c, hc⟩ : ∃ c, c = grownCap w n 0 5 := ⟨_, rfl⟩
    rw [← hc] at hrun hG hG2
    have hrow : (w.drew.alloc (.cells (Builtin.zeroCells (Value.int .u8 0).cells n ++ Builtin.zeroCells (Value.int .u8 0).cells (c - n)) 5)).ownsRow w.heap.size 5 1 (.slice (some ⟨w.heap.size, 0, none⟩) 0 c) 0 [] := by
      refine ⟨rfl, .inr ⟨w.heap.size, c, _, rfl, Nat.le_refl _, heap_alloc_new w.drew _, Nat.zero_le _, hG2, ?_, by simp⟩⟩
      rw [Array.size_append, zeroCells_size, zeroCells_size]
      omega
    have hbel : Below w.heap.size w (w.drew.alloc (.cells (Builtin.zeroCells (Value.int .u8 0).cells n ++ Builtin.zeroCells (Value.int .u8 0).cells (c - n)) 5)) := ((Below.refl _ w).drew).alloc (Nat.le_refl _) _
    obtain ⟨w1, hw1⟩ : ∃ w1, w1 = w.drew.alloc (.cells (Builtin.zeroCells (Value.int .u8 0).cells n ++ Builtin.zeroCells (Value.int .u8 0).cells (c - n)) 5) := ⟨_, rfl⟩
    rw [← hw1] at hrun hrow hbel
    have HR := (show Hid _ from hrun)
    have HX : Hid (w1.ownsRow w.heap.size 5 1 (.slice (some ⟨w.heap.size, 0, none⟩) 0 c) 0 [] ∧ Below w.heap.size w w1) := ⟨hrow, hbel⟩
    clear hc h0 hrun hrow hbel hw1
    go_enter Try.func97, Try.ntmps97
    go_wp2_with (at_builtin; refine wpList_append_run rfl (.tmp 20) (.tmp 21) 50 3 rfl (.slice none 0 0) (.int .i64 (n : Int)) rfl rfl (.slice (some ⟨w.heap.size, 0, none⟩) n c) w1 HR.out ?_)
    go_ret
    exact ⟨_, rfl, HX.out.1, HX.out.2⟩

/-- A slice of bytes, told. -/
structure Sl where
  a : Option Addr
  l : List UInt8
  c : Nat
def Sl.v (s : Sl) : Value := .slice s.a s.l.length s.c
/-- A row of such slices. -/
def Rws (w : World) (b : Nat) (xs : List Sl) : Prop :=
  b < w.heap.size ∧ ∀ j (h : j < xs.length), w.cell? ⟨b, j, none⟩ = some xs[j].v ∧ Bytes w xs[j].a xs[j].l ∧ (xs[j].a = none → xs[j].c = 0)
def cat (xs : List Sl) : List UInt8 := xs.flatMap (·.l)
theorem cat_take {xs : List Sl} {k : Nat} (h : k < xs.length) : cat (xs.take (k + 1)) = cat (xs.take k) ++ xs[k].l := by
  rw [List.take_succ_eq_append_getElem h, cat, cat, List.flatMap_append]
  simp
theorem cat_len (xs : List Sl) (k : Nat) : (cat (xs.take k)).length ≤ (cat xs).length := by
  have e : cat xs = cat (xs.take k) ++ cat (xs.drop k) := by rw [cat, cat, cat, ← List.flatMap_append, List.take_append_drop]
  rw [e, List.length_append]
  omega

set_option maxHeartbeats 2000000 in
set_option maxRecDepth 20000 in
theorem concat_any (b : Nat) (xs : List Sl) (cap : Nat) (w : World) (hx : Rws w b xs) (hn : xs.length ≤ 1000) (ht : (cat xs).length ≤ 1000000000) :
    Calls Try.prog 82 #[.slice (some ⟨b, 0, none⟩) xs.length cap] w fun e w' => ∃ v, e = .returned v ∧ Own w' w.heap.size v (cat xs) ∧ Below w.heap.size w w' := by
  have hgr := grow_any (cat xs).length w (by omega)
  have HG := (show Hid _ from hgr)
  have HX : Hid (Rws w b xs) := hx
  clear hgr hx
  go_enter Try.func82, Try.ntmps82
  go_wp2
  go_loop [3, 11] (fun n i => ∃ k : Nat, k ≤ xs.length ∧ i = .int .i64 k ∧ n = .int .i64 ((cat (xs.take k)).length : Int)) (fun _ i => xs.length - (intOf i).toNat)
  case atStart => exact ⟨0, Nat.zero_le _, rfl, rfl⟩
  case round =>
    obtain ⟨k, hk, rfl, rfl⟩ := hrel
    have hle := cat_len xs k
    by_cases hlt : k < xs.length
    · have hc := (HX.out.2 k hlt).1
      have hs := cat_take hlt
      have hle2 := cat_len xs (k + 1)
      rw [hs, List.length_append] at hle2
      obtain ⟨s, hse⟩ : ∃ s, s = xs[k] := ⟨_, rfl⟩
      rw [← hse, Sl.v] at hc
      rw [← hse] at hs hle2
      have hki : (k : Int) < (xs.length : Int) := by omega
      have HS : Hid (cat (xs.take (k + 1)) = cat (xs.take k) ++ s.l) := hs
      obtain ⟨n0, hn0⟩ : ∃ n0, n0 = (cat (xs.take k)).length := ⟨_, rfl⟩
      rw [← hn0] at hle hle2 ⊢
      have HN0 : Hid (n0 = (cat (xs.take k)).length) := hn0
      have hneg : ¬ ((n0 : Int) + (s.l.length : Int) < 0) := by omega
      clear hs hse hn0
      go_wp2
      go_round
      case rel => exact ⟨k + 1, by omega, by go_num, by rw [HS.out, List.length_append, ← HN0.out]; go_num⟩
      case measure => simp [intOf]; omega
    · obtain rfl : k = xs.length := by omega
      rw [List.take_length]
      clear hle hlt hk
      go_wp2_with fail
      refine Calls.mono HG.out ?_
      rintro e w1 ⟨v1, rfl, ho1, hb1⟩
      have HO1 : Hid (Own w1 w.heap.size v1 [] ∧ Below w.heap.size w w1) := ⟨ho1, hb1⟩
      clear ho1 hb1
      go_wp2
      go_loopw [6, 27] (fun v i wr => ∃ k : Nat, k ≤ xs.length ∧ i = .int .i64 k ∧ Own wr w.heap.size v (cat (xs.take k)) ∧ Below w.heap.size w wr) (fun _ i _ => xs.length - (intOf i).toNat)
      case atStart => exact ⟨0, Nat.zero_le _, rfl, HO1.out.1, HO1.out.2⟩
      case round =>
        obtain ⟨k, hk, rfl, hown, hnx⟩ := hrel
        clear HO1
        have hle := cat_len xs k
        by_cases hlt : k < xs.length
        · obtain ⟨hc, hby, hno⟩ := HX.out.2 k hlt
          have hs := cat_take hlt
          have hle2 := cat_len xs (k + 1)
          rw [hs, List.length_append] at hle2
          have hcr := (hnx.cell (p := ⟨b, k, none⟩) HX.out.1).trans hc
          obtain ⟨s, hse⟩ : ∃ s, s = xs[k] := ⟨_, rfl⟩
          rw [← hse, Sl.v] at hcr
          rw [← hse] at hs hle2 hby hno
          have hbr : Bytes wr s.a s.l := hby.below hnx (Nat.le_refl _)
          have hki : (k : Int) < (xs.length : Int) := by omega
          have HS : Hid (cat (xs.take (k + 1)) = cat (xs.take k) ++ s.l) := hs
          have hsz := hnx.size
          have HOB : Hid (∀ j, u6.ownBlock = some j → w.heap.size ≤ j) := fun j hj => (owns_lt hown j hj).1
          clear hs hse hc
          go_wp2_with (at_builtin; refine wpList_append_bytes rfl (.tmp 31) (.tmp 32) rfl w.heap.size _ (cat (xs.take k)) rfl hown s.a s.l s.c rfl hbr hno (by omega) hsz ?_; intro v2 w2 ho2 hg2)
          go_roundw
          case rel => exact ⟨k + 1, by omega, by go_num, by rw [HS.out]; exact ho2, hnx.grown hg2 hsz HOB.out⟩
          case measure => simp [intOf]; omega
        · obtain rfl : k = xs.length := by omega
          rw [List.take_length] at hown
          go_wp2
          go_ret
          exact ⟨_, rfl, hown, hnx⟩
end Go.Proofs.Ytecljiefljgfmaa
