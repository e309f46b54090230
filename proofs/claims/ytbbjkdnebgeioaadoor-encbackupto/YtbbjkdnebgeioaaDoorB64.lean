/-
  enc.Base64 by its contract.
-/
import Derived.Test.YtbbjkdnebgeioaaDoorUnhex
import Derived.Deep.RegionHeld3
namespace Go.Proofs.YtbbjkdnebgeioaaDoor
open Go.RowKit

def sdB (v : Int) : UInt8 := UInt8.ofNat (sd v).toNat
def N (c : UInt8) : Int := (c.toNat : Int)
def g3 (a b c : UInt8) : List UInt8 := [sdB (N a / 4), sdB (N a % 4 * 16 + N b / 16), sdB (N b % 16 * 4 + N c / 64), sdB (N c % 64)]
def g2 (a b : UInt8) : List UInt8 := [sdB (N a / 4), sdB (N a % 4 * 16 + N b / 16), sdB (N b % 16 * 4), 61]
def g1 (a : UInt8) : List UInt8 := [sdB (N a / 4), sdB (N a % 4 * 16), 61, 61]
def b64 : List UInt8 → List UInt8
  | a :: b :: c :: r => g3 a b c ++ b64 r
  | [a, b] => g2 a b
  | [a] => g1 a
  | [] => []

theorem sd_bd (v : Int) : 0 ≤ sd v ∧ sd v ≤ 122 := by
  unfold sd
  split
  · omega
  · split
    · omega
    · split
      · omega
      · split <;> omega
theorem sdB_cell (v : Int) : ((sdB v).toNat : Int) = sd v := by
  have := sd_bd v
  rw [sdB, UInt8.toNat_ofNat', Nat.mod_eq_of_lt (by omega)]
  omega
theorem sd_congr {u v : Int} (h : u % 64 = v % 64) : sd u = sd v := by unfold sd; rw [h]
theorem N_bd (c : UInt8) : 0 ≤ N c ∧ N c ≤ 255 := by have := c.toNat_lt; unfold N; omega
theorem or4_table : ∀ x : Nat, x < 64 → ∀ y : Nat, y < 4 → bits .or .u8 ((x : Int) * 4 % 256) (y : Int) = 4 * (x : Int) + (y : Int) := by decide +kernel
theorem or4 {x y : Int} (h1 : 0 ≤ x ∧ x ≤ 63) (h2 : 0 ≤ y ∧ y ≤ 3) : bits .or .u8 (x * 4 % 256) y = 4 * x + y := by
  obtain ⟨a, rfl⟩ := Int.eq_ofNat_of_zero_le h1.1
  obtain ⟨b, rfl⟩ := Int.eq_ofNat_of_zero_le h2.1
  exact or4_table a (by omega) b (by omega)

theorem or_16 (a b : UInt8) : bits .or .u8 (N a * 16 % 256) (N b / 16) = 16 * (N a % 16) + N b / 16 := by
  have h1 := N_bd a
  have h2 := N_bd b
  have e : N a * 16 % 256 = (N a % 16) * 16 % 256 := by omega
  rw [e, or16 (by omega) (by omega)]
theorem or_4 (b c : UInt8) : bits .or .u8 (N b * 4 % 256) (N c / 64) = 4 * (N b % 64) + N c / 64 := by
  have h1 := N_bd b
  have h2 := N_bd c
  have e : N b * 4 % 256 = (N b % 64) * 4 % 256 := by omega
  rw [e, or4 (by omega) (by omega)]

theorem or_16w (a b : UInt8) : bits .or .u8 (IntKind.u8.wrap (N a * 16)) (N b / 16) = 16 * (N a % 16) + N b / 16 := by
  rw [IntKind.wrap_u8', or_16]
theorem or_4w (b c : UInt8) : bits .or .u8 (IntKind.u8.wrap (N b * 4)) (N c / 64) = 4 * (N b % 64) + N c / 64 := by
  rw [IntKind.wrap_u8', or_4]

/-- How many characters. -/
def blen (n : Nat) : Nat := (n + 2) / 3 * 4

theorem Bytes.drop3 {w : World} {b off : Nat} {x y z : UInt8} {r : List UInt8} (hb : b < w.heap.size)
    (hc : ∀ j (h : j < (x :: y :: z :: r).length), w.cell? ⟨b, off + j, none⟩ = some (.int .u8 ((x :: y :: z :: r)[j].toNat : Int))) : Bytes w (some ⟨b, off + 3, none⟩) r := by
  refine .inr ⟨b, off + 3, rfl, hb, fun j hj => ?_⟩
  have := hc (j + 3) (by simp; omega)
  rw [show off + 3 + j = off + (j + 3) from by omega]
  simpa using this

/-- 'append' within the capacity, as one step of a region that draws its order. -/
theorem step_append_fits {P : Program} {w : World} {ops : Array Oper} {o : Oper} {a : Act} {K : Act → World → Prop} {Q : Exit → Act → World → Prop} {E : Prop}
    (hg : o.guard = none) (s x : Operand) (t : TypeId) (hop : o.op = Op.call { callee := Callee.builtin Builtin.append, args := #[s, x], argTypes := #[t, t] })
    (base : Nat) (e : TypeId) (i : TypeInfo) (size : Nat) (h1 : P.underlying t = some (.slice e)) (h2 : P.info? e = some i) (h4 : i.size = size)
    (g k cap : Nat) (xs : List Value) (hs : a.eval s = .slice (some ⟨g, 0, none⟩) k cap) (hown : w.ownsRow base e size (.slice (some ⟨g, 0, none⟩) k cap) k xs) (ad : Addr) (m c : Nat) (news : List Value) (hx : a.eval x = .slice (some ad) m c) (hn : news.length = m * size)
    (hc : ∀ j u, news[j]? = some u → w.cell? (ad.add j) = some u) (h1c : ∀ u ∈ news, u.oneCell' = true) (b1 : k + m ≤ cap)
    (hK : ∀ w', w'.ownsRow base e size (.slice (some ⟨g, 0, none⟩) (k + m) cap) (k + m) (xs ++ news) → w.grownBy w' (some g) → K (a.put o.dst (.slice (some ⟨g, 0, none⟩) (k + m) cap)) w') :
    if Region.wanted o (yielded ops a.tmps) = true then Oper.wp P o a w K Q else E := by
  have hw : Region.wanted o (yielded ops a.tmps) = true := by simp [Region.wanted, hg]
  rw [if_pos hw]
  obtain ⟨w', hrun, r1, r2⟩ := run_append_fits (P := P) w base t o.type e i size h1 h2 h4 g k cap xs hown ad m c news hn hc h1c b1
  unfold Oper.wp
  simp [execOp, hop, resolve, invoke, builtin, hs, hx, hrun, Result.andThen]
  exact hK w' r1 r2

theorem cell_four_new (w : World) (a b c d : Value) (t : TypeId) : ∀ j u, [a, b, c, d][j]? = some u → (w.alloc (.cells #[a, b, c, d] t)).cell? ((⟨w.heap.size, 0, none⟩ : Addr).add j) = some u := by
  intro j u hj
  rw [Addr.add_lit, World.cell?_alloc_mark]
  simpa using hj
theorem four_one (a b c d : Int) : ∀ u ∈ [Value.int .u8 a, .int .u8 b, .int .u8 c, .int .u8 d], u.oneCell' = true := by
  intro u hu
  simp at hu
  rcases hu with rfl | rfl | rfl | rfl <;> rfl

theorem keep_cell {wr w1 : World} {o : Obj} {p : Addr} {g : Nat} {v : Value} (hg : (wr.alloc o).drew.grownBy w1 (some g)) (hlt : p.block < wr.heap.size) (hne : p.block ≠ g) (c : wr.cell? p = some v) : w1.cell? p = some v := by
  refine hg.cell ?_ (by simpa using hne)
  have hb : Below wr.heap.size wr (wr.alloc o).drew := ((Below.refl _ wr).alloc (Nat.le_refl _) o).drew
  rw [hb.cell hlt]
  exact c

theorem conv_row {w : World} {base g cap n : Nat} {l : List UInt8} (hn : l.length = n) (h : w.ownsRow base 5 1 (.slice (some ⟨g, 0, none⟩) n cap) n (bcs l)) : (convert 27 9 (.slice (some ⟨g, 0, none⟩) n cap)).run Tryd.prog w = .ok (.string ⟨l.toArray⟩) w := by
  subst hn
  obtain ⟨a', cap', he, hbs⟩ := Own.bytes (v := .slice (some ⟨g, 0, none⟩) l.length cap) (l := l) h
  have hcv := convert_bytes w a' cap' l hbs
  rw [← he] at hcv
  exact hcv

theorem g1_cells (x : UInt8) : bcs (g1 x) = [.int .u8 (sd (N x / 4)), .int .u8 (sd (N x * 16 % 256)), .int .u8 61, .int .u8 61] := by
  have h1 := N_bd x
  simp only [bcs, g1, List.map_cons, List.map_nil, sdB_cell]
  rw [sd_congr (u := N x % 4 * 16) (v := N x * 16 % 256) (by omega)]
  rfl
theorem g2_cells (x y : UInt8) : bcs (g2 x y) = [.int .u8 (sd (N x / 4)), .int .u8 (sd (16 * (N x % 16) + N y / 16)), .int .u8 (sd (N y * 4 % 256)), .int .u8 61] := by
  have h1 := N_bd x
  have h2 := N_bd y
  simp only [bcs, g2, List.map_cons, List.map_nil, sdB_cell]
  rw [sd_congr (u := N x % 4 * 16 + N y / 16) (v := 16 * (N x % 16) + N y / 16) (by omega), sd_congr (u := N y % 16 * 4) (v := N y * 4 % 256) (by omega)]
  rfl

theorem g3_cells (x y z : UInt8) : bcs (g3 x y z) = [.int .u8 (sd (N x / 4)), .int .u8 (sd (16 * (N x % 16) + N y / 16)), .int .u8 (sd (4 * (N y % 64) + N z / 64)), .int .u8 (sd (N z))] := by
  have h1 := N_bd x
  have h2 := N_bd y
  have h3 := N_bd z
  simp only [bcs, g3, List.map_cons, List.map_nil, sdB_cell]
  rw [sd_congr (u := N x % 4 * 16 + N y / 16) (v := 16 * (N x % 16) + N y / 16) (by omega), sd_congr (u := N y % 16 * 4 + N z / 64) (v := 4 * (N y % 64) + N z / 64) (by omega), sd_congr (u := N z % 64) (v := N z) (by omega)]

set_option maxHeartbeats 2000000 in
theorem base64_any (a : Option Addr) (l : List UInt8) (cap : Nat) (w : World) (hr : l.length ≤ 140737488351232) (hcap : l.length ≤ cap) (hb : Bytes w a l) :
    Calls Tryd.prog 13 #[.slice a l.length cap] w fun e w' => e = .returned (.string ⟨(b64 l).toArray⟩) ∧ Below w.heap.size w w' := by
  obtain ⟨i0, hi, hz0, hz1, hz2⟩ := info_parts info5
  have hm : (i0.bytes * blen l.length) ≤ 281474976710656 := by rw [hz2, blen]; omega
  have hbl : ((l.length : Int) + 2) / 3 * 4 = (blen l.length : Int) := by rw [blen]; omega
  have hbm : blen l.length ≤ maxLen := by unfold blen maxLen; omega
  have HB := hbl
  go_enter Tryd.func13, Tryd.ntmps13
  go_wp2_with (at_make; refine wpList_make_own _ rfl _ _ 27 rfl w.heap.size 5 i0 (.int .u8 0) 1 Tryd.underlying27 hi hz0 hz1 _ _ _ (blen l.length) rfl rfl (by omega) hm hbm (Nat.le_refl _) ?_; intro w0 hown0 hgrow0)
  clear hbl HB
  go_loopw [0, 3] (fun u v wr => ∃ (a' : Option Addr) (r acc : List UInt8) (c n : Nat), u = .slice a' n c ∧ v = .slice (some ⟨w.heap.size, 0, none⟩) acc.length (blen l.length) ∧ n ≤ c ∧ r.length = n ∧ Bytes w a' r ∧ n ≤ l.length ∧ acc.length + blen n = blen l.length ∧ acc ++ b64 r = b64 l ∧
      wr.ownsRow w.heap.size 5 1 (.slice (some ⟨w.heap.size, 0, none⟩) acc.length (blen l.length)) acc.length (bcs acc) ∧ Below w.heap.size w wr)
    (fun u _ _ => match u with | .slice _ n _ => n | _ => 0)
  case atStart => exact ⟨a, l, [], cap, l.length, rfl, rfl, hcap, rfl, hb, Nat.le_refl _, by simp, by simp, hown0, (Below.refl _ _).grown hgrow0 (Nat.le_refl _) (by simp)⟩
  case round =>
    obtain ⟨a', r, acc, c, n, rfl, rfl, hrc, hrn, hbr, hrl, hbl2, hacc, hown, hnx⟩ := hrel
    have HL : Hid (acc.length + blen n = blen l.length) := hbl2
    have HA : Hid (acc ++ b64 r = b64 l) := hacc
    have HN : Hid (r.length = n) := hrn
    clear hbl2 hacc hown0 hgrow0 hrn
    have hsz := hnx.size
    by_cases h3 : 3 ≤ n
    · obtain ⟨x, y, z, r', rfl⟩ : ∃ x y z r', r = x :: y :: z :: r' := by
        have := HN.out
        match r, this with
        | x :: y :: z :: r', _ => exact ⟨x, y, z, r', rfl⟩
        | [], h => simp at h; omega
        | [x], h => simp at h; omega
        | [x, y], h => simp at h; omega
      have k0 : (0 : Int) < (n : Int) := by omega
      have k1 : (1 : Int) < (n : Int) := by omega
      have k2 : (2 : Int) < (n : Int) := by omega
      obtain ⟨b, off, rfl, hbb, hcs⟩ := hbr.at (k := 0) (by simp)
      have c0 : wr.cell? ⟨b, off, none⟩ = some (.int .u8 (N x)) := (hnx.cell (p := ⟨b, off, none⟩) hbb).trans (hcs 0 (by simp))
      have c1 : wr.cell? ⟨b, off + 1, none⟩ = some (.int .u8 (N y)) := (hnx.cell (p := ⟨b, off + 1, none⟩) hbb).trans (hcs 1 (by simp))
      have c2 : wr.cell? ⟨b, off + 2, none⟩ = some (.int .u8 (N z)) := (hnx.cell (p := ⟨b, off + 2, none⟩) hbb).trans (hcs 2 (by simp))
      have n0 := N_bd x
      have n1 := N_bd y
      have n2 := N_bd z
      have q1 := or_16w x y
      have q2 := or_4w y z
      have k3 : 0 < n := by omega
      have hroom : acc.length + 4 ≤ blen l.length := by have := HL.out; unfold blen at this ⊢; omega
      have hne : b ≠ w.heap.size := by omega
      have hlt : b < wr.heap.size := by omega
      have HD : Hid (Bytes w (some ⟨b, off + 3, none⟩) r') := Bytes.drop3 hbb hcs
      clear hcs hbr
      go_wp2
      go_region_held3 (fun w' => w'.cell? ⟨b, off, none⟩ = some (.int .u8 (N x)) ∧ w'.cell? ⟨b, off + 1, none⟩ = some (.int .u8 (N y)) ∧ w'.cell? ⟨b, off + 2, none⟩ = some (.int .u8 (N z))) (go_keep)
        (first
          | (refine step_append_fits rfl (.tmp 13) (.tmp 43) 27 rfl w.heap.size 5 i0 1 Tryd.underlying27 hi hz1 w.heap.size acc.length (blen l.length) (bcs acc) rfl (hown.drew.alloc _) ⟨wr.heap.size, 0, none⟩ 4 4 [.int .u8 (sd (N x / 4)), .int .u8 (sd (16 * (N x % 16) + N y / 16)), .int .u8 (sd (4 * (N y % 64) + N z / 64)), .int .u8 (sd (N z))] rfl rfl (cell_four_new _ _ _ _ _ _) (four_one _ _ _ _) hroom ?_; intro w1 hown1 hgrow1; have s0 := keep_cell hgrow1 hlt hne c0; have s1 := keep_cell hgrow1 hlt hne c1; have s2 := keep_cell hgrow1 hlt hne c2)
          | (go_at_call 27; refine (sixDigit_any _ _ (by omega) (by omega)).mono ?_; rintro e w' ⟨rfl, rfl⟩))
      clear c0 c1 c2 q1 q2
      have R : w1.ownsRow w.heap.size 5 1 (.slice (some ⟨w.heap.size, 0, none⟩) (acc.length + 4) (blen l.length)) (acc.length + 4) (bcs (acc ++ g3 x y z)) := by
        rw [bcs_append, g3_cells]
        exact hown1
      have hB1 : Below w.heap.size w w1 := ((hnx.alloc hsz _).drew).grown hgrow1 (by simp; omega) (by intro j hj; simp at hj; omega)
      clear hown1 hgrow1
      go_wp2
      go_roundw
      case rel =>
        have hn := HN.out
        simp only [List.length_cons] at hn
        refine ⟨_, r', acc ++ g3 x y z, c - 3, n - 3, rfl, by simp [g3], by omega, by omega, ?_, by omega, ?_, ?_, ?_, hB1⟩
        · split
          · exact .inl (List.eq_nil_of_length_eq_zero (by omega))
          · exact HD.out
        · have := HL.out
          simp only [List.length_append, g3, List.length_cons, List.length_nil]
          unfold blen at this ⊢
          omega
        · rw [← HA.out, b64, List.append_assoc]
        · simpa [g3] using R
      case measure => simp; omega
    · have hn := HN.out
      have h012 : n = 0 ∨ n = 1 ∨ n = 2 := by omega
      rcases h012 with rfl | rfl | rfl
      · obtain rfl : r = [] := List.eq_nil_of_length_eq_zero hn
        have hcv := conv_row (l := acc) rfl hown
        go_wp2
        go_ret
        exact ⟨ret_str (by rw [← HA.out, b64, List.append_nil]), hnx⟩
      · obtain ⟨x, rfl⟩ : ∃ x, r = [x] := by
          match r, hn with
          | [x], _ => exact ⟨x, rfl⟩
        obtain ⟨b, off, rfl, hbb, hcs⟩ := hbr.at (k := 0) (by simp)
        have c0 : wr.cell? ⟨b, off, none⟩ = some (.int .u8 (N x)) := (hnx.cell (p := ⟨b, off, none⟩) hbb).trans (hcs 0 (by simp))
        have n0 := N_bd x
        have q1 : IntKind.u8.wrap (N x * 16) = N x * 16 % 256 := IntKind.wrap_u8' _
        have hroom : acc.length + 4 ≤ blen l.length := by have := HL.out; unfold blen at this ⊢; omega
        have hne : b ≠ w.heap.size := by omega
        have hlt : b < wr.heap.size := by omega
        clear hcs hbr hn
        go_wp2
        go_region_held3 (fun w' => w'.cell? ⟨b, off, none⟩ = some (.int .u8 (N x))) (go_keep)
          (first
            | (refine step_append_fits rfl (.tmp 51) (.tmp 62) 27 rfl w.heap.size 5 i0 1 Tryd.underlying27 hi hz1 w.heap.size acc.length (blen l.length) (bcs acc) rfl (hown.drew.alloc _) ⟨wr.heap.size, 0, none⟩ 4 4 [.int .u8 (sd (N x / 4)), .int .u8 (sd (N x * 16 % 256)), .int .u8 61, .int .u8 61] rfl rfl (cell_four_new _ _ _ _ _ _) (four_one _ _ _ _) hroom ?_; intro w1 hown1 hgrow1; have s0 := keep_cell hgrow1 hlt hne c0)
            | (go_at_call 27; refine (sixDigit_any _ _ (by omega) (by omega)).mono ?_; rintro e w' ⟨rfl, rfl⟩))
        have hcv := conv_row (l := acc ++ g1 x) (n := acc.length + 4) (by simp [g1]) (by rw [bcs_append, g1_cells]; exact hown1)
        have hB1 : Below w.heap.size w w1 := ((hnx.alloc hsz _).drew).grown hgrow1 (by simp; omega) (by intro j hj; simp at hj; omega)
        clear hown1 hgrow1 c0 q1
        go_wp2
        go_ret
        exact ⟨ret_str (by rw [← HA.out, b64]), hB1⟩
      · obtain ⟨x, y, rfl⟩ : ∃ x y, r = [x, y] := by
          match r, hn with
          | [x, y], _ => exact ⟨x, y, rfl⟩
        obtain ⟨b, off, rfl, hbb, hcs⟩ := hbr.at (k := 0) (by simp)
        have c0 : wr.cell? ⟨b, off, none⟩ = some (.int .u8 (N x)) := (hnx.cell (p := ⟨b, off, none⟩) hbb).trans (hcs 0 (by simp))
        have c1 : wr.cell? ⟨b, off + 1, none⟩ = some (.int .u8 (N y)) := (hnx.cell (p := ⟨b, off + 1, none⟩) hbb).trans (hcs 1 (by simp))
        have n0 := N_bd x
        have n1 := N_bd y
        have q1 := or_16w x y
        have q2 : IntKind.u8.wrap (N y * 4) = N y * 4 % 256 := IntKind.wrap_u8' _
        have hroom : acc.length + 4 ≤ blen l.length := by have := HL.out; unfold blen at this ⊢; omega
        have hne : b ≠ w.heap.size := by omega
        have hlt : b < wr.heap.size := by omega
        clear hcs hbr hn
        go_wp2
        go_region_held3 (fun w' => w'.cell? ⟨b, off, none⟩ = some (.int .u8 (N x)) ∧ w'.cell? ⟨b, off + 1, none⟩ = some (.int .u8 (N y))) (go_keep)
          (first
            | (refine step_append_fits rfl (.tmp 66) (.tmp 87) 27 rfl w.heap.size 5 i0 1 Tryd.underlying27 hi hz1 w.heap.size acc.length (blen l.length) (bcs acc) rfl (hown.drew.alloc _) ⟨wr.heap.size, 0, none⟩ 4 4 [.int .u8 (sd (N x / 4)), .int .u8 (sd (16 * (N x % 16) + N y / 16)), .int .u8 (sd (N y * 4 % 256)), .int .u8 61] rfl rfl (cell_four_new _ _ _ _ _ _) (four_one _ _ _ _) hroom ?_; intro w1 hown1 hgrow1; have s0 := keep_cell hgrow1 hlt hne c0; have s1 := keep_cell hgrow1 hlt hne c1)
            | (go_at_call 27; refine (sixDigit_any _ _ (by omega) (by omega)).mono ?_; rintro e w' ⟨rfl, rfl⟩))
        have hcv := conv_row (l := acc ++ g2 x y) (n := acc.length + 4) (by simp [g2]) (by rw [bcs_append, g2_cells]; exact hown1)
        have hB1 : Below w.heap.size w w1 := ((hnx.alloc hsz _).drew).grown hgrow1 (by simp; omega) (by intro j hj; simp at hj; omega)
        clear hown1 hgrow1 c0 c1 q1 q2
        go_wp2
        go_ret
        exact ⟨ret_str (by rw [← HA.out, b64]), hB1⟩
end Go.Proofs.YtbbjkdnebgeioaaDoor
