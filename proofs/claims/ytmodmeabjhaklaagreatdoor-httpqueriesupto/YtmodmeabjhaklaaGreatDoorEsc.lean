/-
  chars.Escape by its contract.
-/
import Derived.Test.YtmodmeabjhaklaaGreatDoorCore
import Derived.Deep.RegionHeld3
namespace Go.Proofs.YtmodmeabjhaklaaGreatDoor
open Go.RowKit

def hx (v : Nat) : UInt8 := UInt8.ofNat (if v < 10 then 48 + v else 55 + v)
def stays (slash : Bool) (c : UInt8) : Bool := stayB (c.toNat : Int) || (slash && decide ((c.toNat : Int) = 47))
def e1 (slash : Bool) (c : UInt8) : List UInt8 := if stays slash c then [c] else [37, hx (c.toNat / 16), hx (c.toNat % 16)]
def escL (slash : Bool) (l : List UInt8) : List UInt8 := l.flatMap (e1 slash)
theorem e1_len (slash : Bool) (c : UInt8) : (e1 slash c).length ≤ 3 := by unfold e1; split <;> simp
theorem escL_len (slash : Bool) (l : List UInt8) : (escL slash l).length ≤ 3 * l.length := by
  unfold escL
  induction l with
  | nil => simp
  | cons a r ih =>
    have := e1_len slash a
    simp only [List.flatMap_cons, List.length_append, List.length_cons]
    omega
theorem escL_snoc (slash : Bool) (l : List UInt8) (k : Nat) (h : k < l.length) : escL slash (l.take (k + 1)) = escL slash (l.take k) ++ e1 slash l[k] := by
  rw [List.take_succ_eq_append_getElem h, escL, List.flatMap_append]
  simp only [List.flatMap_cons, List.flatMap_nil, List.append_nil]
  rfl

def hxI (v : Int) : Int := if v < 10 then 48 + v else 55 + v
def hexUp : ByteArray := ⟨#[48, 49, 50, 51, 52, 53, 54, 55, 56, 57, 65, 66, 67, 68, 69, 70]⟩
theorem hexUp_at : ∀ v : Fin 16, ((hexUp[v.val]'(by have := v.isLt; show v.val < 16; omega)).toNat : Int) = hxI (v.val : Int) := by decide +kernel
theorem hx_at (v : Int) (h0 : 0 ≤ v) (hv : v < 16) (w : World) :
    (Instr.index 9 (.string ⟨#[48, 49, 50, 51, 52, 53, 54, 55, 56, 57, 65, 66, 67, 68, 69, 70]⟩) (.int .u8 v)).run Tryz.prog w = .ok (.int .u8 (hxI v)) w := by
  obtain ⟨n, rfl⟩ := Int.eq_ofNat_of_zero_le h0
  rw [run_index_string w 9 _ .u8 _ Tryz.underlying9, dif_pos ⟨h0, hv⟩]
  have := hexUp_at ⟨n, by omega⟩
  exact congrArg (fun z => Result.ok (Value.int .u8 z) w) this
theorem hx_cell (n : Nat) (h : n < 16) : ((hx n).toNat : Int) = hxI (n : Int) := by
  unfold hx hxI
  rw [UInt8.toNat_ofNat']
  split <;> split <;> omega
theorem and15_t : ∀ n : Nat, n < 256 → bits .and .u8 (n : Int) 15 = (n : Int) % 16 := by decide +kernel
theorem e1_cells_no {slash : Bool} {c : UInt8} {n : Nat} (hn : n = c.toNat) (h : stays slash c = false) : bcs (e1 slash c) = [.int .u8 37, .int .u8 (hxI ((n : Int) / 16)), .int .u8 (hxI ((n : Int) % 16))] := by
  have := c.toNat_lt
  rw [e1, h, hn]
  simp only [Bool.false_eq_true, if_false, bcs, List.map_cons, List.map_nil]
  rw [hx_cell _ (by omega), hx_cell _ (by omega)]
  rfl
theorem e1_cells_yes {slash : Bool} {c : UInt8} {n : Nat} (hn : n = c.toNat) (h : stays slash c = true) : bcs (e1 slash c) = [.int .u8 (n : Int)] := by
  rw [e1, h, hn]
  rfl
theorem own_more {w : World} {base : Nat} {v : Value} {l m : List UInt8} {xs : List Value} {k : Nat} (hk : m.length = k) (hm : bcs m = xs) (h : w.ownsRow base 5 1 v (l.length + k) (bcs l ++ xs)) : Own w base v (l ++ m) := by
  subst hk hm
  rw [Own, List.length_append, bcs_append]
  exact h
theorem step_append_own {P : Program} {w : World} {ops : Array Oper} {o : Oper} {a : Act} {K : Act → World → Prop} {Q : Exit → Act → World → Prop} {E : Prop} (hgd : o.guard = none) (s x : Operand) (t : TypeId)
    (ho : o.op = .call { callee := .builtin .append, args := #[s, x], argTypes := #[t, t] })
    (base : Nat) (e : TypeId) (i : TypeInfo) (z : Value) (size bytes : Nat) (ht : P.underlying t = some (.slice e)) (hi : P.info? e = some i) (hz : i.zero = some z)
    (hsize : i.size = size) (hby : i.bytes = bytes) (hzs : z.cells.size = size) (hsz : 0 < size)
    (v : Value) (n : Nat) (xs : List Value) (hs : a.eval s = v) (hown : w.ownsRow base e size v n xs)
    (ad : Addr) (m c : Nat) (news : List Value) (hx : a.eval x = .slice (some ad) m c) (hl : news.length = m * size) (hnews : ∀ j u, news[j]? = some u → w.cell? (ad.add j) = some u) (h1 : ∀ u ∈ news, u.oneCell' = true)
    (h63 : n + m ≤ maxLen) (hbytes : (n + m) * bytes ≤ 140737488355328) (hbase : base ≤ w.heap.size)
    (h : ∀ v' w', w'.ownsRow base e size v' (n + m) (xs ++ news) → w.grownBy w' v.ownBlock → K (a.put o.dst v') w') :
    if Region.wanted o (yielded ops a.tmps) = true then Oper.wp P o a w K Q else E := by
  have hw : Region.wanted o (yielded ops a.tmps) = true := by simp [Region.wanted, hgd]
  rw [if_pos hw]
  exact wp_append_own w s x t ho base e i z size bytes ht hi hz hsize hby hzs hsz v n xs hs hown ad m c news hx hl hnews h1 h63 hbytes hbase fun v' w' h2 h3 _ => h v' w' h2 h3
theorem cell_three_new (w : World) (a b c : Value) (t : TypeId) : ∀ j u, [a, b, c][j]? = some u → (w.alloc (.cells #[a, b, c] t)).cell? ((⟨w.heap.size, 0, none⟩ : Addr).add j) = some u := by
  intro j u hj
  rw [Addr.add_lit, World.cell?_alloc_mark]
  simpa using hj
theorem three_one (a b c : Int) : ∀ u ∈ [Value.int .u8 a, .int .u8 b, .int .u8 c], u.oneCell' = true := by
  intro u hu
  simp at hu
  rcases hu with rfl | rfl | rfl <;> rfl
theorem one_one (x : Value) (h : x.oneCell' = true) : ∀ u ∈ [x], u.oneCell' = true := by
  intro u hu
  simp only [List.mem_singleton] at hu
  subst hu
  exact h
end Go.Proofs.YtmodmeabjhaklaaGreatDoor
