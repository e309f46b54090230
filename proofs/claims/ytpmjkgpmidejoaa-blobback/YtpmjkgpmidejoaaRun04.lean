/-
  Bytes that stay behind later calls; rows of the call's own.
-/
import Derived.Test.YtpmjkgpmidejoaaRun02
import Derived.Test.YtpmjkgpmidejoaaRun03
import Derived.Laws.AppendOwnNone
import Derived.Lib.AppendZeros
namespace Go.Proofs.Ytpmjkgpmidejoaa
open Go.RowKit

theorem bcs_append (l m : List UInt8) : bcs (l ++ m) = bcs l ++ bcs m := by simp [bcs]
theorem Bytes.at {w : World} {a : Option Addr} {l : List UInt8} (h : Bytes w a l) {k : Nat} (hk : k < l.length) :
    ∃ b off, a = some ⟨b, off, none⟩ ∧ b < w.heap.size ∧ ∀ j (h : j < l.length), w.cell? ⟨b, off + j, none⟩ = some (.int .u8 (l[j].toNat : Int)) := by
  rcases h with rfl | h
  · simp at hk
  · exact h
theorem Bytes.below {w w' : World} {a : Option Addr} {l : List UInt8} (h : Bytes w a l) {B : Nat} (hb : Below B w w') (hB : w.heap.size ≤ B) : Bytes w' a l := by
  rcases h with rfl | ⟨b, off, rfl, hb', hc⟩
  · exact .inl rfl
  · refine .inr ⟨b, off, rfl, by have := hb.size; omega, fun j hj => ?_⟩
    rw [hb.cell (p := ⟨b, off + j, none⟩) (by show b < B; omega)]
    exact hc j hj
def Own (w : World) (base : Nat) (v : Value) (l : List UInt8) : Prop := w.ownsRow base 5 1 v l.length (bcs l)
theorem Own.bytes {w : World} {base : Nat} {v : Value} {l : List UInt8} (h : Own w base v l) : ∃ a cap, v = .slice a l.length cap ∧ Bytes w a l := by
  obtain ⟨hl, ⟨rfl, hn⟩ | ⟨g, cap, cur, rfl, hg, hh, hnc, hcm, hcs, htk⟩⟩ := h
  · exact ⟨none, 0, by rw [hn], .inl (List.eq_nil_of_length_eq_zero hn)⟩
  · refine ⟨_, cap, rfl, .inr ⟨g, 0, rfl, ?_, ?_⟩⟩
    · rcases Nat.lt_or_ge g w.heap.size with h | h
      · exact h
      · rw [Array.getElem?_eq_none h] at hh
        simp at hh
    · intro j hj
      have hown : w.ownsRow base 5 1 (.slice (some ⟨g, 0, none⟩) l.length cap) l.length (bcs l) := ⟨hl, .inr ⟨g, cap, cur, rfl, hg, hh, hnc, hcm, hcs, htk⟩⟩
      have := hown.cellAt j (by omega)
      simp only [Nat.zero_add]
      rw [this, bcs_get hj]
theorem ret_ib {k : IntKind} {a b : Int} {p q : Bool} (h : a = b) (g : p = q) : Ending.returned (.tuple #[.int k a, .bool p]) = .returned (.tuple #[.int k b, .bool q]) := by rw [h, g]
theorem ret_vb {v : Value} {p q : Bool} (g : p = q) : Ending.returned (.tuple #[v, .bool p]) = .returned (.tuple #[v, .bool q]) := by rw [g]
theorem own_nil (w : World) (base : Nat) {l : List UInt8} (h : l = []) : Own w base (.slice none 0 0) l := by
  subst h
  exact World.ownsRow_nil _ _ _ _
theorem one_one (x : Value) (h : x.oneCell' = true) : ∀ u ∈ [x], u.oneCell' = true := by
  intro u hu
  simp only [List.mem_singleton] at hu
  subst hu
  exact h
end Go.Proofs.Ytpmjkgpmidejoaa
/-
  Bytes: the lowest bytes of a number, pieces of slices, bytes.Equal, append.
-/
namespace Go.Proofs.Ytpmjkgpmidejoaa
open Go.RowKit

/-- The lowest k bytes of n, the highest first. -/
def be (n : Nat) : Nat → List UInt8
  | 0 => []
  | k + 1 => UInt8.ofNat (n / 2 ^ (8 * k)) :: be n k
theorem be_length (n : Nat) : ∀ k, (be n k).length = k
  | 0 => rfl
  | k + 1 => by simp [be, be_length n k]

theorem be_cell (n j : Nat) : bcs [UInt8.ofNat (n / 2 ^ (8 * j))] = [.int .u8 ((n : Int) / 2 ^ (8 * j) % 256)] := by
  simp only [bcs, List.map_cons, List.map_nil]
  rw [UInt8.toNat_ofNat']
  simp

theorem Bytes.take {w : World} {a : Option Addr} {r : List UInt8} (h : Bytes w a r) (k : Nat) : Bytes w a (r.take k) := by
  rcases h with rfl | ⟨b, off, rfl, hb, hc⟩
  · exact .inl (by simp)
  · refine .inr ⟨b, off, rfl, hb, fun j hj => ?_⟩
    have hj' : j < r.length := by simp at hj; omega
    rw [hc j hj']
    simp
theorem Bytes.drop {w : World} {b off : Nat} {r : List UInt8} (h : Bytes w (some ⟨b, off, none⟩) r) (k : Nat) : Bytes w (some ⟨b, off + k, none⟩) (r.drop k) := by
  rcases h with rfl | ⟨b', off', he, hb, hc⟩
  · exact .inl (by simp)
  · simp only [Option.some.injEq, Addr.mk.injEq, and_true] at he
    obtain ⟨rfl, rfl⟩ := he
    refine .inr ⟨b, off + k, rfl, hb, fun j hj => ?_⟩
    have hj' : k + j < r.length := by simp at hj; omega
    rw [show off + k + j = off + (k + j) from by omega, hc (k + j) hj']
    simp
theorem Bytes.cut {w : World} {b off c : Nat} {r : List UInt8} (h : Bytes w (some ⟨b, off, none⟩) r) {k : Nat} (hc : r.length ≤ c) : Bytes w (if c = k then some ⟨b, off, none⟩ else some ⟨b, off + k, none⟩) (r.drop k) := by
  split
  · exact .inl (List.drop_eq_nil_of_le (by omega))
  · exact h.drop k
theorem Bytes.drewN {w : World} {a : Option Addr} {r : List UInt8} (h : Bytes w a r) (n : Nat) : Bytes (w.drewN n) a r := h

theorem str_eq (x y : ByteArray) : (x.toList == y.toList) = decide (x = y) := by
  rw [ByteArray.toList_eq, ByteArray.toList_eq, Bool.eq_iff_iff]
  simp only [beq_iff_eq, decide_eq_true_eq]
  constructor
  · intro h
    cases x; cases y
    simpa using h
  · intro h; rw [h]
theorem ba_eq (l m : List UInt8) : ((⟨l.toArray⟩ : ByteArray) = ⟨m.toArray⟩) ↔ l = m := by
  constructor
  · intro h; simpa using h
  · intro h; rw [h]
set_option maxHeartbeats 1000000 in
theorem equal_any (a b : Option Addr) (l m : List UInt8) (c c' : Nat) (w : World) (h1 : Bytes w a l) (h2 : Bytes w b m) :
    Calls Try.prog 76 #[.slice a l.length c, .slice b m.length c'] w fun e w' => e = .returned (.bool (decide (l = m))) ∧ w = w' := by
  have q1 := convert_bytes w a c l h1
  have q2 := convert_bytes w b c' m h2
  obtain ⟨x, hx⟩ : ∃ x : ByteArray, x = ⟨l.toArray⟩ := ⟨_, rfl⟩
  obtain ⟨y, hy⟩ : ∃ y : ByteArray, y = ⟨m.toArray⟩ := ⟨_, rfl⟩
  have hd : decide (l = m) = (x.toList == y.toList) := by rw [str_eq, hx, hy]; exact decide_eq_decide.2 (ba_eq l m).symm
  rw [← hx] at q1
  rw [← hy] at q2
  rw [hd]
  clear h1 h2 hx hy hd
  go_enter Try.func76, Try.ntmps76
  go_wp2
  go_ret
  exact ⟨rfl, rfl⟩

theorem wpList_append_bytes {w : World} {ops : Array Oper} {rest : List Oper} {o : Oper} {a : Act} {Q : Exit → Act → World → Prop} (hgd : o.guard = none) (s x : Operand)
    (ho : o.op = .call { callee := .builtin .append, args := #[s, x], argTypes := #[38, 38] })
    (base : Nat) (v : Value) (l : List UInt8) (hs : a.eval s = v) (hown : Own w base v l)
    (xa : Option Addr) (m : List UInt8) (c : Nat) (hx : a.eval x = .slice xa m.length c) (hm : Bytes w xa m) (hc : xa = none → c = 0) (hbytes : l.length + m.length ≤ 140737488355328) (hbase : base ≤ w.heap.size)
    (h : ∀ v' w', Own w' base v' (l ++ m) → w.grownBy w' v.ownBlock → wpList Try.prog ops Q rest (a.put o.dst v') w') : wpList Try.prog ops Q (o :: rest) a w := by
  obtain ⟨i0, hi, hz0, hz1, hz2⟩ := info_parts info5
  cases xa with
  | none =>
    obtain rfl : m = [] := by rcases hm with h | ⟨_, _, he, _⟩; exact h; simp at he
    obtain rfl := hc rfl
    refine wpList_append_own_none hgd s x 38 ho base 5 i0 1 Try.underlying38 hi v l.length (bcs l) hs hown hx ?_
    exact h v w (by rw [List.append_nil]; exact hown) (World.grownBy.refl _ _)
  | some ad =>
    refine wpList_append_own w hgd s x 38 ho base 5 i0 (.int .u8 0) 1 1 Try.underlying38 hi hz0 hz1 hz2 rfl (by decide) v l.length (bcs l) hs hown ad m.length c (bcs m) hx (by rw [bcs_length, Nat.mul_one]) ?_ (bcs_one _) (by unfold maxLen; omega) (by omega) hbase ?_
    · intro j u hj
      rcases hm with rfl | ⟨b, off, he, _, hcs⟩
      · simp [bcs] at hj
      · simp only [Option.some.injEq] at he
        subst he
        have hj' : j < m.length := by
          have := (List.getElem?_eq_some_iff.1 hj).1
          rwa [bcs_length] at this
        rw [Addr.add_lit, hcs j hj', ← hj, bcs_get hj']
    · intro v' w' ho' hg' _
      refine h v' w' ?_ hg'
      unfold Own
      rw [List.length_append, bcs_append]
      exact ho'

/-- What a row of the call's own is, as a slice. -/
theorem Own.open {w : World} {base : Nat} {v : Value} {l : List UInt8} (h : Own w base v l) : ∃ a cap, v = .slice a l.length cap ∧ Bytes w a l ∧ (a = none → cap = 0) ∧ l.length ≤ cap ∧ ∀ g, Value.ownBlock (.slice a l.length cap) = some g → base ≤ g ∧ g < w.heap.size := by
  obtain ⟨a, cap, rfl, hb⟩ := h.bytes
  refine ⟨a, cap, rfl, hb, ?_, ?_, fun g hg => owns_lt h g hg⟩
  · rintro rfl
    obtain ⟨_, ⟨h1, h2⟩ | ⟨g, cap', cur, h1, _⟩⟩ := h
    · simp only [Value.slice.injEq] at h1; exact h1.2.2
    · simp at h1
  · obtain ⟨_, ⟨h1, h2⟩ | ⟨g, cap', cur, h1, _, _, h3, _⟩⟩ := h
    · omega
    · simp only [Value.slice.injEq] at h1
      obtain ⟨_, _, rfl⟩ := h1
      exact h3

/-- 'append' by its run. -/
theorem wpList_append_run {P : Program} {w : World} {ops : Array Oper} {rest : List Oper} {o : Oper} {a : Act} {Q : Exit → Act → World → Prop} (hgd : o.guard = none) (s x : Operand) (t tn : TypeId)
    (ho : o.op = .call { callee := .builtin .append, args := #[s, x], argTypes := #[t, tn] }) (vs vx : Value) (hs : a.eval s = vs) (hx : a.eval x = vx) (v' : Value) (w' : World)
    (hr : ∀ ty, (Builtin.append_ #[t, tn] ty #[vs, vx]).run P w = .ok v' w') (h : wpList P ops Q rest (a.put o.dst v') w') : wpList P ops Q (o :: rest) a w := by
  refine wpList_plain hgd fun _ hK => ?_
  unfold Oper.wp execOp
  simp only [ho, resolve, invoke, builtin, Sem.run_bind, Sem.run_pure, Result.andThen_ok, List.map_toArray, List.map_cons, List.map_nil, hs, hx, hr]
  exact hK _ _ h
theorem zeroCells_size (n : Nat) : (Builtin.zeroCells (Value.int .u8 0).cells n).size = n := by simp [Builtin.zeroCells, Value.cells]

end Go.Proofs.Ytpmjkgpmidejoaa
