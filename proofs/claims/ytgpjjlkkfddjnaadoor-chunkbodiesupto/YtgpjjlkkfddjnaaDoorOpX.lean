/-
  Who signs, as it came in: a key that is nothing has no room.
-/
import Derived.Test.YtgpjjlkkfddjnaaDoorOpW
namespace Go.Proofs.YtgpjjlkkfddjnaaDoor
open Go.ChangeShapes Go.WideShapes Go.ChangeAt Go.RowKit
open Go.ChangeMaps (open_string shut_string)

theorem row_bulk2 {H : Type} {enc : TypeId × Value → H} {W : World} {n : Nat} {v : Value} {x : DataW H × List MemPlace} (h : DataW.trod enc Tryd.prog W 0 (fun _ => true) true n 22 [v] = some x) :
    ∃ (a : Option Addr) (l : List UInt8) (c : Nat), v = .slice a l.length c ∧ Bytes W a l ∧ l.length ≤ Rows.uptoBulk x.1 ∧ l.length ≤ c ∧ (a = none → c = 0) := by
  rcases open_ints Tryd.underlying22 Tryd.underlying5 cells5 h with ⟨hcs, hd⟩ | ⟨y, l, c, zs, hcs, _, hl, hm, hz, hd, hcell, hwz⟩
  · have e : v = .slice none 0 0 := by simpa using hcs
    subst e
    exact ⟨none, [], 0, rfl, .inl rfl, by simp, by simp, fun _ => rfl⟩
  · have e : v = .slice (some y) l c := by simpa using hcs
    subst e
    have hz' : zs.length = c := by simpa using hz
    obtain ⟨m, e, hb⟩ := bytes_of_ints hl hz' hcell hwz
    subst e
    refine ⟨some y, m, c, rfl, hb, ?_, hl, fun h => by cases h⟩
    have hd0 : x.1 = .slice (lits .u8 (zs.take m.length)) (lits .u8 (zs.drop m.length)) := congrArg Prod.fst hd
    have hb := bulk_lits (H := H) .u8 (zs.take m.length)
    rw [hd0]
    simp only [Rows.uptoBulk]
    simp only [List.length_take] at hb
    omega
set_option maxRecDepth 20000 in
/-- Who signs, as it came in. -/
theorem open_who2 {H : Type} {enc : TypeId × Value → H} {W : World} {r : Reach} {base : Nat} {v : Value} {d : DataW H} {p : List MemPlace} (hv : Value.okWide Tryd.prog W r base 24 v) (h : DataW.Trod enc Tryd.prog W 0 (fun _ => true) true 24 v d p) (hb : Rows.uptoBulk d ≤ 1048576) :
    ∃ (x : Wh) (ka : Option Addr) (kc : Nat), v = x.v ka kc ∧ WhOk W x ka kc ∧ (ka = none → kc = 0) := by
  obtain ⟨cs, rfl, hsz⟩ := okWide_struct Tryd.underlying24 hv
  obtain ⟨c0, c1, c2, c3, c4, c5, rfl⟩ := arr6 (hsz.trans cells24)
  obtain ⟨fuel, hf⟩ := h
  have hf' : DataW.trod enc Tryd.prog W 0 (fun _ => true) true fuel 24 [c0, c1, c2, c3, c4, c5] = some (d, p) := hf
  obtain ⟨xs, k, _, hx, _, hxl, hg⟩ := DataW.trod_struct Tryd.underlying24 hf'
  obtain ⟨x0, x1, x2, x3, x4, x5, rfl⟩ := list6 hxl
  have hd : d = .agg [x0.1, x1.1, x2.1, x3.1, x4.1, x5.1] := (Prod.mk.inj hx).1
  have f0 : DataW.trod enc Tryd.prog W 0 (fun _ => true) true k 9 [c0] = some x0 := by
    have u : DataW.trod enc Tryd.prog W 0 (fun _ => true) true k 9 (([c0, c1, c2, c3, c4, c5].drop 0).take (Tryd.prog.cellsOf 9)) = [x0, x1, x2, x3, x4, x5][0]? := hg 0 _ rfl
    rw [cells9] at u
    exact u
  have f1 : DataW.trod enc Tryd.prog W 0 (fun _ => true) true k 9 [c1] = some x1 := by
    have u : DataW.trod enc Tryd.prog W 0 (fun _ => true) true k 9 (([c0, c1, c2, c3, c4, c5].drop 1).take (Tryd.prog.cellsOf 9)) = [x0, x1, x2, x3, x4, x5][1]? := hg 1 _ rfl
    rw [cells9] at u
    exact u
  have f2 : DataW.trod enc Tryd.prog W 0 (fun _ => true) true k 9 [c2] = some x2 := by
    have u : DataW.trod enc Tryd.prog W 0 (fun _ => true) true k 9 (([c0, c1, c2, c3, c4, c5].drop 2).take (Tryd.prog.cellsOf 9)) = [x0, x1, x2, x3, x4, x5][2]? := hg 2 _ rfl
    rw [cells9] at u
    exact u
  have f3 : DataW.trod enc Tryd.prog W 0 (fun _ => true) true k 9 [c3] = some x3 := by
    have u : DataW.trod enc Tryd.prog W 0 (fun _ => true) true k 9 (([c0, c1, c2, c3, c4, c5].drop 3).take (Tryd.prog.cellsOf 9)) = [x0, x1, x2, x3, x4, x5][3]? := hg 3 _ rfl
    rw [cells9] at u
    exact u
  have f4 : DataW.trod enc Tryd.prog W 0 (fun _ => true) true k 22 [c4] = some x4 := by
    have u : DataW.trod enc Tryd.prog W 0 (fun _ => true) true k 22 (([c0, c1, c2, c3, c4, c5].drop 4).take (Tryd.prog.cellsOf 22)) = [x0, x1, x2, x3, x4, x5][4]? := hg 4 _ rfl
    rw [cells22] at u
    exact u
  have f5 : DataW.trod enc Tryd.prog W 0 (fun _ => true) true k 9 [c5] = some x5 := by
    have u : DataW.trod enc Tryd.prog W 0 (fun _ => true) true k 9 (([c0, c1, c2, c3, c4, c5].drop 5).take (Tryd.prog.cellsOf 9)) = [x0, x1, x2, x3, x4, x5][5]? := hg 5 _ rfl
    rw [cells9] at u
    exact u
  obtain ⟨s0, r0, q0, _⟩ := DataW.trod_string Tryd.underlying9 f0
  obtain ⟨s1, r1, q1, _⟩ := DataW.trod_string Tryd.underlying9 f1
  obtain ⟨s2, r2, q2, _⟩ := DataW.trod_string Tryd.underlying9 f2
  obtain ⟨s3, r3, q3, _⟩ := DataW.trod_string Tryd.underlying9 f3
  obtain ⟨ka, kl, kc, rfl, hB, hbl, hkc, hkn⟩ := row_bulk2 f4
  obtain ⟨s5, r5, q5, _⟩ := DataW.trod_string Tryd.underlying9 f5
  simp only [List.cons.injEq, and_true] at r0 r1 r2 r3 r5
  subst r0 r1 r2 r3 r5
  have es : ∀ s : ByteArray, (⟨s.data.toList.toArray⟩ : ByteArray) = s := fun s => by cases s; simp
  have e1 : x1.1 = .lit (.string s1.data.toList) := congrArg Prod.fst q1
  have e2 : x2.1 = .lit (.string s2.data.toList) := congrArg Prod.fst q2
  have e3 : x3.1 = .lit (.string s3.data.toList) := congrArg Prod.fst q3
  rw [hd, e1, e2, e3] at hb
  simp only [Rows.uptoBulk, Rows.uptoBulkAll] at hb
  refine ⟨⟨s0.data.toList, s1.data.toList, s2.data.toList, s3.data.toList, kl, s5.data.toList⟩, ka, kc, by simp only [Wh.v, es], ⟨hkc, ?_, hB, ?_, ?_, ?_⟩, hkn⟩
  · show kl.length ≤ _; omega
  · show s1.data.toList.length ≤ _; omega
  · show s2.data.toList.length ≤ _; omega
  · show s3.data.toList.length ≤ _; omega
end Go.Proofs.YtgpjjlkkfddjnaaDoor
