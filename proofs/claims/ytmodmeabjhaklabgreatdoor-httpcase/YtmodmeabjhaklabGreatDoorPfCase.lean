/- HttpCase, its card, in full: whatever value a header has, the case of names and the blanks around the value make no difference to what is read; the tables and the two errors of the library read as the text of the program lays them (the tie is given). -/
import Derived.Test.YtmodmeabjhaklabGreatDoorPfLent
import Derived.Test.YtmodmeabjhaklabGreatDoorLawCase
import Derived.Test.YtmodmeabjhaklabGreatDoorRunG
namespace Go.Proofs.YtmodmeabjhaklabGreatDoor
open Go.ChangeShapes Go.WideShapes Go.ChangeAt Go.RowKit
open Go.ChangeMaps (open_string shut_string)

theorem er_of5 {W : World} (h : laidMetH Tryz.prog Rows.httpCaseRow.laid W) : Er W := by
  have h1 : laidMet Tryz.prog Rows.httpCaseRow.laid W := h
  have h2 := laidMet.tail (laidMet.tail (laidMet.tail (laidMet.tail h1)))
  obtain ⟨a, s, hv, -⟩ := laid_sentinel (laidMet.tail h2) gErrS gErrSType Tryz.underlying89 row134 Tryz.underlying134 Tryz.underlying136 rfl rfl Tryz.underlying9 cells136 cells9
  obtain ⟨a', s', hv', -⟩ := laid_sentinel h2 gErrR gErrRType Tryz.underlying89 row134 Tryz.underlying134 Tryz.underlying136 rfl rfl Tryz.underlying9 cells136 cells9
  exact ⟨⟨_, World.var?_cell gErrS hv 0, .inr ⟨_, _, rfl⟩⟩, ⟨_, World.var?_cell gErrR hv' 0, .inr ⟨_, _, rfl⟩⟩⟩
set_option maxRecDepth 20000 in
theorem httpCase_contract (H : Type) (enc : TypeId × Value → H) (W : World) (base : Nat) (args : Array Value) (ds gs : List (DataW H)) (before : List MemPlace)
    (hval : ∀ (j : Nat) t v, Tryz.f5.params[j]? = some t → args[j]? = some v → Value.okWide Tryz.prog W .any base t v)
    (hW : DataW.Whole enc Tryz.prog Tryz.f5.params.toList Rows.httpCaseSpec.vars false W args.toList ds gs before)
    (hL : laidMetH Tryz.prog Rows.httpCaseRow.laid W) (hsh : W.ShapedOpen Tryz.prog) :
    Calls Tryz.prog 5 args W fun e W' => ∃ v, e = .returned v ∧ Rows.httpCaseSpec.post enc Tryz.prog Tryz.f5 false true false false W args v W' := by
  have hW' := hW
  obtain ⟨p, q, hA0, hV, rfl, hfz, hnd⟩ := hW
  have hA : DataW.TrodAll enc Tryz.prog W 0 (fun _ => true) true Tryz.f5.params.toList args.toList ds p := hA0
  rw [Tryz.params5] at hA hval
  obtain ⟨v0, vs0, d0, ds0, p0, q0, hargs, rfl, rfl, h0, r0⟩ := trodAll_cons hA
  obtain ⟨v1, vs1, d1, ds1, p1, q1, rfl, rfl, rfl, h1, r1⟩ := trodAll_cons r0
  obtain ⟨v2, vs2, d2, ds2, p2, q2, rfl, rfl, rfl, h2, r2⟩ := trodAll_cons r1
  obtain ⟨rfl, rfl, rfl⟩ := trodAll_nil r2
  obtain rfl : args = #[v0, v1, v2] := by cases args; simp_all
  obtain ⟨rfl, rfl⟩ := trodVars_none hV
  obtain ⟨s0, rfl, rfl, rfl, w0⟩ := open_string Tryz.underlying9 (hval 0 9 v0 rfl rfl) h0
  obtain ⟨b1, rfl, rfl, rfl⟩ := open_bool Tryz.underlying4 (hval 1 4 v1 rfl rfl) h1
  obtain ⟨n2, rfl, rfl, rfl, w2⟩ := open_int Tryz.underlying3 (hval 2 3 v2 rfl rfl) h2
  clear hA0
  have key := httpCase_walk s0 b1 n2 W (mx_of hsh) (er_of5 hL)
  refine key.mono fun e W' ⟨he, bel⟩ => ?_
  subst he
  exact ⟨_, rfl, _, _, _, [], _, [], hW', trodAll_mk1 (shut_bool Tryz.underlying4 _), (trodAll_cons_mk (shut_string Tryz.underlying9 w0) (trodAll_cons_mk (shut_bool Tryz.underlying4 _) (trodAll_cons_mk (shut_int Tryz.underlying3 w2) trodAll_mk0))), rfl, bel.frame _, fun h => by cases h⟩
theorem httpCase_met (os : Os) : laidMet Tryz.prog Rows.httpCaseRow.laid ((laidWorld os).forCall (fun _ _ => 0) ⟨#[], #[.string ByteArray.empty, .bool false, .int .i64 0], []⟩).memory :=
  laidMet_of_run' 8 (by kernel_rfl) (by kernel_rfl)
theorem httpCase_reads (os : Os) {H : Type} (enc : TypeId × Value → H) : ∃ places, DataW.whole enc Tryz.prog ((laidWorld os).forCall (fun _ _ => 0) ⟨#[], #[.string ByteArray.empty, .bool false, .int .i64 0], []⟩).memory Tryz.f5.params.toList Rows.httpCaseSpec.vars false (#[.string ByteArray.empty, .bool false, .int .i64 0] : Array Value).toList 8 = some ([.lit (.string []), .lit (.bool false), .lit (.int .i64 0)], [], places) :=
  ⟨[], by kernel_rfl⟩

set_option maxRecDepth 100000 in
theorem httpCase_lifted (os : Os) (started : os.Started) (H : Type) (enc : TypeId × Value → H) (F : Stop.Interp) :
    ReturnsInHanded {} Tryz.checked os 5 .any ((OpenSpec.ofChange Rows.httpCaseSpec).preRow enc Tryz.prog Tryz.f5 Rows.httpCaseRow.domain false Rows.httpCaseRow.laid) (((OpenSpec.ofChange Rows.httpCaseSpec).at F).post enc Tryz.prog Tryz.f5 false true false false) := by
  obtain ⟨places, hx⟩ := httpCase_reads os enc
  refine returnsInHanded_of_row (C := Tryz.checked) (s := OpenSpec.ofChange Rows.httpCaseSpec) ownK started (by kernel_rfl) Tryz.func5
    (witness_row_at (enc := enc) (C := Tryz.checked) false (laidWorld os) #[.string ByteArray.empty, .bool false, .int .i64 0] rfl (by kernel_rfl) (by kernel_rfl) (by kernel_rfl)
      (OpenSpec.preRow_of_cond 8 hx (by kernel_rfl) (fun k hk => by cases hk) (by kernel_rfl) (httpCase_met os))) ?_
  intro W base args ds gs before hval hW _ _ _ hL hsh _
  exact httpCase_contract H enc W base args ds gs before hval hW hL hsh

theorem httpCase_said : Rows.HttpCaseSaid :=
  OpenClaim.holds_of_cond 5 Tryz.f5 rfl rfl rfl rfl rfl rfl rfl ⟨rfl, rfl, rfl, rfl, rfl⟩ rfl rfl rfl rfl rfl (by kernel_rfl) Tryz.func5 (by kernel_rfl)
    (of_decide_eq_true (by kernel_rfl)) (by unfold Func.isWrapper; first | (rw [if_pos (by decide +kernel)]; kernel_rfl) | (rw [if_neg (by decide +kernel)]; exact ⟨rfl, rfl⟩))
    (fun os started H enc _ F => by rw [OpenClaim.pre_eq_preRow]; exact httpCase_lifted os started H enc F)

theorem httpCase_plain (f : FuncId) (fn : Func) (hf : Tryz.pinned.checked.prog.funcNamed "stowage/stowagelaw16.HttpCase" = some f) (hfn : Tryz.pinned.checked.prog.funcs[f]? = some fn) :
    true = Tryz.pinned.checked.prog.looks [] ∧ ∀ (j : Nat) t, fn.params[j]? = some t → Tryz.pinned.checked.prog.wantsStandIn t = false := by
  obtain rfl : f = 5 := Option.some.inj ((show Tryz.prog.funcNamed "stowage/stowagelaw16.HttpCase" = some 5 by kernel_rfl).symm.trans hf) |>.symm
  obtain rfl : fn = Tryz.f5 := (Option.some.inj (Tryz.func5.symm.trans hfn)).symm
  refine ⟨by kernel_rfl, fun j t ht => ?_⟩
  rw [Tryz.params5] at ht
  have hm : t = 9 ∨ t = 4 ∨ t = 3 := by simpa using Array.mem_of_getElem? ht
  rcases hm with rfl | rfl | rfl
  · exact (show Tryz.prog.wantsStandIn 9 = false by kernel_rfl)
  · exact (show Tryz.prog.wantsStandIn 4 = false by kernel_rfl)
  · exact (show Tryz.prog.wantsStandIn 3 = false by kernel_rfl)

theorem httpCase_card : Rows.HttpCaseCardSaid :=
  Claim7.holds_tied_plain_at .later [] _ _ _ _ httpCase_said (fun _ h => by cases h) (by kernel_rfl) (fun _ h => by cases h) httpCase_row_tie rfl ⟨rfl, rfl⟩ (by kernel_rfl) rfl httpCase_plain (by kernel_rfl)
#print axioms httpCase_card
end Go.Proofs.YtmodmeabjhaklabGreatDoor
