/- HttpPipes, its card, with a bound on sizes: whatever requests are printed one behind the other, they are read one by one, each as if it came alone; all that comes in is at most 1048576 great together; the tables and the two errors of the library read as the text of the program lays them (the tie is given). -/
import Derived.Test.YtmodmeabjhaklabGreatDoorPfLent
import Derived.Test.YtmodmeabjhaklabGreatDoorLawPipes
import Derived.Test.YtmodmeabjhaklabGreatDoorOpenL
namespace Go.Proofs.YtmodmeabjhaklabGreatDoor
open Go.ChangeShapes Go.WideShapes Go.ChangeAt Go.RowKit
open Go.ChangeMaps (open_string shut_string)

theorem er_of4 {W : World} (h : laidMetH Tryz.prog Rows.httpPipesUptoRow.laid W) : Er W := by
  have h1 : laidMet Tryz.prog Rows.httpPipesUptoRow.laid W := h
  have h2 := laidMet.tail (laidMet.tail (laidMet.tail (laidMet.tail h1)))
  obtain ⟨a, s, hv, -⟩ := laid_sentinel (laidMet.tail h2) gErrS gErrSType Tryz.underlying89 row134 Tryz.underlying134 Tryz.underlying136 rfl rfl Tryz.underlying9 cells136 cells9
  obtain ⟨a', s', hv', -⟩ := laid_sentinel h2 gErrR gErrRType Tryz.underlying89 row134 Tryz.underlying134 Tryz.underlying136 rfl rfl Tryz.underlying9 cells136 cells9
  exact ⟨⟨_, World.var?_cell gErrS hv 0, .inr ⟨_, _, rfl⟩⟩, ⟨_, World.var?_cell gErrR hv' 0, .inr ⟨_, _, rfl⟩⟩⟩
set_option maxRecDepth 20000 in
theorem httpPipes_contract (H : Type) (enc : TypeId × Value → H) (W : World) (base : Nat) (args : Array Value) (ds gs : List (DataW H)) (before : List MemPlace)
    (hval : ∀ (j : Nat) t v, Tryz.f4.params[j]? = some t → args[j]? = some v → Value.okWide Tryz.prog W .any base t v)
    (hW : DataW.Whole enc Tryz.prog Tryz.f4.params.toList Rows.httpPipesSpec.vars false W args.toList ds gs before)
    (hk : Rows.uptoSmall H (ds ++ gs) = true) (hL : laidMetH Tryz.prog Rows.httpPipesUptoRow.laid W) (hsh : W.ShapedOpen Tryz.prog) :
    Calls Tryz.prog 4 args W fun e W' => ∃ v, e = .returned v ∧ Rows.httpPipesSpec.post enc Tryz.prog Tryz.f4 false true false false W args v W' := by
  have hW' := hW
  obtain ⟨p, q, hA0, hV, rfl, hfz, hnd⟩ := hW
  have hA : DataW.TrodAll enc Tryz.prog W 0 (fun _ => true) true Tryz.f4.params.toList args.toList ds p := hA0
  rw [Tryz.params4] at hA hval
  obtain ⟨v0, vs0, d0, ds0, p0, q0, hargs, rfl, rfl, h0, r0⟩ := trodAll_cons hA
  obtain ⟨rfl, rfl, rfl⟩ := trodAll_nil r0
  obtain rfl : args = #[v0] := by cases args; simp_all
  obtain ⟨rfl, rfl⟩ := trodVars_none hV
  have hbulk : Rows.uptoBulk d0 + 0 ≤ 1048576 := by
    have h : Rows.uptoBulkAll ([d0] ++ []) ≤ 1048576 := of_decide_eq_true hk
    simpa only [List.append_nil, Rows.uptoBulkAll] using h
  have k0 := h0
  have lt0 : ∀ x ∈ p0, x.block < W.heap.size := by obtain ⟨m, hm⟩ := k0; exact DataW.trod_lt m _ _ _ hm
  obtain ⟨a0, l0, c0, rfl, hR0, hP0⟩ := open_reqs (hval 0 38 v0 rfl rfl) h0
  try simp only [Rows.uptoBulk] at hbulk
  clear hA0
  have key := httpPipes_walk a0 l0 c0 W hR0 (fun q hq => ⟨by have := (hP0 q hq).1; omega, by have := (hP0 q hq).2; omega⟩) (mx_of hsh) (er_of4 hL)
  refine key.mono fun e W' ⟨he, bel⟩ => ?_
  subst he
  exact ⟨_, rfl, _, _, _, [], _, [], hW', trodAll_mk1 (shut_bool Tryz.underlying4 _), (trodAll_cons_mk (Below.trod laidOut (by kernel_rfl) (of_decide_eq_true (by kernel_rfl)) k0 bel lt0) trodAll_mk0), rfl, bel.frame _, fun h => by cases h⟩
theorem httpPipes_met (os : Os) : laidMet Tryz.prog Rows.httpPipesUptoRow.laid ((laidWorld os).forCall (fun _ _ => 0) ⟨#[], #[.slice none 0 0], []⟩).memory :=
  laidMet_of_run' 8 (by kernel_rfl) (by kernel_rfl)
theorem httpPipes_reads (os : Os) {H : Type} (enc : TypeId × Value → H) : ∃ places, DataW.whole enc Tryz.prog ((laidWorld os).forCall (fun _ _ => 0) ⟨#[], #[.slice none 0 0], []⟩).memory Tryz.f4.params.toList Rows.httpPipesSpec.vars false (#[.slice none 0 0] : Array Value).toList 8 = some ([.nil], [], places) :=
  ⟨[], by kernel_rfl⟩

set_option maxRecDepth 100000 in
theorem httpPipes_lifted (os : Os) (started : os.Started) (H : Type) (enc : TypeId × Value → H) (F : Stop.Interp) :
    ReturnsInHanded {} Tryz.checked os 4 .any ((Rows.OpenSpec.upto Rows.httpPipesSpec).preRow enc Tryz.prog Tryz.f4 Rows.httpPipesUptoRow.domain false Rows.httpPipesUptoRow.laid) (((Rows.OpenSpec.upto Rows.httpPipesSpec).at F).post enc Tryz.prog Tryz.f4 false true false false) := by
  obtain ⟨places, hx⟩ := httpPipes_reads os enc
  refine returnsInHanded_of_row (C := Tryz.checked) (s := Rows.OpenSpec.upto Rows.httpPipesSpec) ownK started (by kernel_rfl) Tryz.func4
    (witness_row_at (enc := enc) (C := Tryz.checked) false (laidWorld os) #[.slice none 0 0] rfl (by kernel_rfl) (by kernel_rfl) (by kernel_rfl)
      (OpenSpec.preRow_of_cond 8 hx (by kernel_rfl) (fun k hk => by cases hk; kernel_rfl) (by kernel_rfl) (httpPipes_met os))) ?_
  intro W base args ds gs before hval hW _ hcond _ hL hsh _
  exact httpPipes_contract H enc W base args ds gs before hval hW (hcond _ rfl) hL hsh

theorem httpPipes_said : Rows.HttpPipesUptoSaid :=
  OpenClaim.holds_of_cond 4 Tryz.f4 rfl rfl rfl rfl rfl rfl rfl ⟨rfl, rfl, rfl, rfl, rfl⟩ rfl rfl rfl rfl rfl (by kernel_rfl) Tryz.func4 (by kernel_rfl)
    (of_decide_eq_true (by kernel_rfl)) (by unfold Func.isWrapper; first | (rw [if_pos (by decide +kernel)]; kernel_rfl) | (rw [if_neg (by decide +kernel)]; exact ⟨rfl, rfl⟩))
    (fun os started H enc _ F => by rw [OpenClaim.pre_eq_preRow]; exact httpPipes_lifted os started H enc F)

theorem httpPipes_plain (f : FuncId) (fn : Func) (hf : Tryz.pinned.checked.prog.funcNamed "stowage/stowagelaw16.HttpPipes" = some f) (hfn : Tryz.pinned.checked.prog.funcs[f]? = some fn) :
    true = Tryz.pinned.checked.prog.looks [] ∧ ∀ (j : Nat) t, fn.params[j]? = some t → Tryz.pinned.checked.prog.wantsStandIn t = false := by
  obtain rfl : f = 4 := Option.some.inj ((show Tryz.prog.funcNamed "stowage/stowagelaw16.HttpPipes" = some 4 by kernel_rfl).symm.trans hf) |>.symm
  obtain rfl : fn = Tryz.f4 := (Option.some.inj (Tryz.func4.symm.trans hfn)).symm
  refine ⟨by kernel_rfl, fun j t ht => ?_⟩
  rw [Tryz.params4] at ht
  have hm : t = 38 := by simpa using Array.mem_of_getElem? ht
  subst hm
  exact (show Tryz.prog.wantsStandIn 38 = false by kernel_rfl)

theorem httpPipes_card : Rows.HttpPipesUptoCardSaid :=
  Claim7.holds_tied_plain_at .later [] _ _ _ _ httpPipes_said (fun _ h => by cases h) (by kernel_rfl) (fun _ h => by cases h) httpPipesUpto_row_tie rfl ⟨rfl, rfl⟩ (by kernel_rfl) rfl httpPipes_plain (by kernel_rfl)
#print axioms httpPipes_card
end Go.Proofs.YtmodmeabjhaklabGreatDoor
