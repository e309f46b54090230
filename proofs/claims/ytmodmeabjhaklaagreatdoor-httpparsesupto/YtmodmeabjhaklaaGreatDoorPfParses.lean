/- HttpParses, its card, where what comes in is of bulk at most 1048576: http.Parse tells of any bytes what the reader of the document tells: a request, the beginning of one, or the same fault; the tables and the two errors of the library read as the text of the program lays them (the tie is given). -/
import Derived.Test.YtmodmeabjhaklaaGreatDoorRunG
import Derived.Test.YtmodmeabjhaklaaGreatDoorLawParses
namespace Go.Proofs.YtmodmeabjhaklaaGreatDoor
open Go.ChangeShapes Go.WideShapes Go.ChangeAt Go.RowKit
open Go.ChangeMaps (open_string shut_string)

theorem er_of3 {W : World} (h : laidMetH Tryz.prog Rows.httpParsesUptoRow.laid W) : Er W := by
  have h1 : laidMet Tryz.prog Rows.httpParsesUptoRow.laid W := h
  have h2 := laidMet.tail (laidMet.tail (laidMet.tail (laidMet.tail h1)))
  obtain ⟨a, s, hv, -⟩ := laid_sentinel (laidMet.tail h2) gErrS gErrSType Tryz.underlying95 row138 Tryz.underlying138 Tryz.underlying140 rfl rfl Tryz.underlying9 cells140 cells9
  obtain ⟨a', s', hv', -⟩ := laid_sentinel h2 gErrR gErrRType Tryz.underlying95 row138 Tryz.underlying138 Tryz.underlying140 rfl rfl Tryz.underlying9 cells140 cells9
  exact ⟨⟨_, World.var?_cell gErrS hv 0, .inr ⟨_, _, rfl⟩⟩, ⟨_, World.var?_cell gErrR hv' 0, .inr ⟨_, _, rfl⟩⟩⟩
set_option maxRecDepth 20000 in
theorem httpParses_contract (H : Type) (enc : TypeId × Value → H) (W : World) (base : Nat) (args : Array Value) (ds gs : List (DataW H)) (before : List MemPlace)
    (hval : ∀ (j : Nat) t v, Tryz.f3.params[j]? = some t → args[j]? = some v → Value.okWide Tryz.prog W .any base t v)
    (hW : DataW.Whole enc Tryz.prog Tryz.f3.params.toList Rows.httpParsesSpec.vars false W args.toList ds gs before)
    (hk : Rows.uptoSmall H (ds ++ gs) = true) (hL : laidMetH Tryz.prog Rows.httpParsesUptoRow.laid W) (hsh : W.ShapedOpen Tryz.prog) :
    Calls Tryz.prog 3 args W fun e W' => ∃ v, e = .returned v ∧ Rows.httpParsesSpec.post enc Tryz.prog Tryz.f3 false true false false W args v W' := by
  have hW' := hW
  obtain ⟨p, q, hA0, hV, rfl, hfz, hnd⟩ := hW
  have hA : DataW.TrodAll enc Tryz.prog W 0 (fun _ => true) true Tryz.f3.params.toList args.toList ds p := hA0
  rw [Tryz.params3] at hA hval
  obtain ⟨v0, vs0, d0, ds0, p0, q0, hargs, rfl, rfl, h0, r0⟩ := trodAll_cons hA
  obtain ⟨rfl, rfl, rfl⟩ := trodAll_nil r0
  obtain rfl : args = #[v0] := by cases args; simp_all
  obtain ⟨rfl, rfl⟩ := trodVars_none hV
  have hbulk : Rows.uptoBulk d0 + 0 ≤ 1048576 := by
    have h : Rows.uptoBulkAll ([d0] ++ []) ≤ 1048576 := of_decide_eq_true hk
    simpa only [List.append_nil, Rows.uptoBulkAll] using h
  have k0 := h0
  have lt0 : ∀ x ∈ p0, x.block < W.heap.size := by obtain ⟨m, hm⟩ := k0; exact DataW.trod_lt m _ _ _ hm
  obtain ⟨a0, l0, c0, rfl, hc0, hB0, hab0, han0, hu0⟩ := open_bytes (hval 0 22 v0 rfl rfl) h0
  try simp only [Rows.uptoBulk] at hbulk
  clear hA0
  have key := httpParses_walk a0 l0 c0 W hc0 hB0 hab0 han0 (by omega) (mx_of hsh) (er_of3 hL)
  refine key.mono fun e W' ⟨he, bel⟩ => ?_
  subst he
  exact ⟨_, rfl, _, _, _, [], _, [], hW', trodAll_mk1 (shut_bool Tryz.underlying4 _), (trodAll_cons_mk (Below.trod laidOut (by kernel_rfl) (of_decide_eq_true (by kernel_rfl)) k0 bel lt0) trodAll_mk0), rfl, bel.frame _, fun h => by cases h⟩
theorem httpParses_met (os : Os) : laidMet Tryz.prog Rows.httpParsesUptoRow.laid ((laidWorld os).forCall (fun _ _ => 0) ⟨#[], #[.slice none 0 0], []⟩).memory :=
  laidMet_of_run' 8 (by kernel_rfl) (by kernel_rfl)
theorem httpParses_reads (os : Os) {H : Type} (enc : TypeId × Value → H) : ∃ places, DataW.whole enc Tryz.prog ((laidWorld os).forCall (fun _ _ => 0) ⟨#[], #[.slice none 0 0], []⟩).memory Tryz.f3.params.toList Rows.httpParsesSpec.vars false (#[.slice none 0 0] : Array Value).toList 8 = some ([.nil], [], places) :=
  ⟨[], by kernel_rfl⟩

set_option maxRecDepth 100000 in
theorem httpParses_lifted (os : Os) (started : os.Started) (H : Type) (enc : TypeId × Value → H) (F : Stop.Interp) :
    ReturnsInHanded {} Tryz.checked os 3 .any ((Rows.OpenSpec.upto Rows.httpParsesSpec).preRow enc Tryz.prog Tryz.f3 Rows.httpParsesUptoRow.domain false Rows.httpParsesUptoRow.laid) (((Rows.OpenSpec.upto Rows.httpParsesSpec).at F).post enc Tryz.prog Tryz.f3 false true false false) := by
  obtain ⟨places, hx⟩ := httpParses_reads os enc
  refine returnsInHanded_of_row (C := Tryz.checked) (s := Rows.OpenSpec.upto Rows.httpParsesSpec) ownK started (by kernel_rfl) Tryz.func3
    (witness_row_at (enc := enc) (C := Tryz.checked) false (laidWorld os) #[.slice none 0 0] rfl (by kernel_rfl) (by kernel_rfl) (by kernel_rfl)
      (OpenSpec.preRow_of_cond 8 hx (by kernel_rfl) (fun k hk => by cases hk; kernel_rfl) (by kernel_rfl) (httpParses_met os))) ?_
  intro W base args ds gs before hval hW _ hcond _ hL hsh _
  exact httpParses_contract H enc W base args ds gs before hval hW (hcond _ rfl) hL hsh

theorem httpParses_said : Rows.HttpParsesUptoSaid :=
  OpenClaim.holds_of_cond 3 Tryz.f3 rfl rfl rfl rfl rfl rfl rfl ⟨rfl, rfl, rfl, rfl, rfl⟩ rfl rfl rfl rfl rfl (by kernel_rfl) Tryz.func3 (by kernel_rfl)
    (of_decide_eq_true (by kernel_rfl)) (by unfold Func.isWrapper; first | (rw [if_pos (by decide +kernel)]; kernel_rfl) | (rw [if_neg (by decide +kernel)]; exact ⟨rfl, rfl⟩))
    (fun os started H enc _ F => by rw [OpenClaim.pre_eq_preRow]; exact httpParses_lifted os started H enc F)

theorem httpParses_plain (f : FuncId) (fn : Func) (hf : Tryz.pinned.checked.prog.funcNamed "stowage/stowagelaw16.HttpParses" = some f) (hfn : Tryz.pinned.checked.prog.funcs[f]? = some fn) :
    true = Tryz.pinned.checked.prog.looks [] ∧ ∀ (j : Nat) t, fn.params[j]? = some t → Tryz.pinned.checked.prog.wantsStandIn t = false := by
  obtain rfl : f = 3 := Option.some.inj ((show Tryz.prog.funcNamed "stowage/stowagelaw16.HttpParses" = some 3 by kernel_rfl).symm.trans hf) |>.symm
  obtain rfl : fn = Tryz.f3 := (Option.some.inj (Tryz.func3.symm.trans hfn)).symm
  refine ⟨by kernel_rfl, fun j t ht => ?_⟩
  rw [Tryz.params3] at ht
  have hm : t = 22 := by simpa using Array.mem_of_getElem? ht
  subst hm
  exact (show Tryz.prog.wantsStandIn 22 = false by kernel_rfl)

theorem httpParses_card : Rows.HttpParsesUptoCardSaid :=
  Claim7.holds_tied_plain_at .later [] _ _ _ _ httpParses_said (fun _ h => by cases h) (by kernel_rfl) (fun _ h => by cases h) httpParsesUpto_row_tie rfl ⟨rfl, rfl⟩ (by kernel_rfl) rfl httpParses_plain (by kernel_rfl)
#print axioms httpParses_card
end Go.Proofs.YtmodmeabjhaklaaGreatDoor
