/- HttpChunks, its card, in full: a body that comes in chunks, whatever they hold, with digits of either case, with trailers or without, is the chunks put together; the tables and the two errors of the library read as the text of the program lays them (the tie is given). -/
import Derived.Test.YtmodmeabjhaklaaGreatDoorRunG
import Derived.Test.YtmodmeabjhaklaaGreatDoorLawChunks
import Derived.Test.YtmodmeabjhaklaaGreatDoorOpenS
namespace Go.Proofs.YtmodmeabjhaklaaGreatDoor
open Go.ChangeShapes Go.WideShapes Go.ChangeAt Go.RowKit
open Go.ChangeMaps (open_string shut_string)

theorem er_of7 {W : World} (h : laidMetH Tryz.prog Rows.httpChunksRow.laid W) : Er W := by
  have h1 : laidMet Tryz.prog Rows.httpChunksRow.laid W := h
  have h2 := laidMet.tail (laidMet.tail (laidMet.tail (laidMet.tail h1)))
  obtain ⟨a, s, hv, -⟩ := laid_sentinel (laidMet.tail h2) gErrS gErrSType Tryz.underlying95 row138 Tryz.underlying138 Tryz.underlying140 rfl rfl Tryz.underlying9 cells140 cells9
  obtain ⟨a', s', hv', -⟩ := laid_sentinel h2 gErrR gErrRType Tryz.underlying95 row138 Tryz.underlying138 Tryz.underlying140 rfl rfl Tryz.underlying9 cells140 cells9
  exact ⟨⟨_, World.var?_cell gErrS hv 0, .inr ⟨_, _, rfl⟩⟩, ⟨_, World.var?_cell gErrR hv' 0, .inr ⟨_, _, rfl⟩⟩⟩
set_option maxRecDepth 20000 in
theorem httpChunks_contract (H : Type) (enc : TypeId × Value → H) (W : World) (base : Nat) (args : Array Value) (ds gs : List (DataW H)) (before : List MemPlace)
    (hval : ∀ (j : Nat) t v, Tryz.f7.params[j]? = some t → args[j]? = some v → Value.okWide Tryz.prog W .any base t v)
    (hW : DataW.Whole enc Tryz.prog Tryz.f7.params.toList Rows.httpChunksSpec.vars false W args.toList ds gs before)
    (hL : laidMetH Tryz.prog Rows.httpChunksRow.laid W) (hsh : W.ShapedOpen Tryz.prog) :
    Calls Tryz.prog 7 args W fun e W' => ∃ v, e = .returned v ∧ Rows.httpChunksSpec.post enc Tryz.prog Tryz.f7 false true false false W args v W' := by
  have hW' := hW
  obtain ⟨p, q, hA0, hV, rfl, hfz, hnd⟩ := hW
  have hA : DataW.TrodAll enc Tryz.prog W 0 (fun _ => true) true Tryz.f7.params.toList args.toList ds p := hA0
  rw [Tryz.params7] at hA hval
  obtain ⟨v0, vs0, d0, ds0, p0, q0, hargs, rfl, rfl, h0, r0⟩ := trodAll_cons hA
  obtain ⟨v1, vs1, d1, ds1, p1, q1, rfl, rfl, rfl, h1, r1⟩ := trodAll_cons r0
  obtain ⟨v2, vs2, d2, ds2, p2, q2, rfl, rfl, rfl, h2, r2⟩ := trodAll_cons r1
  obtain ⟨rfl, rfl, rfl⟩ := trodAll_nil r2
  obtain rfl : args = #[v0, v1, v2] := by cases args; simp_all
  obtain ⟨rfl, rfl⟩ := trodVars_none hV
  have k0 := h0
  have lt0 : ∀ x ∈ p0, x.block < W.heap.size := by obtain ⟨m, hm⟩ := k0; exact DataW.trod_lt m _ _ _ hm
  obtain ⟨a0, l0, c0, rfl, hS0⟩ := open_slices (hval 0 49 v0 rfl rfl) h0
  obtain ⟨b1, rfl, rfl, rfl⟩ := open_bool Tryz.underlying4 (hval 1 4 v1 rfl rfl) h1
  obtain ⟨b2, rfl, rfl, rfl⟩ := open_bool Tryz.underlying4 (hval 2 4 v2 rfl rfl) h2
  clear hA0
  have key := httpChunks_walk a0 l0 c0 b1 b2 W hS0 (mx_of hsh) (er_of7 hL)
  refine key.mono fun e W' ⟨he, bel⟩ => ?_
  subst he
  exact ⟨_, rfl, _, _, _, [], _, [], hW', trodAll_mk1 (shut_bool Tryz.underlying4 _), (trodAll_cons_mk (Below.trod laidOut (by kernel_rfl) (of_decide_eq_true (by kernel_rfl)) k0 bel lt0) (trodAll_cons_mk (shut_bool Tryz.underlying4 _) (trodAll_cons_mk (shut_bool Tryz.underlying4 _) trodAll_mk0))), rfl, bel.frame _, fun h => by cases h⟩
theorem httpChunks_met (os : Os) : laidMet Tryz.prog Rows.httpChunksRow.laid ((laidWorld os).forCall (fun _ _ => 0) ⟨#[], #[.slice none 0 0, .bool false, .bool false], []⟩).memory :=
  laidMet_of_run' 8 (by kernel_rfl) (by kernel_rfl)
theorem httpChunks_reads (os : Os) {H : Type} (enc : TypeId × Value → H) : ∃ places, DataW.whole enc Tryz.prog ((laidWorld os).forCall (fun _ _ => 0) ⟨#[], #[.slice none 0 0, .bool false, .bool false], []⟩).memory Tryz.f7.params.toList Rows.httpChunksSpec.vars false (#[.slice none 0 0, .bool false, .bool false] : Array Value).toList 8 = some ([.nil, .lit (.bool false), .lit (.bool false)], [], places) :=
  ⟨[], by kernel_rfl⟩

set_option maxRecDepth 100000 in
theorem httpChunks_lifted (os : Os) (started : os.Started) (H : Type) (enc : TypeId × Value → H) (F : Stop.Interp) :
    ReturnsInHanded {} Tryz.checked os 7 .any ((OpenSpec.ofChange Rows.httpChunksSpec).preRow enc Tryz.prog Tryz.f7 Rows.httpChunksRow.domain false Rows.httpChunksRow.laid) (((OpenSpec.ofChange Rows.httpChunksSpec).at F).post enc Tryz.prog Tryz.f7 false true false false) := by
  obtain ⟨places, hx⟩ := httpChunks_reads os enc
  refine returnsInHanded_of_row (C := Tryz.checked) (s := OpenSpec.ofChange Rows.httpChunksSpec) ownK started (by kernel_rfl) Tryz.func7
    (witness_row_at (enc := enc) (C := Tryz.checked) false (laidWorld os) #[.slice none 0 0, .bool false, .bool false] rfl (by kernel_rfl) (by kernel_rfl) (by kernel_rfl)
      (OpenSpec.preRow_of_cond 8 hx (by kernel_rfl) (fun k hk => by cases hk) (by kernel_rfl) (httpChunks_met os))) ?_
  intro W base args ds gs before hval hW _ _ _ hL hsh _
  exact httpChunks_contract H enc W base args ds gs before hval hW hL hsh

theorem httpChunks_said : Rows.HttpChunksSaid :=
  OpenClaim.holds_of_cond 7 Tryz.f7 rfl rfl rfl rfl rfl rfl rfl ⟨rfl, rfl, rfl, rfl, rfl⟩ rfl rfl rfl rfl rfl (by kernel_rfl) Tryz.func7 (by kernel_rfl)
    (of_decide_eq_true (by kernel_rfl)) (by unfold Func.isWrapper; first | (rw [if_pos (by decide +kernel)]; kernel_rfl) | (rw [if_neg (by decide +kernel)]; exact ⟨rfl, rfl⟩))
    (fun os started H enc _ F => by rw [OpenClaim.pre_eq_preRow]; exact httpChunks_lifted os started H enc F)

theorem httpChunks_plain (f : FuncId) (fn : Func) (hf : Tryz.pinned.checked.prog.funcNamed "stowage/stowagelaw16.HttpChunks" = some f) (hfn : Tryz.pinned.checked.prog.funcs[f]? = some fn) :
    true = Tryz.pinned.checked.prog.looks [] ∧ ∀ (j : Nat) t, fn.params[j]? = some t → Tryz.pinned.checked.prog.wantsStandIn t = false := by
  obtain rfl : f = 7 := Option.some.inj ((show Tryz.prog.funcNamed "stowage/stowagelaw16.HttpChunks" = some 7 by kernel_rfl).symm.trans hf) |>.symm
  obtain rfl : fn = Tryz.f7 := (Option.some.inj (Tryz.func7.symm.trans hfn)).symm
  refine ⟨by kernel_rfl, fun j t ht => ?_⟩
  rw [Tryz.params7] at ht
  have hm : t = 49 ∨ t = 4 ∨ t = 4 := by simpa using Array.mem_of_getElem? ht
  rcases hm with rfl | rfl | rfl
  · exact (show Tryz.prog.wantsStandIn 49 = false by kernel_rfl)
  · exact (show Tryz.prog.wantsStandIn 4 = false by kernel_rfl)
  · exact (show Tryz.prog.wantsStandIn 4 = false by kernel_rfl)

theorem httpChunks_card : Rows.HttpChunksCardSaid :=
  Claim7.holds_tied_plain_at .later [] _ _ _ _ httpChunks_said (fun _ h => by cases h) (by kernel_rfl) (fun _ h => by cases h) httpChunks_row_tie rfl ⟨rfl, rfl⟩ (by kernel_rfl) rfl httpChunks_plain (by kernel_rfl)
#print axioms httpChunks_card
end Go.Proofs.YtmodmeabjhaklaaGreatDoor
