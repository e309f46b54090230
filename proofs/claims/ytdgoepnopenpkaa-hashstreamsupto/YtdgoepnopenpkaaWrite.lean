/-
  (*Stream).Write by its contract.
-/
import Derived.Test.YtdgoepnopenpkaaStream
import Derived.Deep.RegionHeld3
namespace Go.Proofs.Ytdgoepnopenpkaa
open Go.RowKit

theorem bcs_take (r : List UInt8) (n : Nat) : bcs (r.take n) = (bcs r).take n := by simp [bcs, List.map_take]
/-- 'copy' into a block that is known whole, as a step of a region that draws. -/
theorem step_copy_in {ops : Array Oper} {o : Oper} {ac : Act} {w : World} {K : Act → World → Prop} {Q : Exit → Act → World → Prop} {E : Prop} (hgd : o.guard = none) (d s : Operand)
    (ho : o.op = .call { callee := .builtin .copy, args := #[d, s], argTypes := #[22, 22] }) (g off dLen dCap : Nat) (hd : ac.eval d = .slice (some ⟨g, off, none⟩) dLen dCap)
    (a : Option Addr) (r : List UInt8) (sLen cap : Nat) (hsl : r.length = sLen) (hs : ac.eval s = .slice a sLen cap) (hb : Bytes w a r) (cur : List Value) (t : TypeId) (hg : w.heap[g]? = some (.cells cur.toArray t (0, 0))) (hfit : off + (r.take dLen).length ≤ cur.length)
    (h : ∀ w', Hid (w'.heap[g]? = some (.cells (splice cur off (bcs (r.take dLen))).toArray t (0, 0))) → w.grownBy w' (some g) → K (ac.put o.dst (goInt (r.take dLen).length)) w') :
    if Region.wanted o (yielded ops ac.tmps) = true then Oper.wp Try.prog o ac w K Q else E := by
  subst hsl
  have hw : Region.wanted o (yielded ops ac.tmps) = true := by simp [Region.wanted, hgd]
  rw [if_pos hw]
  have hn : (bcs (r.take dLen)).length = Nat.min r.length dLen := by rw [bcs_length, List.length_take]; exact Nat.min_comm _ _
  by_cases h0 : (bcs (r.take dLen)).length = 0
  · have hrun := run_copy_none (P := Try.prog) w 22 22 o.type 5 (some ⟨g, off, none⟩) a dLen dCap r.length cap Try.underlying22 size5 (by rw [← hn]; exact h0)
    have e0 : (r.take dLen).length = 0 := by rw [bcs_length] at h0; exact h0
    have e1 : r.take dLen = [] := List.eq_nil_of_length_eq_zero e0
    unfold Oper.wp
    simp only [execOp, ho, resolve, invoke, builtin]
    have := h w (show _ = _ by rw [e1]; simpa [splice, bcs] using hg) (grown_refl _ _)
    rw [e1] at this
    simp [hd, hs, hrun, Result.andThen]
    exact this
  · have hl : 0 < r.length := by rw [bcs_length, List.length_take] at h0; omega
    obtain ⟨ad, rfl, hsrc⟩ := bytes_src hb hl
    have hsrc' : ∀ j v, (bcs (r.take dLen))[j]? = some v → w.cell? (ad.add j) = some v := by
      intro j v hv
      refine hsrc j v ?_
      rw [bcs_take, List.getElem?_take] at hv
      split at hv
      · exact hv
      · simp at hv
    have hrun := run_copy_row (P := Try.prog) w 22 22 o.type 5 g off dLen dCap ad r.length cap cur.toArray t (bcs (r.take dLen)) Try.underlying22 size5 hg hn hsrc' (by rw [bcs_length]; simpa using hfit) (bcs_one _)
    unfold Oper.wp
    have := h (w.setRow g (splice cur off (bcs (r.take dLen))).toArray) (setRow_heap w g _ _ t _ hg) ⟨rfl, rfl, rfl, by simp, fun k hk hne => setRow_other w g k _ (by intro e; subst e; exact hne rfl)⟩
    rw [← bcs_length (r.take dLen)] at this
    simp [execOp, ho, resolve, invoke, builtin, hd, hs, hrun, Result.andThen]
    exact this
theorem wpList_copy_in {ops : Array Oper} {rs : List Oper} {o : Oper} {ac : Act} {w : World} {Q : Exit → Act → World → Prop} (hgd : o.guard = none) (d s : Operand)
    (ho : o.op = .call { callee := .builtin .copy, args := #[d, s], argTypes := #[22, 22] }) (g off dLen dCap : Nat) (hd : ac.eval d = .slice (some ⟨g, off, none⟩) dLen dCap)
    (a : Option Addr) (r : List UInt8) (sLen cap : Nat) (hsl : r.length = sLen) (hs : ac.eval s = .slice a sLen cap) (hb : Bytes w a r) (cur : List Value) (t : TypeId) (hg : w.heap[g]? = some (.cells cur.toArray t (0, 0))) (hfit : off + (r.take dLen).length ≤ cur.length)
    (h : ∀ w', Hid (w'.heap[g]? = some (.cells (splice cur off (bcs (r.take dLen))).toArray t (0, 0))) → w.grownBy w' (some g) → wpList Try.prog ops Q rs (ac.put o.dst (goInt (r.take dLen).length)) w') :
    wpList Try.prog ops Q (o :: rs) ac w := by
  refine wpList_plain hgd fun K hK => ?_
  have := step_copy_in (ops := ops) (K := K) (Q := Q) (E := False) hgd d s ho g off dLen dCap hd a r sLen cap hsl hs hb cur t hg hfit (fun w' h1 h2 => hK _ _ (h w' h1 h2))
  have hw : Region.wanted o (yielded ops ac.tmps) = true := by simp [Region.wanted, hgd]
  rw [if_pos hw] at this
  exact this

/-- All but two blocks is as it was. -/
structure Kept2 (g k : Nat) (w w' : World) : Prop where
  os : w'.os = w.os
  tape : w'.tape = w.tape
  output : w'.output = w.output
  size : w.heap.size ≤ w'.heap.size
  block : ∀ i, i < w.heap.size → i ≠ g → i ≠ k → w'.heap[i]? = w.heap[i]?
theorem Kept2.trans {g k : Nat} {a b c : World} (h : Kept2 g k a b) (h' : Kept2 g k b c) : Kept2 g k a c :=
  ⟨h'.os.trans h.os, h'.tape.trans h.tape, h'.output.trans h.output, Nat.le_trans h.size h'.size, fun i hi h1 h2 => (h'.block i (Nat.lt_of_lt_of_le hi h.size) h1 h2).trans (h.block i hi h1 h2)⟩
theorem Kept2.of1 {g k : Nat} {a b : World} (h : a.grownBy b (some g)) : Kept2 g k a b := ⟨h.os, h.tape, h.output, h.size, fun i hi h1 _ => h.block i hi (by simpa using h1)⟩
theorem Kept2.of2 {g k : Nat} {a b : World} (h : a.grownBy b (some k)) : Kept2 g k a b := ⟨h.os, h.tape, h.output, h.size, fun i hi _ h2 => h.block i hi (by simpa using h2)⟩
theorem Kept2.below {g k B : Nat} {a b : World} (h : Kept2 g k a b) (hB : B ≤ a.heap.size) (hg : B ≤ g) (hk : B ≤ k) : Below B a b := ⟨h.os, h.tape, h.output, h.size, fun i hi => h.block i (by omega) (by omega) (by omega)⟩

theorem Bytes.same {w w' : World} {a : Option Addr} {l : List UInt8} (h : Bytes w a l) (e : w'.heap = w.heap) : Bytes w' a l := by
  rcases h with rfl | ⟨b, off, rfl, hb, hc⟩
  · exact .inl rfl
  · refine .inr ⟨b, off, rfl, by rw [e]; exact hb, fun j hj => ?_⟩
    rw [World.cell?_of_block (w := w) (by rw [e])]
    exact hc j hj
theorem Strm.frozen {w : World} {g : Nat} {kv : Value} {R : List UInt8} {n : Nat} (h : Strm w g kv R n) (k : Nat) : w.frozen? ⟨g, k, none⟩ = false := by
  unfold Strm at h
  simp [World.frozen?, h]
theorem Strm.resize {w : World} {g : Nat} {kv : Value} {R : List UInt8} {n : Nat} (h : Strm w g kv R n) (hR : R.length = 64) (m : Nat) : Strm (w.setCell ⟨g, 65, none⟩ (.int .i64 (m : Int))) g kv R m := by
  unfold Strm
  rw [setCell_eq_setRow w g 65 _ 60 (0, 0) _ h, setRow_heap w g _ _ 60 (0, 0) h]
  congr 2
  apply Array.ext'
  simp only [strCells, List.setIfInBounds_toArray]
  rw [show (65 : Nat) = 64 + 1 from rfl, List.set_cons_succ, List.set_append_right _ _ (by rw [bcs_length, hR]; exact Nat.le_refl _)]
  simp [bcs_length, hR]
theorem Strm.other {w w' : World} {g : Nat} {kv : Value} {R : List UInt8} {n : Nat} (h : Strm w g kv R n) (e : w'.heap[g]? = w.heap[g]?) : Strm w' g kv R n := e.trans h
theorem Strm.lt {w : World} {g : Nat} {kv : Value} {R : List UInt8} {n : Nat} (h : Strm w g kv R n) : g < w.heap.size := (Array.getElem?_eq_some_iff.1 h).1
theorem splice_str (kv : Value) (R : List UInt8) (n off : Nat) (x : List UInt8) (hR : R.length = 64) (h : off + x.length ≤ 64) :
    splice (kv :: (bcs R ++ [.int .i64 (n : Int)])) (1 + off) (bcs x) = kv :: (bcs (splice R off x) ++ [.int .i64 (n : Int)]) := by
  simp only [splice, bcs_length, Nat.add_comm 1 off, List.take_succ_cons]
  rw [show off + 1 + x.length = (off + x.length) + 1 from by omega, List.drop_succ_cons]
  rw [List.take_append_of_le_length (by rw [bcs_length]; omega), List.drop_append_of_le_length (by rw [bcs_length]; omega)]
  simp [bcs, List.map_take, List.map_drop]
theorem kind_spliced {w : World} {g : Nat} {kv : Value} {r x : List Value} {off : Nat} (h : w.heap[g]? = some (.cells (splice (kv :: r) (1 + off) x).toArray 60 (0, 0))) : w.cell? ⟨g, 0, none⟩ = some kv := by
  rw [cell_of_row w g 0 _ 60 (0, 0) h]
  simp [splice, Nat.add_comm 1 off]
theorem Strm.bytes {w : World} {g : Nat} {kv : Value} {R : List UInt8} {n : Nat} (h : Strm w g kv R n) (hR : R.length = 64) (x : List UInt8) (hx : R.take x.length = x) : Bytes w (some ⟨g, 1, none⟩) x := by
  have hlen : x.length ≤ 64 := by have := congrArg List.length hx; rw [List.length_take] at this; omega
  refine .inr ⟨g, 1, rfl, h.lt, fun j hj => ?_⟩
  rw [cell_of_row w g (1 + j) _ 60 (0, 0) h]
  unfold strCells
  rw [List.getElem?_toArray, Nat.add_comm 1 j, List.getElem?_cons_succ, List.getElem?_append_left (by rw [bcs_length]; omega), bcs_get (by omega)]
  have e : x[j] = R[j] := by
    have e1 : (R.take x.length)[j]? = x[j]? := by rw [hx]
    rw [List.getElem?_take_of_lt hj, List.getElem?_eq_getElem hj, List.getElem?_eq_getElem (by omega)] at e1
    exact (Option.some.inj e1).symm
  rw [e]

theorem eatN_app {σ : Type} (f : List UInt8 → σ → σ) : ∀ (n m : Nat) (l b : List UInt8) (s : σ), 64 * n ≤ l.length → eatN f (n + m) (l ++ b) s = eatN f m (l.drop (64 * n) ++ b) (eatN f n l s)
  | 0, m, l, b, s, _ => by simp [eatN]
  | n + 1, m, l, b, s, h => by
    rw [show n + 1 + m = (n + m) + 1 from by omega, eatN, eatN, List.drop_append_of_le_length (by omega), List.take_append_of_le_length (by omega), eatN_app f n m (l.drop 64) b _ (by rw [List.length_drop]; omega), List.drop_drop, show 64 + 64 * n = 64 * (n + 1) from by omega]
theorem eat_app {σ : Type} (f : List UInt8 → σ → σ) (l b : List UInt8) (s : σ) : eat f (l ++ b) s = eat f (rest l ++ b) (eat f l s) := by
  unfold eat
  rw [show (l ++ b).length / 64 = l.length / 64 + (rest l ++ b).length / 64 from by rw [List.length_append, List.length_append, rest_length]; omega, eatN_app f _ _ l b s (by omega), rest, Nat.mul_comm]
theorem rest_app (l b : List UInt8) : rest (l ++ b) = rest (rest l ++ b) := by
  have h1 : (l ++ b).length / 64 * 64 = l.length / 64 * 64 + (rest l ++ b).length / 64 * 64 := by rw [List.length_append, List.length_append, rest_length]; omega
  rw [rest, h1, ← List.drop_drop, List.drop_append_of_le_length (by omega)]
  rfl
theorem eat_short {σ : Type} (f : List UInt8 → σ → σ) (l : List UInt8) (s : σ) (h : l.length < 64) : eat f l s = s := by
  rw [eat, Nat.div_eq_of_lt h]; rfl
theorem rest_short (l : List UInt8) (h : l.length < 64) : rest l = l := by rw [rest, Nat.div_eq_of_lt h]; simp
theorem rest_full (l : List UInt8) (h : l.length = 64) : rest l = [] := by rw [rest, h]; exact List.drop_eq_nil_of_le (by omega)

/-- The stream has the text l in it. -/
def SImd5 (w : World) (sg kg : Nat) (l : List UInt8) : Prop := sg ≠ kg ∧ Wds w kg 72 (eat mMix l mInit).toL ∧ ∃ R : List UInt8, R.length = 64 ∧ R.take (l.length % 64) = rest l ∧ Strm w sg (.iface 48 (.pointer (some ⟨kg, 0, none⟩))) R l.length

theorem SImd5.of {w w' : World} {sg kg : Nat} {l : List UInt8} (h : SImd5 w sg kg l) (e1 : w'.heap[sg]? = w.heap[sg]?) (e2 : w'.heap[kg]? = w.heap[kg]?) : SImd5 w' sg kg l := by
  obtain ⟨h1, h2, R, h3, h4, h5⟩ := h
  exact ⟨h1, h2.other e2, R, h3, h4, h5.other e1⟩
theorem SImd5.lt {w : World} {sg kg : Nat} {l : List UInt8} (h : SImd5 w sg kg l) : sg < w.heap.size ∧ kg < w.heap.size := by
  obtain ⟨h1, h2, R, h3, h4, h5⟩ := h
  exact ⟨h5.lt, h2.lt⟩

set_option maxHeartbeats 2000000 in
theorem md5_last (sg kg : Nat) (s : S4) (n : Nat) (R : List UInt8) (a : Option Addr) (b : List UInt8) (cap : Nat) (w : World) (hne : sg ≠ kg) (_hcap : b.length ≤ cap) (_hl : b.length ≤ 281474976710656) (_hst : Wds w kg 72 s.toL) (hR : R.length = 64) (_hS : Strm w sg (.iface 48 (.pointer (some ⟨kg, 0, none⟩))) R n) (_hb : Bytes w a b) (_hab : 0 < b.length → ∀ ad, a = some ad → ad.block ≠ sg ∧ ad.block ≠ kg) :
    ∀ (w' w'' : World) (ra : Option Addr) (_rc : Nat), Bytes w ra (rest b) → (∀ ad, ra = some ad → ∃ ad0, a = some ad0 ∧ ad.block = ad0.block) → w.grownBy w' (some kg) → Wds w' kg 72 (eat mMix b s).toL →
      w''.heap[sg]? = some (.cells (splice ((.iface 48 (.pointer (some ⟨kg, 0, none⟩))) :: (bcs R ++ [.int .i64 (n : Int)])) (1 + 0) (bcs ((rest b).take 64))).toArray 60 (0, 0)) → w'.grownBy w'' (some sg) →
      Kept2 sg kg w w'' ∧ Wds w'' kg 72 (eat mMix b s).toL ∧ ∃ R' : List UInt8, R'.length = 64 ∧ R'.take (b.length % 64) = rest b ∧ Strm w'' sg (.iface 48 (.pointer (some ⟨kg, 0, none⟩))) R' n := by
  intro w' w'' ra rc hra hrb hg hw hh hg2
  have hrl := rest_length b
  have hlt : b.length % 64 < 64 := Nat.mod_lt _ (by decide)
  have htk : (rest b).take 64 = rest b := List.take_of_length_le (by omega)
  rw [htk, splice_str _ _ _ _ _ hR (by omega)] at hh
  refine ⟨(Kept2.of2 hg).trans (Kept2.of1 hg2), hw.grown hg2 (by simpa using hne.symm), splice R 0 (rest b), ?_, ?_, hh⟩
  · rw [length_splice _ _ _ (by omega), hR]
  · simp [splice, ← hrl]

set_option maxHeartbeats 4000000 in
set_option maxRecDepth 4000 in
theorem md5Write_0 (sg kg : Nat) (l : List UInt8) (a : Option Addr) (b : List UInt8) (cap : Nat) (w : World) (hI : SImd5 w sg kg l) (hcap : b.length ≤ cap) (hl : l.length + b.length ≤ 281474976710656) (hb : Bytes w a b) (hab : 0 < b.length → ∀ ad, a = some ad → ad.block ≠ sg ∧ ad.block ≠ kg) (h0 : l.length % 64 = 0) :
    Calls Try.prog 19 #[.pointer (some ⟨sg, 0, none⟩), .slice a b.length cap] w fun e w' => e = .returned (.tuple #[]) ∧ SImd5 w' sg kg (l ++ b) ∧ Kept2 sg kg w w' := by
  obtain ⟨hne, hK, R, hR, hRt, hS⟩ := hI
  have c65 := hS.size hR
  have c0 := hS.kind
  have z65 := hS.frozen 65
  obtain ⟨N, hN⟩ : ∃ N, N = (l ++ b).length := ⟨_, rfl⟩
  have HN : Hid (N = (l ++ b).length) := hN
  rw [List.length_append] at hN
  have hsum : ((l.length : Int) + (b.length : Int)) = (N : Int) := by omega
  have hS1 : Strm (w.setCell ⟨sg, 65, none⟩ (.int .i64 (N : Int))) sg (.iface 48 (.pointer (some ⟨kg, 0, none⟩))) R N := hS.resize hR _
  have hK1 : Wds (w.setCell ⟨sg, 65, none⟩ (.int .i64 (N : Int))) kg 72 (eat mMix l mInit).toL := hK.setCell (by simpa using hne.symm) _
  have hg1 : w.grownBy (w.setCell ⟨sg, 65, none⟩ (.int .i64 (N : Int))) (some sg) := grown_setCell (p := ⟨sg, 65, none⟩) (grown_refl w _) rfl _
  have hb1 : Bytes (w.setCell ⟨sg, 65, none⟩ (.int .i64 (N : Int))) a b := hb.grown hg1 (fun h ad e => (hab h ad e).1)
  have c01 : (w.setCell ⟨sg, 65, none⟩ (.int .i64 (N : Int))).cell? ⟨sg, 0, none⟩ = some (.iface 48 (.pointer (some ⟨kg, 0, none⟩))) := hS1.kind
  have HS1 : Hid (Strm (w.setCell ⟨sg, 65, none⟩ (.int .i64 (N : Int))) sg (.iface 48 (.pointer (some ⟨kg, 0, none⟩))) R N) := hS1
  have HK1 : Hid (Wds (w.setCell ⟨sg, 65, none⟩ (.int .i64 (N : Int))) kg 72 (eat mMix l mInit).toL) := hK1
  have HG1 : Hid (w.grownBy (w.setCell ⟨sg, 65, none⟩ (.int .i64 (N : Int))) (some sg)) := hg1
  have HB1 : Hid (Bytes (w.setCell ⟨sg, 65, none⟩ (.int .i64 (N : Int))) a b) := hb1
  have HAB : Hid (0 < b.length → ∀ ad, a = some ad → ad.block ≠ sg ∧ ad.block ≠ kg) := hab
  have HRT : Hid (R.take (l.length % 64) = rest l) := hRt
  have HR : Hid (R.length = 64) := hR
  have HL : Hid (l.length + b.length ≤ 281474976710656) := hl
  have HCAP : Hid (b.length ≤ cap) := hcap
  have hNb : N ≤ 281474976710656 := by omega
  have hlb : l.length ≤ 281474976710656 := by omega
  have hbb : b.length ≤ 281474976710656 := by omega
  clear hS hK hS1 hK1 hg1 hb1 hb hRt hab hN hR hl
  have h0i : (l.length : Int) % 64 = 0 := by omega
  have HRE : Hid (rest l = []) := List.eq_nil_of_length_eq_zero (by rw [rest_length, h0])
  have HC : Hid _ := takeBlocks_md5 kg (eat mMix l mInit) a b cap (w.setCell ⟨sg, 65, none⟩ (.int .i64 (N : Int))).drew hcap (by omega) HK1.out (Bytes.same HB1.out rfl) (fun h ad e => (HAB.out (by omega) ad e).2)
  have H0 : Hid (l.length % 64 = 0) := h0
  clear h0
  go_enter Try.func19, Try.ntmps19
  go_wp2_with fail
  generalize w.setCell ⟨sg, 65, none⟩ (.int .i64 (N : Int)) = w1 at *
  clear c65 c0 z65
  go_region_held3 (fun w' => w'.cell? ⟨sg, 0, none⟩ = some (.iface 48 (.pointer (some ⟨kg, 0, none⟩)))) (go_keep)
    (first
      | (go_at_call 37; refine Calls.mono HC.out ?_; rintro e w2 ⟨ra, rc, rfl, hr1, hr2, hr3, hr4, hr5⟩; have s0 : w2.cell? ⟨sg, 0, none⟩ = some (.iface 48 (.pointer (some ⟨kg, 0, none⟩))) := (World.cell?_of_block (w := w1.drew) (a := ⟨sg, 0, none⟩) (hr4.block sg HS1.out.lt (by simpa using hne))).trans c01; have HL1 : Hid (Bytes w1.drew ra (rest b) ∧ (∀ ad, ra = some ad → ∃ ad0, a = some ad0 ∧ ad.block = ad0.block) ∧ w1.drew.grownBy w2 (some kg) ∧ Wds w2 kg 72 (eat mMix b (eat mMix l mInit)).toL) := ⟨hr1, hr2, hr4, hr5⟩; clear hr1 hr2 hr3 hr4 hr5)
      | (refine step_copy_in rfl (.tmp 48) (.tmp 54) rfl sg 1 64 64 rfl ra (rest b) (b.length % 64) rc (rest_length b) rfl (Bytes.grown HL1.out.1 HL1.out.2.2.1 (fun h ad e => by obtain ⟨ad0, e0, eb⟩ := HL1.out.2.1 ad e; rw [eb]; exact (HAB.out (by rw [rest_length] at h; omega) ad0 e0).2)) (Value.iface 48 (.pointer (some ⟨kg, 0, none⟩)) :: (bcs R ++ [Value.int .i64 (N : Int)])) 60 (Strm.other (w := w1.drew) HS1.out (HL1.out.2.2.1.block sg HS1.out.lt (by simpa using hne))) (by simp [bcs_length, HR.out]; omega) ?_; intro w3 hh3 hg3; have s1 : w3.cell? ⟨sg, 0, none⟩ = some (.iface 48 (.pointer (some ⟨kg, 0, none⟩))) := kind_spliced (off := 0) hh3.out))
  refine bodyPost_end (results_none rfl _ _ _) rfl ?_
  obtain ⟨hk2, hw3, R', hR', hRt', hS'⟩ := md5_last sg kg (eat mMix l mInit) N R a b cap w1.drew hne HCAP.out hbb HK1.out HR.out HS1.out (Bytes.same HB1.out rfl) HAB.out w2 w3 ra rc HL1.out.1 HL1.out.2.1 HL1.out.2.2.1 HL1.out.2.2.2 hh3.out hg3
  have e1 : (l ++ b).length % 64 = b.length % 64 := by have := H0.out; rw [List.length_append]; omega
  refine ⟨rfl, ⟨hne, ?_, R', hR', ?_, ?_⟩, (Kept2.of1 (grown_drew HG1.out)).trans hk2⟩
  · rw [eat_app, HRE.out, List.nil_append]
    exact hw3
  · rw [e1, rest_app, HRE.out, List.nil_append]
    exact hRt'
  · rw [← HN.out]
    exact hS'

/-- The stream has the text l in it. -/
def SIsha (w : World) (sg kg : Nat) (l : List UInt8) : Prop := sg ≠ kg ∧ Wds w kg 65 (eat sMix l sInit).toL ∧ ∃ R : List UInt8, R.length = 64 ∧ R.take (l.length % 64) = rest l ∧ Strm w sg (.iface 45 (.pointer (some ⟨kg, 0, none⟩))) R l.length

theorem SIsha.of {w w' : World} {sg kg : Nat} {l : List UInt8} (h : SIsha w sg kg l) (e1 : w'.heap[sg]? = w.heap[sg]?) (e2 : w'.heap[kg]? = w.heap[kg]?) : SIsha w' sg kg l := by
  obtain ⟨h1, h2, R, h3, h4, h5⟩ := h
  exact ⟨h1, h2.other e2, R, h3, h4, h5.other e1⟩
theorem SIsha.lt {w : World} {sg kg : Nat} {l : List UInt8} (h : SIsha w sg kg l) : sg < w.heap.size ∧ kg < w.heap.size := by
  obtain ⟨h1, h2, R, h3, h4, h5⟩ := h
  exact ⟨h5.lt, h2.lt⟩

set_option maxHeartbeats 2000000 in
theorem sha_last (sg kg : Nat) (s : S8) (n : Nat) (R : List UInt8) (a : Option Addr) (b : List UInt8) (cap : Nat) (w : World) (hne : sg ≠ kg) (_hcap : b.length ≤ cap) (_hl : b.length ≤ 281474976710656) (_hst : Wds w kg 65 s.toL) (hR : R.length = 64) (_hS : Strm w sg (.iface 45 (.pointer (some ⟨kg, 0, none⟩))) R n) (_hb : Bytes w a b) (_hab : 0 < b.length → ∀ ad, a = some ad → ad.block ≠ sg ∧ ad.block ≠ kg) :
    ∀ (w' w'' : World) (ra : Option Addr) (_rc : Nat), Bytes w ra (rest b) → (∀ ad, ra = some ad → ∃ ad0, a = some ad0 ∧ ad.block = ad0.block) → w.grownBy w' (some kg) → Wds w' kg 65 (eat sMix b s).toL →
      w''.heap[sg]? = some (.cells (splice ((.iface 45 (.pointer (some ⟨kg, 0, none⟩))) :: (bcs R ++ [.int .i64 (n : Int)])) (1 + 0) (bcs ((rest b).take 64))).toArray 60 (0, 0)) → w'.grownBy w'' (some sg) →
      Kept2 sg kg w w'' ∧ Wds w'' kg 65 (eat sMix b s).toL ∧ ∃ R' : List UInt8, R'.length = 64 ∧ R'.take (b.length % 64) = rest b ∧ Strm w'' sg (.iface 45 (.pointer (some ⟨kg, 0, none⟩))) R' n := by
  intro w' w'' ra rc hra hrb hg hw hh hg2
  have hrl := rest_length b
  have hlt : b.length % 64 < 64 := Nat.mod_lt _ (by decide)
  have htk : (rest b).take 64 = rest b := List.take_of_length_le (by omega)
  rw [htk, splice_str _ _ _ _ _ hR (by omega)] at hh
  refine ⟨(Kept2.of2 hg).trans (Kept2.of1 hg2), hw.grown hg2 (by simpa using hne.symm), splice R 0 (rest b), ?_, ?_, hh⟩
  · rw [length_splice _ _ _ (by omega), hR]
  · simp [splice, ← hrl]

set_option maxHeartbeats 4000000 in
set_option maxRecDepth 4000 in
theorem shaWrite_0 (sg kg : Nat) (l : List UInt8) (a : Option Addr) (b : List UInt8) (cap : Nat) (w : World) (hI : SIsha w sg kg l) (hcap : b.length ≤ cap) (hl : l.length + b.length ≤ 281474976710656) (hb : Bytes w a b) (hab : 0 < b.length → ∀ ad, a = some ad → ad.block ≠ sg ∧ ad.block ≠ kg) (h0 : l.length % 64 = 0) :
    Calls Try.prog 19 #[.pointer (some ⟨sg, 0, none⟩), .slice a b.length cap] w fun e w' => e = .returned (.tuple #[]) ∧ SIsha w' sg kg (l ++ b) ∧ Kept2 sg kg w w' := by
  obtain ⟨hne, hK, R, hR, hRt, hS⟩ := hI
  have c65 := hS.size hR
  have c0 := hS.kind
  have z65 := hS.frozen 65
  obtain ⟨N, hN⟩ : ∃ N, N = (l ++ b).length := ⟨_, rfl⟩
  have HN : Hid (N = (l ++ b).length) := hN
  rw [List.length_append] at hN
  have hsum : ((l.length : Int) + (b.length : Int)) = (N : Int) := by omega
  have hS1 : Strm (w.setCell ⟨sg, 65, none⟩ (.int .i64 (N : Int))) sg (.iface 45 (.pointer (some ⟨kg, 0, none⟩))) R N := hS.resize hR _
  have hK1 : Wds (w.setCell ⟨sg, 65, none⟩ (.int .i64 (N : Int))) kg 65 (eat sMix l sInit).toL := hK.setCell (by simpa using hne.symm) _
  have hg1 : w.grownBy (w.setCell ⟨sg, 65, none⟩ (.int .i64 (N : Int))) (some sg) := grown_setCell (p := ⟨sg, 65, none⟩) (grown_refl w _) rfl _
  have hb1 : Bytes (w.setCell ⟨sg, 65, none⟩ (.int .i64 (N : Int))) a b := hb.grown hg1 (fun h ad e => (hab h ad e).1)
  have c01 : (w.setCell ⟨sg, 65, none⟩ (.int .i64 (N : Int))).cell? ⟨sg, 0, none⟩ = some (.iface 45 (.pointer (some ⟨kg, 0, none⟩))) := hS1.kind
  have HS1 : Hid (Strm (w.setCell ⟨sg, 65, none⟩ (.int .i64 (N : Int))) sg (.iface 45 (.pointer (some ⟨kg, 0, none⟩))) R N) := hS1
  have HK1 : Hid (Wds (w.setCell ⟨sg, 65, none⟩ (.int .i64 (N : Int))) kg 65 (eat sMix l sInit).toL) := hK1
  have HG1 : Hid (w.grownBy (w.setCell ⟨sg, 65, none⟩ (.int .i64 (N : Int))) (some sg)) := hg1
  have HB1 : Hid (Bytes (w.setCell ⟨sg, 65, none⟩ (.int .i64 (N : Int))) a b) := hb1
  have HAB : Hid (0 < b.length → ∀ ad, a = some ad → ad.block ≠ sg ∧ ad.block ≠ kg) := hab
  have HRT : Hid (R.take (l.length % 64) = rest l) := hRt
  have HR : Hid (R.length = 64) := hR
  have HL : Hid (l.length + b.length ≤ 281474976710656) := hl
  have HCAP : Hid (b.length ≤ cap) := hcap
  have hNb : N ≤ 281474976710656 := by omega
  have hlb : l.length ≤ 281474976710656 := by omega
  have hbb : b.length ≤ 281474976710656 := by omega
  clear hS hK hS1 hK1 hg1 hb1 hb hRt hab hN hR hl
  have h0i : (l.length : Int) % 64 = 0 := by omega
  have HRE : Hid (rest l = []) := List.eq_nil_of_length_eq_zero (by rw [rest_length, h0])
  have HC : Hid _ := takeBlocks_sha kg (eat sMix l sInit) a b cap (w.setCell ⟨sg, 65, none⟩ (.int .i64 (N : Int))).drew hcap (by omega) HK1.out (Bytes.same HB1.out rfl) (fun h ad e => (HAB.out (by omega) ad e).2)
  have H0 : Hid (l.length % 64 = 0) := h0
  clear h0
  go_enter Try.func19, Try.ntmps19
  go_wp2_with fail
  generalize w.setCell ⟨sg, 65, none⟩ (.int .i64 (N : Int)) = w1 at *
  clear c65 c0 z65
  go_region_held3 (fun w' => w'.cell? ⟨sg, 0, none⟩ = some (.iface 45 (.pointer (some ⟨kg, 0, none⟩)))) (go_keep)
    (first
      | (go_at_call 37; refine Calls.mono HC.out ?_; rintro e w2 ⟨ra, rc, rfl, hr1, hr2, hr3, hr4, hr5⟩; have s0 : w2.cell? ⟨sg, 0, none⟩ = some (.iface 45 (.pointer (some ⟨kg, 0, none⟩))) := (World.cell?_of_block (w := w1.drew) (a := ⟨sg, 0, none⟩) (hr4.block sg HS1.out.lt (by simpa using hne))).trans c01; have HL1 : Hid (Bytes w1.drew ra (rest b) ∧ (∀ ad, ra = some ad → ∃ ad0, a = some ad0 ∧ ad.block = ad0.block) ∧ w1.drew.grownBy w2 (some kg) ∧ Wds w2 kg 65 (eat sMix b (eat sMix l sInit)).toL) := ⟨hr1, hr2, hr4, hr5⟩; clear hr1 hr2 hr3 hr4 hr5)
      | (refine step_copy_in rfl (.tmp 48) (.tmp 54) rfl sg 1 64 64 rfl ra (rest b) (b.length % 64) rc (rest_length b) rfl (Bytes.grown HL1.out.1 HL1.out.2.2.1 (fun h ad e => by obtain ⟨ad0, e0, eb⟩ := HL1.out.2.1 ad e; rw [eb]; exact (HAB.out (by rw [rest_length] at h; omega) ad0 e0).2)) (Value.iface 45 (.pointer (some ⟨kg, 0, none⟩)) :: (bcs R ++ [Value.int .i64 (N : Int)])) 60 (Strm.other (w := w1.drew) HS1.out (HL1.out.2.2.1.block sg HS1.out.lt (by simpa using hne))) (by simp [bcs_length, HR.out]; omega) ?_; intro w3 hh3 hg3; have s1 : w3.cell? ⟨sg, 0, none⟩ = some (.iface 45 (.pointer (some ⟨kg, 0, none⟩))) := kind_spliced (off := 0) hh3.out))
  refine bodyPost_end (results_none rfl _ _ _) rfl ?_
  obtain ⟨hk2, hw3, R', hR', hRt', hS'⟩ := sha_last sg kg (eat sMix l sInit) N R a b cap w1.drew hne HCAP.out hbb HK1.out HR.out HS1.out (Bytes.same HB1.out rfl) HAB.out w2 w3 ra rc HL1.out.1 HL1.out.2.1 HL1.out.2.2.1 HL1.out.2.2.2 hh3.out hg3
  have e1 : (l ++ b).length % 64 = b.length % 64 := by have := H0.out; rw [List.length_append]; omega
  refine ⟨rfl, ⟨hne, ?_, R', hR', ?_, ?_⟩, (Kept2.of1 (grown_drew HG1.out)).trans hk2⟩
  · rw [eat_app, HRE.out, List.nil_append]
    exact hw3
  · rw [e1, rest_app, HRE.out, List.nil_append]
    exact hRt'
  · rw [← HN.out]
    exact hS'
end Go.Proofs.Ytdgoepnopenpkaa
