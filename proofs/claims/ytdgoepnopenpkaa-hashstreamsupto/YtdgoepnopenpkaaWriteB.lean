/-
  (*Stream).Write by its contract where bytes are held.
-/
import Derived.Test.YtdgoepnopenpkaaWrite
namespace Go.Proofs.Ytdgoepnopenpkaa
open Go.RowKit

/-- The held bytes' room, as a slice. -/
theorem slice_room (sg H : Nat) (w : World) (hH : H < 64) : (Instr.sliceAt 42 (.pointer (some ⟨sg, 1, none⟩)) (some (.int .i64 (H : Int))) none none).run Try.prog w = .ok (.slice (some ⟨sg, 1 + H, none⟩) (64 - H) (64 - H)) w := by
  have hl : (Try.prog.arrayLen 42) = 64 := by kernel_rfl
  obtain ⟨i0, hi, hz0, hz1, hz2⟩ := info_parts info5
  simp [Instr.sliceAt, Instr.sureAddr, run_underlying Try.underlying42, Instr.sliceBounds, run_sliceBound, sizeOf, typeInfo, hi, hz1, (by omega : (H : Int) ≤ 64), Addr.add]
  rw [if_neg (by omega)]
  split
  · rename_i h; subst h; rfl
  · rfl

/-- 'copy' into a block that is known whole, as an equation. -/
theorem copy_run (w : World) (ty : TypeId) (g off dLen dCap : Nat) (a : Option Addr) (r : List UInt8) (cap : Nat) (hb : Bytes w a r) (cur : List Value) (t : TypeId) (hg : w.heap[g]? = some (.cells cur.toArray t (0, 0))) (hfit : off + (r.take dLen).length ≤ cur.length) :
    ∃ w', (Builtin.copy_ #[22, 22] ty #[.slice (some ⟨g, off, none⟩) dLen dCap, .slice a r.length cap]).run Try.prog w = .ok (goInt (r.take dLen).length) w' ∧ w'.heap[g]? = some (.cells (splice cur off (bcs (r.take dLen))).toArray t (0, 0)) ∧ w.grownBy w' (some g) := by
  have hn : (bcs (r.take dLen)).length = Nat.min r.length dLen := by rw [bcs_length, List.length_take]; exact Nat.min_comm _ _
  by_cases h0 : (bcs (r.take dLen)).length = 0
  · have hrun := run_copy_none (P := Try.prog) w 22 22 ty 5 (some ⟨g, off, none⟩) a dLen dCap r.length cap Try.underlying22 size5 (by rw [← hn]; exact h0)
    have e0 : (r.take dLen).length = 0 := by rw [bcs_length] at h0; exact h0
    have e1 : r.take dLen = [] := List.eq_nil_of_length_eq_zero e0
    refine ⟨w, by rw [e0]; exact hrun, by rw [e1]; simpa [splice, bcs] using hg, grown_refl _ _⟩
  · have hl : 0 < r.length := by rw [bcs_length, List.length_take] at h0; omega
    obtain ⟨ad, rfl, hsrc⟩ := bytes_src hb hl
    have hsrc' : ∀ j v, (bcs (r.take dLen))[j]? = some v → w.cell? (ad.add j) = some v := by
      intro j v hv
      refine hsrc j v ?_
      rw [bcs_take, List.getElem?_take] at hv
      split at hv
      · exact hv
      · simp at hv
    have hrun := run_copy_row (P := Try.prog) w 22 22 ty 5 g off dLen dCap ad r.length cap cur.toArray t (bcs (r.take dLen)) Try.underlying22 size5 hg hn hsrc' (by rw [bcs_length]; simpa using hfit) (bcs_one _)
    refine ⟨w.setRow g (splice cur off (bcs (r.take dLen))).toArray, by rw [← bcs_length (r.take dLen)]; simpa [splice] using hrun, setRow_heap w g _ _ t _ hg, ⟨rfl, rfl, rfl, by simp, fun k hk hne => setRow_other w g k _ (by intro e; subst e; exact hne rfl)⟩⟩

/-- What is behind the first n bytes of a slice. -/
theorem slice_behind (ab ao len cap n : Nat) (h1 : n ≤ len) (h2 : len ≤ cap) : ∃ ad : Addr, ad.block = ab ∧ (n < cap → ad = ⟨ab, ao + n, none⟩) ∧ ∀ wx, (Instr.slice 22 (.slice (some ⟨ab, ao, none⟩) len cap) (some (.int .i64 (n : Int))) none none).run Try.prog wx = .ok (.slice (some ad) (len - n) (cap - n)) wx := by
  obtain ⟨i0, hi, hz0, hz1, hz2⟩ := info_parts info5
  by_cases hc : n < cap
  · refine ⟨⟨ab, ao + n, none⟩, rfl, fun _ => rfl, fun wx => ?_⟩
    simp [Instr.slice, run_underlying Try.underlying22, Instr.sliceBounds, run_sliceBound, sizeOf, typeInfo, hi, hz1, (by omega : (n : Int) ≤ (len : Int)), Addr.add]
    rw [if_neg (by omega)]
    split
    · rename_i h; subst h; rfl
    · rfl
  · refine ⟨⟨ab, ao, none⟩, rfl, fun h => absurd h hc, fun wx => ?_⟩
    simp [Instr.slice, run_underlying Try.underlying22, Instr.sliceBounds, run_sliceBound, sizeOf, typeInfo, hi, hz1, (by omega : (n : Int) ≤ (len : Int)), Addr.add]
    intro h
    omega

set_option maxHeartbeats 4000000 in
set_option maxRecDepth 4000 in
theorem md5Write_1 (sg kg : Nat) (l : List UInt8) (a : Option Addr) (b : List UInt8) (cap : Nat) (w : World) (hI : SImd5 w sg kg l) (hl : l.length + b.length ≤ 281474976710656) (hb : Bytes w a b) (hab : 0 < b.length → ∀ ad, a = some ad → ad.block ≠ sg ∧ ad.block ≠ kg) (h0 : 0 < l.length % 64) (h1 : l.length % 64 + b.length < 64) :
    Calls Try.prog 19 #[.pointer (some ⟨sg, 0, none⟩), .slice a b.length cap] w fun e w' => e = .returned (.tuple #[]) ∧ SImd5 w' sg kg (l ++ b) ∧ Kept2 sg kg w w' := by
  obtain ⟨hne, hK, R, hR, hRt, hS⟩ := hI
  have c65 := hS.size hR
  have z65 := hS.frozen 65
  obtain ⟨N, hN⟩ : ∃ N, N = (l ++ b).length := ⟨_, rfl⟩
  have HN : Hid (N = (l ++ b).length) := hN
  rw [List.length_append] at hN
  obtain ⟨H, hH⟩ : ∃ H, H = l.length % 64 := ⟨_, rfl⟩
  have HH : Hid (H = l.length % 64) := hH
  have hHi : (l.length : Int) % 64 = (H : Int) := by omega
  have hH0 : (0 : Int) < (H : Int) := by omega
  have hH1 : (H : Int) < 64 := by omega
  have hHn : H < 64 := by omega
  have hHb : (H : Int) + (b.length : Int) < 64 := by omega
  have hsum : ((l.length : Int) + (b.length : Int)) = (N : Int) := by omega
  have hS1 : Strm (w.setCell ⟨sg, 65, none⟩ (.int .i64 (N : Int))) sg (.iface 48 (.pointer (some ⟨kg, 0, none⟩))) R N := hS.resize hR _
  have hK1 : Wds (w.setCell ⟨sg, 65, none⟩ (.int .i64 (N : Int))) kg 72 (eat mMix l mInit).toL := hK.setCell (by simpa using hne.symm) _
  have hg1 : w.grownBy (w.setCell ⟨sg, 65, none⟩ (.int .i64 (N : Int))) (some sg) := grown_setCell (p := ⟨sg, 65, none⟩) (grown_refl w _) rfl _
  have hb1 : Bytes (w.setCell ⟨sg, 65, none⟩ (.int .i64 (N : Int))) a b := hb.grown hg1 (fun h ad e => (hab h ad e).1)
  have HS1 : Hid (Strm (w.setCell ⟨sg, 65, none⟩ (.int .i64 (N : Int))) sg (.iface 48 (.pointer (some ⟨kg, 0, none⟩))) R N) := hS1
  have HK1 : Hid (Wds (w.setCell ⟨sg, 65, none⟩ (.int .i64 (N : Int))) kg 72 (eat mMix l mInit).toL) := hK1
  have HG1 : Hid (w.grownBy (w.setCell ⟨sg, 65, none⟩ (.int .i64 (N : Int))) (some sg)) := hg1
  have HB1 : Hid (Bytes (w.setCell ⟨sg, 65, none⟩ (.int .i64 (N : Int))) a b) := hb1
  have HRT : Hid (R.take H = rest l) := by rw [HH.out]; exact hRt
  have HR : Hid (R.length = 64) := hR
  have hNb : (N : Int) ≤ 281474976710656 := by omega
  have hlb : (l.length : Int) ≤ 281474976710656 := by omega
  have HBL : Hid (H + b.length < 64) := by show _ < _; omega
  have htk : b.take (64 - H) = b := List.take_of_length_le (by omega)
  have HTK : Hid (b.take (64 - H) = b) := htk
  clear hS hK hS1 hK1 hg1 hb1 hb hRt hab hN hR hl hH h0 h1 htk
  have hsl : ∀ wx, (Instr.sliceAt 42 (.pointer (some ⟨sg, 1, none⟩)) (some (.int .i64 (H : Int))) none none).run Try.prog wx = .ok (.slice (some ⟨sg, 1 + H, none⟩) (64 - H) (64 - H)) wx := fun wx => slice_room sg H wx hHn
  obtain ⟨w3, hcp, hh3, hg3⟩ := copy_run (w.setCell ⟨sg, 65, none⟩ (.int .i64 (N : Int))) 3 sg (1 + H) (64 - H) (64 - H) a b cap HB1.out (Value.iface 48 (.pointer (some ⟨kg, 0, none⟩)) :: (bcs R ++ [Value.int .i64 (N : Int)])) 60 HS1.out (by rw [HTK.out]; have h1 := HR.out; have h2 := HBL.out; simp only [List.length_cons, List.length_append, bcs_length, List.length_nil]; omega)
  rw [HTK.out] at hcp hh3
  unfold goInt at hcp
  have HF : Hid (SImd5 w3 sg kg (l ++ b) ∧ Kept2 sg kg w w3) := by
    have h1 := HR.out
    have h2 := HBL.out
    have h3 := HH.out
    have hlen : (l ++ b).length % 64 = H + b.length := by rw [List.length_append]; omega
    have hrl : (rest l).length = H := by rw [rest_length]; omega
    have hshort : (rest l ++ b).length < 64 := by rw [List.length_append, hrl]; exact h2
    rw [splice_str _ _ _ _ _ h1 (by omega)] at hh3
    refine ⟨⟨hne, ?_, splice R H b, ?_, ?_, ?_⟩, (Kept2.of1 HG1.out).trans (Kept2.of1 hg3)⟩
    · rw [eat_app, eat_short _ _ _ hshort]
      exact HK1.out.grown hg3 (by simpa using hne.symm)
    · rw [length_splice _ _ _ (by omega), h1]
    · rw [hlen, rest_app, rest_short _ hshort, ← HRT.out]
      have hs3 : splice R H b = (R.take H ++ b) ++ R.drop (H + b.length) := by simp [splice]
      rw [hs3, List.take_append_of_le_length (by simp; omega), List.take_of_length_le (by simp; omega)]
    · rw [← HN.out]
      exact hh3
  clear hh3 hg3 HS1 HK1 HG1 HB1 HRT
  go_enter Try.func19, Try.ntmps19
  go_wp2
  refine bodyPost_ret (results_none rfl _ _ _) rfl ?_
  exact ⟨rfl, HF.out⟩

set_option maxHeartbeats 8000000 in
set_option maxRecDepth 8000 in
theorem md5Write_2 (sg kg : Nat) (l : List UInt8) (a : Option Addr) (b : List UInt8) (cap : Nat) (w : World) (hI : SImd5 w sg kg l) (hcap : b.length ≤ cap) (hl : l.length + b.length ≤ 281474976710656) (hb : Bytes w a b) (hab : 0 < b.length → ∀ ad, a = some ad → ad.block ≠ sg ∧ ad.block ≠ kg) (h0 : 0 < l.length % 64) (h1 : 64 ≤ l.length % 64 + b.length) :
    Calls Try.prog 19 #[.pointer (some ⟨sg, 0, none⟩), .slice a b.length cap] w fun e w' => e = .returned (.tuple #[]) ∧ SImd5 w' sg kg (l ++ b) ∧ Kept2 sg kg w w' := by
  obtain ⟨hne, hK, R, hR, hRt, hS⟩ := hI
  have c65 := hS.size hR
  have z65 := hS.frozen 65
  obtain ⟨N, hN⟩ : ∃ N, N = (l ++ b).length := ⟨_, rfl⟩
  have HN : Hid (N = (l ++ b).length) := hN
  rw [List.length_append] at hN
  obtain ⟨H, hH⟩ : ∃ H, H = l.length % 64 := ⟨_, rfl⟩
  obtain ⟨n, hn⟩ : ∃ n, n = 64 - H := ⟨_, rfl⟩
  have hHi : (l.length : Int) % 64 = (H : Int) := by omega
  have hH0 : (0 : Int) < (H : Int) := by omega
  have hHn : H < 64 := by omega
  have hn64 : (H : Int) + (n : Int) = 64 := by omega
  have hnb : n ≤ b.length := by omega
  have hn0 : 0 < n := by omega
  have hbpos : 0 < b.length := by omega
  obtain ⟨ab, ao, rfl, habl, habc⟩ := hb.at hbpos
  have hsum : ((l.length : Int) + (b.length : Int)) = (N : Int) := by omega
  have hS1 : Strm (w.setCell ⟨sg, 65, none⟩ (.int .i64 (N : Int))) sg (.iface 48 (.pointer (some ⟨kg, 0, none⟩))) R N := hS.resize hR _
  have hK1 : Wds (w.setCell ⟨sg, 65, none⟩ (.int .i64 (N : Int))) kg 72 (eat mMix l mInit).toL := hK.setCell (by simpa using hne.symm) _
  have hg1 : w.grownBy (w.setCell ⟨sg, 65, none⟩ (.int .i64 (N : Int))) (some sg) := grown_setCell (p := ⟨sg, 65, none⟩) (grown_refl w _) rfl _
  have hblk : ab ≠ sg ∧ ab ≠ kg := hab hbpos _ rfl
  have hb1 : Bytes (w.setCell ⟨sg, 65, none⟩ (.int .i64 (N : Int))) (some ⟨ab, ao, none⟩) b := hb.grown hg1 (fun h ad e => (hab h ad e).1)
  have hxl : (b.take n).length = n := by rw [List.length_take]; omega
  obtain ⟨w3, hcp, hh3, hg3⟩ := copy_run (w.setCell ⟨sg, 65, none⟩ (.int .i64 (N : Int))) 3 sg (1 + H) n n (some ⟨ab, ao, none⟩) b cap hb1 (Value.iface 48 (.pointer (some ⟨kg, 0, none⟩)) :: (bcs R ++ [Value.int .i64 (N : Int)])) 60 hS1 (by rw [hxl]; simp only [List.length_cons, List.length_append, bcs_length, List.length_nil]; omega)
  rw [hxl] at hcp
  unfold goInt at hcp
  rw [splice_str _ _ _ _ _ hR (by omega)] at hh3
  obtain ⟨R1, hR1⟩ : ∃ R1, R1 = splice R H (b.take n) := ⟨_, rfl⟩
  rw [← hR1] at hh3
  have hrl : R.take H = rest l := by rw [hH]; exact hRt
  have hR1e : R1 = rest l ++ b.take n := by
    have hs3 : splice R H (b.take n) = (R.take H ++ b.take n) ++ R.drop (H + (b.take n).length) := by simp [splice]
    rw [hR1, hs3, hrl, hxl, List.drop_eq_nil_of_le (by omega), List.append_nil]
  have hR1l : R1.length = 64 := by rw [hR1, length_splice _ _ _ (by omega), hR]
  have hS3 : Strm w3 sg (.iface 48 (.pointer (some ⟨kg, 0, none⟩))) R1 N := hh3
  have hK3 : Wds w3 kg 72 (eat mMix l mInit).toL := hK1.grown hg3 (by simpa using hne.symm)
  have hb3 : Bytes w3 (some ⟨ab, ao, none⟩) b := hb1.grown hg3 (fun h ad e => by cases e; exact hblk.1)
  have hk3 : Kept2 sg kg w w3 := (Kept2.of1 hg1).trans (Kept2.of1 hg3)
  obtain ⟨b2, hb2⟩ : ∃ b2, b2 = b.drop n := ⟨_, rfl⟩
  have hb2l : b2.length = b.length - n := by rw [hb2, List.length_drop]
  obtain ⟨a2, ha2, ha2', hsl2⟩ := slice_behind ab ao b.length cap n hnb hcap
  rw [← hb2l] at hsl2
  have hby2 : ∀ wx, Bytes wx (some ⟨ab, ao, none⟩) b → Bytes wx (some a2) b2 := by
    intro wx hbx
    by_cases hc : n < b.length
    · rw [ha2' (by omega)]
      obtain ⟨b', o', he, hlt', hc'⟩ := hbx.at hbpos
      cases he
      refine .inr ⟨ab, ao + n, rfl, hlt', fun j hj => ?_⟩
      have := hc' (n + j) (by omega)
      rw [Nat.add_assoc, this]
      subst hb2
      simp
    · exact .inl (List.eq_nil_of_length_eq_zero (by omega))
  have HEQ : Hid (eat mMix (l ++ b) mInit = eat mMix b2 (eat mMix R1 (eat mMix l mInit)) ∧ rest (l ++ b) = rest b2 ∧ (l ++ b).length % 64 = b2.length % 64) := by
    have hsplit : rest l ++ b = R1 ++ b2 := by rw [hR1e, hb2, List.append_assoc, List.take_append_drop]
    refine ⟨?_, ?_, ?_⟩
    · rw [eat_app, hsplit, eat_app mMix R1, rest_full R1 hR1l, List.nil_append]
    · rw [rest_app, hsplit, rest_app, rest_full R1 hR1l, List.nil_append]
    · rw [List.length_append]; omega
  have HC5 : Hid (∀ wx, Wds wx kg 72 (eat mMix l mInit).toL → Bytes wx (some ⟨sg, 1, none⟩) R1 → Calls Try.prog 37 #[.iface 48 (.pointer (some ⟨kg, 0, none⟩)), .slice (some ⟨sg, 1, none⟩) 64 64] wx fun e w' => ∃ ra rc, e = .returned (.slice ra 0 rc) ∧ wx.grownBy w' (some kg) ∧ Wds w' kg 72 (eat mMix R1 (eat mMix l mInit)).toL) := by
    intro wx h2 h3
    have := takeBlocks_md5 kg (eat mMix l mInit) (some ⟨sg, 1, none⟩) R1 64 wx (by omega) (by omega) h2 h3 (fun _ ad e => by cases e; exact hne)
    rw [hR1l] at this
    exact this.mono fun e w' ⟨ra, rc, he, _, _, _, h4, h5⟩ => ⟨ra, rc, he, h4, h5⟩
  have HBR : Hid (∀ wx, Strm wx sg (.iface 48 (.pointer (some ⟨kg, 0, none⟩))) R1 N → Bytes wx (some ⟨sg, 1, none⟩) R1) := fun wx h => h.bytes hR1l R1 (by rw [List.take_of_length_le (Nat.le_refl _)])
  have HS3 : Hid (Strm w3 sg (.iface 48 (.pointer (some ⟨kg, 0, none⟩))) R1 N) := hS3
  have HK3 : Hid (Wds w3 kg 72 (eat mMix l mInit).toL) := hK3
  have HB3 : Hid (Bytes w3 (some ⟨ab, ao, none⟩) b) := hb3
  have HKP3 : Hid (Kept2 sg kg w w3) := hk3
  have HBY2 : Hid (∀ wx, Bytes wx (some ⟨ab, ao, none⟩) b → Bytes wx (some a2) b2) := hby2
  have HA2 : Hid (a2.block = ab) := ha2
  have HBK : Hid (ab ≠ sg ∧ ab ≠ kg) := hblk
  have HR1 : Hid (R1.length = 64) := hR1l
  have HCP2 : Hid (b2.length ≤ cap - n) := by show _ ≤ _; omega
  have hb2b : b2.length ≤ 281474976710656 := by omega
  have hsl : ∀ wx, (Instr.sliceAt 42 (.pointer (some ⟨sg, 1, none⟩)) (some (.int .i64 (H : Int))) none none).run Try.prog wx = .ok (.slice (some ⟨sg, 1 + H, none⟩) n n) wx := fun wx => by rw [hn]; exact slice_room sg H wx hHn
  have c30 : w3.cell? ⟨sg, 0, none⟩ = some (.iface 48 (.pointer (some ⟨kg, 0, none⟩))) := hS3.kind
  have hNb : (N : Int) ≤ 281474976710656 := by omega
  have hlb : (l.length : Int) ≤ 281474976710656 := by omega
  have HN2 : Hid (b2.length = b.length - n) := hb2l
  clear hS hK hS1 hK1 hg1 hb1 hb hRt hab hN hR hl hH h0 h1 hn hnb hn0 hbpos habl habc hblk hxl hh3 hg3 hR1 hrl hR1e hR1l hS3 hK3 hb3 hk3 hb2 hb2l ha2 ha2' hby2 hHn
  go_enter Try.func19, Try.ntmps19
  go_wp2_with fail
  go_region_held3 (fun w' => w'.cell? ⟨sg, 0, none⟩ = some (.iface 48 (.pointer (some ⟨kg, 0, none⟩)))) (go_keep)
    (first
      | (go_at_call 37; refine Calls.mono (HC5.out w3.drew HK3.out (HBR.out w3.drew HS3.out)) ?_; rintro e w5 ⟨ra, rc, rfl, hr4, hr5⟩; have s0 : w5.cell? ⟨sg, 0, none⟩ = some (.iface 48 (.pointer (some ⟨kg, 0, none⟩))) := (World.cell?_of_block (w := w3.drew) (a := ⟨sg, 0, none⟩) (hr4.block sg HS3.out.lt (by simpa using hne))).trans c30))
  have HS5 : Hid (Strm w5 sg (.iface 48 (.pointer (some ⟨kg, 0, none⟩))) R1 N) := Strm.other (w := w3.drew) HS3.out (hr4.block sg HS3.out.lt (by simpa using hne))
  have HK5 : Hid (Wds w5 kg 72 (eat mMix R1 (eat mMix l mInit)).toL) := hr5
  have HB5 : Hid (Bytes w5 (some a2) b2) := HBY2.out _ (Bytes.grown (w := w3.drew) (Bytes.same HB3.out rfl) hr4 (fun _ ad e => by cases e; exact HBK.out.2))
  have HKP5 : Hid (Kept2 sg kg w w5) := Kept2.trans (b := w3.drew) ⟨HKP3.out.os, HKP3.out.tape, HKP3.out.output, HKP3.out.size, HKP3.out.block⟩ (Kept2.of2 hr4)
  have c05 : w5.cell? ⟨sg, 0, none⟩ = some (.iface 48 (.pointer (some ⟨kg, 0, none⟩))) := s0
  have HAB : Hid (0 < b2.length → ∀ ad, (some a2) = some ad → ad.block ≠ sg ∧ ad.block ≠ kg) := fun _ ad e => by cases e; rw [HA2.out]; exact HBK.out
  have HC : Hid _ := takeBlocks_md5 kg (eat mMix R1 (eat mMix l mInit)) (some a2) b2 (cap - n) w5.drew HCP2.out hb2b HK5.out (Bytes.same HB5.out rfl) (fun h ad e => (HAB.out (by omega) ad e).2)
  clear HS3 HK3 HB3 HKP3 HBY2 HC5 HBR hr4 hr5 s0 c30 hcp hsl c65 z65
  go_wp2_with fail
  go_region_held3 (fun w' => w'.cell? ⟨sg, 0, none⟩ = some (.iface 48 (.pointer (some ⟨kg, 0, none⟩)))) (go_keep)
    (first
      | (go_at_call 37; refine Calls.mono HC.out ?_; rintro e w6 ⟨ra, rc, rfl, hr1, hr2, hr3, hr4, hr5⟩; have s0 : w6.cell? ⟨sg, 0, none⟩ = some (.iface 48 (.pointer (some ⟨kg, 0, none⟩))) := (World.cell?_of_block (w := w5.drew) (a := ⟨sg, 0, none⟩) (hr4.block sg HS5.out.lt (by simpa using hne))).trans c05; have HL1 : Hid (Bytes w5.drew ra (rest b2) ∧ (∀ ad, ra = some ad → ∃ ad0, (some a2) = some ad0 ∧ ad.block = ad0.block) ∧ w5.drew.grownBy w6 (some kg) ∧ Wds w6 kg 72 (eat mMix b2 (eat mMix R1 (eat mMix l mInit))).toL) := ⟨hr1, hr2, hr4, hr5⟩; clear hr1 hr2 hr3 hr4 hr5)
      | (refine step_copy_in rfl (.tmp 48) (.tmp 54) rfl sg 1 64 64 rfl ra (rest b2) (b2.length % 64) rc (rest_length b2) rfl (Bytes.grown HL1.out.1 HL1.out.2.2.1 (fun h ad e => by obtain ⟨ad0, e0, eb⟩ := HL1.out.2.1 ad e; rw [eb]; exact (HAB.out (by rw [rest_length] at h; omega) ad0 e0).2)) (Value.iface 48 (.pointer (some ⟨kg, 0, none⟩)) :: (bcs R1 ++ [Value.int .i64 (N : Int)])) 60 (Strm.other (w := w5.drew) HS5.out (HL1.out.2.2.1.block sg HS5.out.lt (by simpa using hne))) (by simp [bcs_length, HR1.out]; omega) ?_; intro w7 hh3 hg3; have s1 : w7.cell? ⟨sg, 0, none⟩ = some (.iface 48 (.pointer (some ⟨kg, 0, none⟩))) := kind_spliced (off := 0) hh3.out))
  refine bodyPost_end (results_none rfl _ _ _) rfl ?_
  obtain ⟨hk2, hw7, R', hR', hRt', hS'⟩ := md5_last sg kg (eat mMix R1 (eat mMix l mInit)) N R1 (some a2) b2 (cap - n) w5.drew hne HCP2.out hb2b HK5.out HR1.out HS5.out (Bytes.same HB5.out rfl) HAB.out w6 w7 ra rc HL1.out.1 HL1.out.2.1 HL1.out.2.2.1 HL1.out.2.2.2 hh3.out hg3
  refine ⟨rfl, ⟨hne, ?_, R', hR', ?_, ?_⟩, Kept2.trans (b := w5.drew) ⟨HKP5.out.os, HKP5.out.tape, HKP5.out.output, HKP5.out.size, HKP5.out.block⟩ hk2⟩
  · rw [HEQ.out.1]
    exact hw7
  · rw [HEQ.out.2.1, HEQ.out.2.2]
    exact hRt'
  · rw [← HN.out]
    exact hS'

theorem md5Write_any (sg kg : Nat) (l : List UInt8) (a : Option Addr) (b : List UInt8) (cap : Nat) (w : World) (hI : SImd5 w sg kg l) (hcap : b.length ≤ cap) (hl : l.length + b.length ≤ 281474976710656) (hb : Bytes w a b) (hab : 0 < b.length → ∀ ad, a = some ad → ad.block ≠ sg ∧ ad.block ≠ kg) :
    Calls Try.prog 19 #[.pointer (some ⟨sg, 0, none⟩), .slice a b.length cap] w fun e w' => e = .returned (.tuple #[]) ∧ SImd5 w' sg kg (l ++ b) ∧ Kept2 sg kg w w' := by
  by_cases h0 : l.length % 64 = 0
  · exact md5Write_0 sg kg l a b cap w hI hcap hl hb hab h0
  · by_cases h1 : l.length % 64 + b.length < 64
    · exact md5Write_1 sg kg l a b cap w hI hl hb hab (by omega) h1
    · exact md5Write_2 sg kg l a b cap w hI hcap hl hb hab (by omega) (by omega)
set_option maxHeartbeats 4000000 in
set_option maxRecDepth 4000 in
theorem shaWrite_1 (sg kg : Nat) (l : List UInt8) (a : Option Addr) (b : List UInt8) (cap : Nat) (w : World) (hI : SIsha w sg kg l) (hl : l.length + b.length ≤ 281474976710656) (hb : Bytes w a b) (hab : 0 < b.length → ∀ ad, a = some ad → ad.block ≠ sg ∧ ad.block ≠ kg) (h0 : 0 < l.length % 64) (h1 : l.length % 64 + b.length < 64) :
    Calls Try.prog 19 #[.pointer (some ⟨sg, 0, none⟩), .slice a b.length cap] w fun e w' => e = .returned (.tuple #[]) ∧ SIsha w' sg kg (l ++ b) ∧ Kept2 sg kg w w' := by
  obtain ⟨hne, hK, R, hR, hRt, hS⟩ := hI
  have c65 := hS.size hR
  have z65 := hS.frozen 65
  obtain ⟨N, hN⟩ : ∃ N, N = (l ++ b).length := ⟨_, rfl⟩
  have HN : Hid (N = (l ++ b).length) := hN
  rw [List.length_append] at hN
  obtain ⟨H, hH⟩ : ∃ H, H = l.length % 64 := ⟨_, rfl⟩
  have HH : Hid (H = l.length % 64) := hH
  have hHi : (l.length : Int) % 64 = (H : Int) := by omega
  have hH0 : (0 : Int) < (H : Int) := by omega
  have hH1 : (H : Int) < 64 := by omega
  have hHn : H < 64 := by omega
  have hHb : (H : Int) + (b.length : Int) < 64 := by omega
  have hsum : ((l.length : Int) + (b.length : Int)) = (N : Int) := by omega
  have hS1 : Strm (w.setCell ⟨sg, 65, none⟩ (.int .i64 (N : Int))) sg (.iface 45 (.pointer (some ⟨kg, 0, none⟩))) R N := hS.resize hR _
  have hK1 : Wds (w.setCell ⟨sg, 65, none⟩ (.int .i64 (N : Int))) kg 65 (eat sMix l sInit).toL := hK.setCell (by simpa using hne.symm) _
  have hg1 : w.grownBy (w.setCell ⟨sg, 65, none⟩ (.int .i64 (N : Int))) (some sg) := grown_setCell (p := ⟨sg, 65, none⟩) (grown_refl w _) rfl _
  have hb1 : Bytes (w.setCell ⟨sg, 65, none⟩ (.int .i64 (N : Int))) a b := hb.grown hg1 (fun h ad e => (hab h ad e).1)
  have HS1 : Hid (Strm (w.setCell ⟨sg, 65, none⟩ (.int .i64 (N : Int))) sg (.iface 45 (.pointer (some ⟨kg, 0, none⟩))) R N) := hS1
  have HK1 : Hid (Wds (w.setCell ⟨sg, 65, none⟩ (.int .i64 (N : Int))) kg 65 (eat sMix l sInit).toL) := hK1
  have HG1 : Hid (w.grownBy (w.setCell ⟨sg, 65, none⟩ (.int .i64 (N : Int))) (some sg)) := hg1
  have HB1 : Hid (Bytes (w.setCell ⟨sg, 65, none⟩ (.int .i64 (N : Int))) a b) := hb1
  have HRT : Hid (R.take H = rest l) := by rw [HH.out]; exact hRt
  have HR : Hid (R.length = 64) := hR
  have hNb : (N : Int) ≤ 281474976710656 := by omega
  have hlb : (l.length : Int) ≤ 281474976710656 := by omega
  have HBL : Hid (H + b.length < 64) := by show _ < _; omega
  have htk : b.take (64 - H) = b := List.take_of_length_le (by omega)
  have HTK : Hid (b.take (64 - H) = b) := htk
  clear hS hK hS1 hK1 hg1 hb1 hb hRt hab hN hR hl hH h0 h1 htk
  have hsl : ∀ wx, (Instr.sliceAt 42 (.pointer (some ⟨sg, 1, none⟩)) (some (.int .i64 (H : Int))) none none).run Try.prog wx = .ok (.slice (some ⟨sg, 1 + H, none⟩) (64 - H) (64 - H)) wx := fun wx => slice_room sg H wx hHn
  obtain ⟨w3, hcp, hh3, hg3⟩ := copy_run (w.setCell ⟨sg, 65, none⟩ (.int .i64 (N : Int))) 3 sg (1 + H) (64 - H) (64 - H) a b cap HB1.out (Value.iface 45 (.pointer (some ⟨kg, 0, none⟩)) :: (bcs R ++ [Value.int .i64 (N : Int)])) 60 HS1.out (by rw [HTK.out]; have h1 := HR.out; have h2 := HBL.out; simp only [List.length_cons, List.length_append, bcs_length, List.length_nil]; omega)
  rw [HTK.out] at hcp hh3
  unfold goInt at hcp
  have HF : Hid (SIsha w3 sg kg (l ++ b) ∧ Kept2 sg kg w w3) := by
    have h1 := HR.out
    have h2 := HBL.out
    have h3 := HH.out
    have hlen : (l ++ b).length % 64 = H + b.length := by rw [List.length_append]; omega
    have hrl : (rest l).length = H := by rw [rest_length]; omega
    have hshort : (rest l ++ b).length < 64 := by rw [List.length_append, hrl]; exact h2
    rw [splice_str _ _ _ _ _ h1 (by omega)] at hh3
    refine ⟨⟨hne, ?_, splice R H b, ?_, ?_, ?_⟩, (Kept2.of1 HG1.out).trans (Kept2.of1 hg3)⟩
    · rw [eat_app, eat_short _ _ _ hshort]
      exact HK1.out.grown hg3 (by simpa using hne.symm)
    · rw [length_splice _ _ _ (by omega), h1]
    · rw [hlen, rest_app, rest_short _ hshort, ← HRT.out]
      have hs3 : splice R H b = (R.take H ++ b) ++ R.drop (H + b.length) := by simp [splice]
      rw [hs3, List.take_append_of_le_length (by simp; omega), List.take_of_length_le (by simp; omega)]
    · rw [← HN.out]
      exact hh3
  clear hh3 hg3 HS1 HK1 HG1 HB1 HRT
  go_enter Try.func19, Try.ntmps19
  go_wp2
  refine bodyPost_ret (results_none rfl _ _ _) rfl ?_
  exact ⟨rfl, HF.out⟩

set_option maxHeartbeats 8000000 in
set_option maxRecDepth 8000 in
theorem shaWrite_2 (sg kg : Nat) (l : List UInt8) (a : Option Addr) (b : List UInt8) (cap : Nat) (w : World) (hI : SIsha w sg kg l) (hcap : b.length ≤ cap) (hl : l.length + b.length ≤ 281474976710656) (hb : Bytes w a b) (hab : 0 < b.length → ∀ ad, a = some ad → ad.block ≠ sg ∧ ad.block ≠ kg) (h0 : 0 < l.length % 64) (h1 : 64 ≤ l.length % 64 + b.length) :
    Calls Try.prog 19 #[.pointer (some ⟨sg, 0, none⟩), .slice a b.length cap] w fun e w' => e = .returned (.tuple #[]) ∧ SIsha w' sg kg (l ++ b) ∧ Kept2 sg kg w w' := by
  obtain ⟨hne, hK, R, hR, hRt, hS⟩ := hI
  have c65 := hS.size hR
  have z65 := hS.frozen 65
  obtain ⟨N, hN⟩ : ∃ N, N = (l ++ b).length := ⟨_, rfl⟩
  have HN : Hid (N = (l ++ b).length) := hN
  rw [List.length_append] at hN
  obtain ⟨H, hH⟩ : ∃ H, H = l.length % 64 := ⟨_, rfl⟩
  obtain ⟨n, hn⟩ : ∃ n, n = 64 - H := ⟨_, rfl⟩
  have hHi : (l.length : Int) % 64 = (H : Int) := by omega
  have hH0 : (0 : Int) < (H : Int) := by omega
  have hHn : H < 64 := by omega
  have hn64 : (H : Int) + (n : Int) = 64 := by omega
  have hnb : n ≤ b.length := by omega
  have hn0 : 0 < n := by omega
  have hbpos : 0 < b.length := by omega
  obtain ⟨ab, ao, rfl, habl, habc⟩ := hb.at hbpos
  have hsum : ((l.length : Int) + (b.length : Int)) = (N : Int) := by omega
  have hS1 : Strm (w.setCell ⟨sg, 65, none⟩ (.int .i64 (N : Int))) sg (.iface 45 (.pointer (some ⟨kg, 0, none⟩))) R N := hS.resize hR _
  have hK1 : Wds (w.setCell ⟨sg, 65, none⟩ (.int .i64 (N : Int))) kg 65 (eat sMix l sInit).toL := hK.setCell (by simpa using hne.symm) _
  have hg1 : w.grownBy (w.setCell ⟨sg, 65, none⟩ (.int .i64 (N : Int))) (some sg) := grown_setCell (p := ⟨sg, 65, none⟩) (grown_refl w _) rfl _
  have hblk : ab ≠ sg ∧ ab ≠ kg := hab hbpos _ rfl
  have hb1 : Bytes (w.setCell ⟨sg, 65, none⟩ (.int .i64 (N : Int))) (some ⟨ab, ao, none⟩) b := hb.grown hg1 (fun h ad e => (hab h ad e).1)
  have hxl : (b.take n).length = n := by rw [List.length_take]; omega
  obtain ⟨w3, hcp, hh3, hg3⟩ := copy_run (w.setCell ⟨sg, 65, none⟩ (.int .i64 (N : Int))) 3 sg (1 + H) n n (some ⟨ab, ao, none⟩) b cap hb1 (Value.iface 45 (.pointer (some ⟨kg, 0, none⟩)) :: (bcs R ++ [Value.int .i64 (N : Int)])) 60 hS1 (by rw [hxl]; simp only [List.length_cons, List.length_append, bcs_length, List.length_nil]; omega)
  rw [hxl] at hcp
  unfold goInt at hcp
  rw [splice_str _ _ _ _ _ hR (by omega)] at hh3
  obtain ⟨R1, hR1⟩ : ∃ R1, R1 = splice R H (b.take n) := ⟨_, rfl⟩
  rw [← hR1] at hh3
  have hrl : R.take H = rest l := by rw [hH]; exact hRt
  have hR1e : R1 = rest l ++ b.take n := by
    have hs3 : splice R H (b.take n) = (R.take H ++ b.take n) ++ R.drop (H + (b.take n).length) := by simp [splice]
    rw [hR1, hs3, hrl, hxl, List.drop_eq_nil_of_le (by omega), List.append_nil]
  have hR1l : R1.length = 64 := by rw [hR1, length_splice _ _ _ (by omega), hR]
  have hS3 : Strm w3 sg (.iface 45 (.pointer (some ⟨kg, 0, none⟩))) R1 N := hh3
  have hK3 : Wds w3 kg 65 (eat sMix l sInit).toL := hK1.grown hg3 (by simpa using hne.symm)
  have hb3 : Bytes w3 (some ⟨ab, ao, none⟩) b := hb1.grown hg3 (fun h ad e => by cases e; exact hblk.1)
  have hk3 : Kept2 sg kg w w3 := (Kept2.of1 hg1).trans (Kept2.of1 hg3)
  obtain ⟨b2, hb2⟩ : ∃ b2, b2 = b.drop n := ⟨_, rfl⟩
  have hb2l : b2.length = b.length - n := by rw [hb2, List.length_drop]
  obtain ⟨a2, ha2, ha2', hsl2⟩ := slice_behind ab ao b.length cap n hnb hcap
  rw [← hb2l] at hsl2
  have hby2 : ∀ wx, Bytes wx (some ⟨ab, ao, none⟩) b → Bytes wx (some a2) b2 := by
    intro wx hbx
    by_cases hc : n < b.length
    · rw [ha2' (by omega)]
      obtain ⟨b', o', he, hlt', hc'⟩ := hbx.at hbpos
      cases he
      refine .inr ⟨ab, ao + n, rfl, hlt', fun j hj => ?_⟩
      have := hc' (n + j) (by omega)
      rw [Nat.add_assoc, this]
      subst hb2
      simp
    · exact .inl (List.eq_nil_of_length_eq_zero (by omega))
  have HEQ : Hid (eat sMix (l ++ b) sInit = eat sMix b2 (eat sMix R1 (eat sMix l sInit)) ∧ rest (l ++ b) = rest b2 ∧ (l ++ b).length % 64 = b2.length % 64) := by
    have hsplit : rest l ++ b = R1 ++ b2 := by rw [hR1e, hb2, List.append_assoc, List.take_append_drop]
    refine ⟨?_, ?_, ?_⟩
    · rw [eat_app, hsplit, eat_app sMix R1, rest_full R1 hR1l, List.nil_append]
    · rw [rest_app, hsplit, rest_app, rest_full R1 hR1l, List.nil_append]
    · rw [List.length_append]; omega
  have HC5 : Hid (∀ wx, Wds wx kg 65 (eat sMix l sInit).toL → Bytes wx (some ⟨sg, 1, none⟩) R1 → Calls Try.prog 37 #[.iface 45 (.pointer (some ⟨kg, 0, none⟩)), .slice (some ⟨sg, 1, none⟩) 64 64] wx fun e w' => ∃ ra rc, e = .returned (.slice ra 0 rc) ∧ wx.grownBy w' (some kg) ∧ Wds w' kg 65 (eat sMix R1 (eat sMix l sInit)).toL) := by
    intro wx h2 h3
    have := takeBlocks_sha kg (eat sMix l sInit) (some ⟨sg, 1, none⟩) R1 64 wx (by omega) (by omega) h2 h3 (fun _ ad e => by cases e; exact hne)
    rw [hR1l] at this
    exact this.mono fun e w' ⟨ra, rc, he, _, _, _, h4, h5⟩ => ⟨ra, rc, he, h4, h5⟩
  have HBR : Hid (∀ wx, Strm wx sg (.iface 45 (.pointer (some ⟨kg, 0, none⟩))) R1 N → Bytes wx (some ⟨sg, 1, none⟩) R1) := fun wx h => h.bytes hR1l R1 (by rw [List.take_of_length_le (Nat.le_refl _)])
  have HS3 : Hid (Strm w3 sg (.iface 45 (.pointer (some ⟨kg, 0, none⟩))) R1 N) := hS3
  have HK3 : Hid (Wds w3 kg 65 (eat sMix l sInit).toL) := hK3
  have HB3 : Hid (Bytes w3 (some ⟨ab, ao, none⟩) b) := hb3
  have HKP3 : Hid (Kept2 sg kg w w3) := hk3
  have HBY2 : Hid (∀ wx, Bytes wx (some ⟨ab, ao, none⟩) b → Bytes wx (some a2) b2) := hby2
  have HA2 : Hid (a2.block = ab) := ha2
  have HBK : Hid (ab ≠ sg ∧ ab ≠ kg) := hblk
  have HR1 : Hid (R1.length = 64) := hR1l
  have HCP2 : Hid (b2.length ≤ cap - n) := by show _ ≤ _; omega
  have hb2b : b2.length ≤ 281474976710656 := by omega
  have hsl : ∀ wx, (Instr.sliceAt 42 (.pointer (some ⟨sg, 1, none⟩)) (some (.int .i64 (H : Int))) none none).run Try.prog wx = .ok (.slice (some ⟨sg, 1 + H, none⟩) n n) wx := fun wx => by rw [hn]; exact slice_room sg H wx hHn
  have c30 : w3.cell? ⟨sg, 0, none⟩ = some (.iface 45 (.pointer (some ⟨kg, 0, none⟩))) := hS3.kind
  have hNb : (N : Int) ≤ 281474976710656 := by omega
  have hlb : (l.length : Int) ≤ 281474976710656 := by omega
  have HN2 : Hid (b2.length = b.length - n) := hb2l
  clear hS hK hS1 hK1 hg1 hb1 hb hRt hab hN hR hl hH h0 h1 hn hnb hn0 hbpos habl habc hblk hxl hh3 hg3 hR1 hrl hR1e hR1l hS3 hK3 hb3 hk3 hb2 hb2l ha2 ha2' hby2 hHn
  go_enter Try.func19, Try.ntmps19
  go_wp2_with fail
  go_region_held3 (fun w' => w'.cell? ⟨sg, 0, none⟩ = some (.iface 45 (.pointer (some ⟨kg, 0, none⟩)))) (go_keep)
    (first
      | (go_at_call 37; refine Calls.mono (HC5.out w3.drew HK3.out (HBR.out w3.drew HS3.out)) ?_; rintro e w5 ⟨ra, rc, rfl, hr4, hr5⟩; have s0 : w5.cell? ⟨sg, 0, none⟩ = some (.iface 45 (.pointer (some ⟨kg, 0, none⟩))) := (World.cell?_of_block (w := w3.drew) (a := ⟨sg, 0, none⟩) (hr4.block sg HS3.out.lt (by simpa using hne))).trans c30))
  have HS5 : Hid (Strm w5 sg (.iface 45 (.pointer (some ⟨kg, 0, none⟩))) R1 N) := Strm.other (w := w3.drew) HS3.out (hr4.block sg HS3.out.lt (by simpa using hne))
  have HK5 : Hid (Wds w5 kg 65 (eat sMix R1 (eat sMix l sInit)).toL) := hr5
  have HB5 : Hid (Bytes w5 (some a2) b2) := HBY2.out _ (Bytes.grown (w := w3.drew) (Bytes.same HB3.out rfl) hr4 (fun _ ad e => by cases e; exact HBK.out.2))
  have HKP5 : Hid (Kept2 sg kg w w5) := Kept2.trans (b := w3.drew) ⟨HKP3.out.os, HKP3.out.tape, HKP3.out.output, HKP3.out.size, HKP3.out.block⟩ (Kept2.of2 hr4)
  have c05 : w5.cell? ⟨sg, 0, none⟩ = some (.iface 45 (.pointer (some ⟨kg, 0, none⟩))) := s0
  have HAB : Hid (0 < b2.length → ∀ ad, (some a2) = some ad → ad.block ≠ sg ∧ ad.block ≠ kg) := fun _ ad e => by cases e; rw [HA2.out]; exact HBK.out
  have HC : Hid _ := takeBlocks_sha kg (eat sMix R1 (eat sMix l sInit)) (some a2) b2 (cap - n) w5.drew HCP2.out hb2b HK5.out (Bytes.same HB5.out rfl) (fun h ad e => (HAB.out (by omega) ad e).2)
  clear HS3 HK3 HB3 HKP3 HBY2 HC5 HBR hr4 hr5 s0 c30 hcp hsl c65 z65
  go_wp2_with fail
  go_region_held3 (fun w' => w'.cell? ⟨sg, 0, none⟩ = some (.iface 45 (.pointer (some ⟨kg, 0, none⟩)))) (go_keep)
    (first
      | (go_at_call 37; refine Calls.mono HC.out ?_; rintro e w6 ⟨ra, rc, rfl, hr1, hr2, hr3, hr4, hr5⟩; have s0 : w6.cell? ⟨sg, 0, none⟩ = some (.iface 45 (.pointer (some ⟨kg, 0, none⟩))) := (World.cell?_of_block (w := w5.drew) (a := ⟨sg, 0, none⟩) (hr4.block sg HS5.out.lt (by simpa using hne))).trans c05; have HL1 : Hid (Bytes w5.drew ra (rest b2) ∧ (∀ ad, ra = some ad → ∃ ad0, (some a2) = some ad0 ∧ ad.block = ad0.block) ∧ w5.drew.grownBy w6 (some kg) ∧ Wds w6 kg 65 (eat sMix b2 (eat sMix R1 (eat sMix l sInit))).toL) := ⟨hr1, hr2, hr4, hr5⟩; clear hr1 hr2 hr3 hr4 hr5)
      | (refine step_copy_in rfl (.tmp 48) (.tmp 54) rfl sg 1 64 64 rfl ra (rest b2) (b2.length % 64) rc (rest_length b2) rfl (Bytes.grown HL1.out.1 HL1.out.2.2.1 (fun h ad e => by obtain ⟨ad0, e0, eb⟩ := HL1.out.2.1 ad e; rw [eb]; exact (HAB.out (by rw [rest_length] at h; omega) ad0 e0).2)) (Value.iface 45 (.pointer (some ⟨kg, 0, none⟩)) :: (bcs R1 ++ [Value.int .i64 (N : Int)])) 60 (Strm.other (w := w5.drew) HS5.out (HL1.out.2.2.1.block sg HS5.out.lt (by simpa using hne))) (by simp [bcs_length, HR1.out]; omega) ?_; intro w7 hh3 hg3; have s1 : w7.cell? ⟨sg, 0, none⟩ = some (.iface 45 (.pointer (some ⟨kg, 0, none⟩))) := kind_spliced (off := 0) hh3.out))
  refine bodyPost_end (results_none rfl _ _ _) rfl ?_
  obtain ⟨hk2, hw7, R', hR', hRt', hS'⟩ := sha_last sg kg (eat sMix R1 (eat sMix l sInit)) N R1 (some a2) b2 (cap - n) w5.drew hne HCP2.out hb2b HK5.out HR1.out HS5.out (Bytes.same HB5.out rfl) HAB.out w6 w7 ra rc HL1.out.1 HL1.out.2.1 HL1.out.2.2.1 HL1.out.2.2.2 hh3.out hg3
  refine ⟨rfl, ⟨hne, ?_, R', hR', ?_, ?_⟩, Kept2.trans (b := w5.drew) ⟨HKP5.out.os, HKP5.out.tape, HKP5.out.output, HKP5.out.size, HKP5.out.block⟩ hk2⟩
  · rw [HEQ.out.1]
    exact hw7
  · rw [HEQ.out.2.1, HEQ.out.2.2]
    exact hRt'
  · rw [← HN.out]
    exact hS'

theorem shaWrite_any (sg kg : Nat) (l : List UInt8) (a : Option Addr) (b : List UInt8) (cap : Nat) (w : World) (hI : SIsha w sg kg l) (hcap : b.length ≤ cap) (hl : l.length + b.length ≤ 281474976710656) (hb : Bytes w a b) (hab : 0 < b.length → ∀ ad, a = some ad → ad.block ≠ sg ∧ ad.block ≠ kg) :
    Calls Try.prog 19 #[.pointer (some ⟨sg, 0, none⟩), .slice a b.length cap] w fun e w' => e = .returned (.tuple #[]) ∧ SIsha w' sg kg (l ++ b) ∧ Kept2 sg kg w w' := by
  by_cases h0 : l.length % 64 = 0
  · exact shaWrite_0 sg kg l a b cap w hI hcap hl hb hab h0
  · by_cases h1 : l.length % 64 + b.length < 64
    · exact shaWrite_1 sg kg l a b cap w hI hl hb hab (by omega) h1
    · exact shaWrite_2 sg kg l a b cap w hI hcap hl hb hab (by omega) (by omega)
end Go.Proofs.Ytdgoepnopenpkaa
