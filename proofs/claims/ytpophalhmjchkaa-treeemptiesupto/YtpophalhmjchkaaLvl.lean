/-
  The law's level by its contract.
-/
import Derived.Test.YtpophalhmjchkaaBtw
namespace Go.Proofs.Ytpophalhmjchkaa
open Go.RowKit

def leastN (leaf : Bool) (d : Nat) : Nat := if d = 0 then (if leaf then 0 else 1) else (if leaf then 4 else 3)
def mostN (leaf : Bool) : Nat := if leaf then 8 else 7
theorem least_split {leaf : Bool} {d nk : Nat} (h : leastN leaf d ≤ nk) : (d = 0 ∧ (if leaf then 0 else 1) ≤ nk) ∨ (d ≠ 0 ∧ (if leaf then 4 else 3) ≤ nk) := by
  by_cases hd : d = 0
  · left; rw [leastN, if_pos hd] at h; exact ⟨hd, h⟩
  · right; rw [leastN, if_neg hd] at h; exact ⟨hd, h⟩
/-- What level asks. -/
structure LP (ls : List Kss) (d : Nat) : Prop where
  lt : d < ls.length
  sz : ∀ n (hn : n < ls[d].length), leastN (decide (d + 1 = ls.length)) d ≤ ls[d][n].length ∧ ls[d][n].length ≤ mostN (decide (d + 1 = ls.length))
  so : ∀ n (hn : n < ls[d].length) i (h1 : 1 ≤ i) (hi : i < ls[d][n].length), klt ls[d][n][i - 1] ls[d][n][i]
  bt : d + 1 < ls.length → ∀ n (hn : n < ls[d].length) i (hi : i < ls[d][n].length), BP ls d (firstN ls[d] n + i) ls[d][n][i]
  ch : ∀ h : d + 1 < ls.length, firstN ls[d] ls[d].length = ls[d + 1].length

set_option maxHeartbeats 8000000 in
set_option maxRecDepth 40000 in
theorem level_leaf (u : Value) (ls : List Kss) (d : Nat) (B : Nat) (w : World) (hv : Lvs w B u ls) (hs : Sml ls) (hp : LP ls d) (hleaf : d + 1 = ls.length) :
    Calls Try.prog 29 #[u, .int .i64 (d : Int)] w fun e w' => e = .returned (.bool true) ∧ Below w.heap.size w w' := by
  obtain ⟨N, hN⟩ : ∃ N, N = ls.length := ⟨_, rfl⟩
  have hlt := hp.lt
  obtain ⟨g, uc, v1, eu, k1, hr1⟩ := hv.at hlt
  have hv0 := hv
  rw [← hN] at eu hlt
  subst eu
  obtain ⟨a1, c1, rfl⟩ := hr1.sl
  obtain ⟨nn, hnn⟩ : ∃ nn, nn = ls[d].length := ⟨_, rfl⟩
  rw [← hnn] at k1
  have hn5 : nn ≤ 5000 := by rw [hnn]; exact (hs.2 _ (List.getElem_mem _)).1
  have hN5 : N ≤ 1000 := by rw [hN]; exact hs.1
  obtain ⟨F, hF⟩ : ∃ F : Nat → Nat, F = firstN ls[d] := ⟨_, rfl⟩
  have HF : Hid (∀ n, F n ≤ 600000) := (by
    intro n; rw [hF]; exact firstN_any (hs.2 _ (List.getElem_mem _)).1 (hs.2 _ (List.getElem_mem _)).2 n)
  have HRO : Hid (∀ n, n < nn → ∃ gl nk ka kc, a1 = some ⟨gl, 0, none⟩ ∧ w.cell? ⟨gl, n, none⟩ = some (.slice ka nk kc) ∧ leastN true d ≤ nk ∧ nk ≤ mostN true ∧ F (n + 1) = F n + (nk + 1) ∧ (∀ i, 1 ≤ i → i < nk → ∃ gk x y, ka = some ⟨gk, 0, none⟩ ∧ w.cell? ⟨gk, i, none⟩ = some (.string x) ∧ w.cell? ⟨gk, i - 1, none⟩ = some (.string y) ∧ Op.bytesLess y.toList x.toList = true ∧ Op.bytesLess x.toList y.toList = false ∧ (x.toList == y.toList) = false) ∧ True) := (by
    intro n hn
    have hn2 : n < ls[d].length := by omega
    obtain ⟨gl, gc, x, e, h1, h2⟩ := hr1.at hn2
    simp only [Value.slice.injEq] at e
    obtain ⟨ka, kc, ex⟩ := h2.sl
    have hsz := hp.sz n hn2
    rw [show decide (d + 1 = ls.length) = true from by simp; omega] at hsz
    refine ⟨gl, _, ka, kc, e.1, by rw [h1, ex], hsz.1, hsz.2, by rw [hF]; exact firstN_succ hn2, fun i h3 h4 => ?_, trivial⟩
    obtain ⟨gk, gc2, e3, h5⟩ := h2.at h4
    obtain ⟨gk2, gc3, e4, h6⟩ := h2.at (i := i - 1) (by omega)
    rw [ex] at e3 e4
    simp only [Value.slice.injEq] at e3 e4
    have e5 := e4.1
    rw [e3.1] at e5
    simp only [Option.some.injEq, Addr.mk.injEq, and_true] at e5
    subst e5
    have hk := hp.so n hn2 i h3 h4
    refine ⟨gk, _, _, e3.1, h5, h6, by rw [less_klt]; exact decide_eq_true hk, by rw [less_klt]; exact decide_eq_false (klt_asymm hk), ?_⟩
    rw [eq_ba]
    exact decide_eq_false (fun e => by rw [e] at hk; exact klt_irrefl _ hk))
  have HF0 : Hid (F 0 = 0) := (by show _ = _; rw [hF]; exact firstN_zero _)

  have HLN : Hid (d + 1 = N) := (show d + 1 = N by omega)
  clear hv hs hp hr1 hN hnn hF hv0 hleaf
  have hli := HLN.out
  have hdN : (d : Int) < (N : Int) := by omega
  have hdl : ((d : Int) == (N : Int) - 1) = true := by simp; omega
  go_enter Try.func29, Try.ntmps29
  go_wp2
  go_loopw [6, 7] (fun cv nv wr => ∃ n ch : Nat, nv = .int .i64 n ∧ cv = .int .i64 ch ∧ n ≤ nn ∧ ch = 0 ∧ Below w.heap.size w wr) (fun _ nv _ => nn - (intOf nv).toNat)
  case atStart => exact ⟨0, 0, rfl, rfl, Nat.zero_le _, rfl, Below.refl _ _⟩
  case round =>
    obtain ⟨n, ch, rfl, rfl, hn, hch, hbw⟩ := hrel
    have hck : wr.cell? ⟨g, d, none⟩ = some (.slice a1 nn c1) := (hbw.cell (p := ⟨g, d, none⟩) (cell_lt k1)).trans k1
    by_cases hlt2 : n < nn
    · obtain ⟨gl, nk, ka, kc, rfl, hc2, hle, hge, hfs, hso, hbt⟩ := HRO.out n hlt2
      have hc3 : wr.cell? ⟨gl, n, none⟩ = some (.slice ka nk kc) := (hbw.cell (p := ⟨gl, n, none⟩) (cell_lt hc2)).trans hc2
      have hni : (n : Int) < (nn : Int) := by omega
      have HSO : Hid (∀ i, 1 ≤ i → i < nk → ∃ gk x y, ka = some ⟨gk, 0, none⟩ ∧ (∀ wx, Below w.heap.size w wx → wx.cell? ⟨gk, i, none⟩ = some (.string x) ∧ wx.cell? ⟨gk, i - 1, none⟩ = some (.string y)) ∧ Op.bytesLess y.toList x.toList = true ∧ Op.bytesLess x.toList y.toList = false ∧ (x.toList == y.toList) = false) := (by
        intro i h1 h2
        obtain ⟨gk, x, y, q1, q2, q3, q4⟩ := hso i h1 h2
        exact ⟨gk, x, y, q1, fun wx hb => ⟨(hb.cell (p := ⟨gk, i, none⟩) (cell_lt q2)).trans q2, (hb.cell (p := ⟨gk, i - 1, none⟩) (cell_lt q3)).trans q3⟩, q4⟩)
      have HBT : Hid _ := hbt
      have HBW : Hid (Below w.heap.size w wr) := hbw
      have HFS : Hid (ch = 0 ∧ F (n + 1) = F n + (nk + 1)) := ⟨hch, hfs⟩
      have hnk : nk ≤ 8 := by simp [mostN] at hge; omega
      have HLE : Hid (leastN true d ≤ nk ∧ nk ≤ mostN true) := ⟨hle, hge⟩
      have hchb : ch ≤ 600000 := by omega
      clear hso hbt hbw hch hfs hle hge hc2
      have hlow : (d = 0 ∧ 0 ≤ nk) ∨ (d ≠ 0 ∧ 4 ≤ nk) := least_split (leaf := true) HLE.out.1
      have hup : nk ≤ 8 := by have h1 := HLE.out.2; simpa [mostN] using h1
      have hui : ¬ (8 : Int) < (nk : Int) := by omega
      rcases hlow with ⟨hd0, hnl⟩ | ⟨hd0, hnl⟩
      all_goals first
        | (have hdz : ((d : Int) == 0) = true := by simp; omega)
        | (have hdz : ((d : Int) == 0) = false := by simp; omega)
      · have hnli : ¬ (nk : Int) < (0 : Int) := by omega
        clear hd0 hnl hup
        go_wp2
        go_loopw [11] (fun iv wx => ∃ j : Nat, iv = .int .i64 (j : Int) ∧ 1 ≤ j ∧ (j ≤ nk ∨ j = 1) ∧ Below w.heap.size w wx) (fun iv _ => nk - (intOf iv).toNat)
        case atStart => exact ⟨1, rfl, Nat.le_refl _, .inr rfl, HBW.out⟩
        case round =>
          obtain ⟨j, rfl, hj1, hi, hbx⟩ := hrel
          by_cases hik : j < nk
          · obtain ⟨gk, x, y, rfl, hxy, l1, l2, l3⟩ := HSO.out j hj1 hik
            have hii : (j : Int) < (nk : Int) := by omega
            obtain ⟨i, hij⟩ : ∃ i, i = j - 1 := ⟨_, rfl⟩
            have hwj : IntKind.i64.wrap ((j : Int) - 1) = (i : Int) := by rw [IntKind.wrap_i64]; omega
            have hii2 : (i : Int) < (nk : Int) := by omega
            obtain ⟨c4, c5⟩ := hxy wr.drew hbx.drew
            rw [← hij] at c5
            have HX : Hid (Below w.heap.size w wr) := hbx
            clear hxy hbx hij
            go_wp2
            go_region_held3 (fun w' => w'.cell? ⟨gk, j, none⟩ = some (.string x) ∧ w'.cell? ⟨gk, i, none⟩ = some (.string y)) (go_keep) (fail)
            go_wp2
            go_roundw
            case rel => exact ⟨j + 1, by go_num, by omega, by omega, HX.out.drew⟩
            case measure => simp [intOf]; omega
          · have hii : ¬ (j : Int) < (nk : Int) := by omega
            have HX : Hid (Below w.heap.size w wr) := hbx
            clear hbx
            go_wp2
            go_roundw
            case rel => exact ⟨n + 1, ch, by go_num, rfl, by omega, HFS.out.1, HX.out⟩
            case measure => simp [intOf]; omega
      · have hnli : ¬ (nk : Int) < (4 : Int) := by omega
        clear hd0 hnl hup
        go_wp2
        go_loopw [11] (fun iv wx => ∃ j : Nat, iv = .int .i64 (j : Int) ∧ 1 ≤ j ∧ (j ≤ nk ∨ j = 1) ∧ Below w.heap.size w wx) (fun iv _ => nk - (intOf iv).toNat)
        case atStart => exact ⟨1, rfl, Nat.le_refl _, .inr rfl, HBW.out⟩
        case round =>
          obtain ⟨j, rfl, hj1, hi, hbx⟩ := hrel
          by_cases hik : j < nk
          · obtain ⟨gk, x, y, rfl, hxy, l1, l2, l3⟩ := HSO.out j hj1 hik
            have hii : (j : Int) < (nk : Int) := by omega
            obtain ⟨i, hij⟩ : ∃ i, i = j - 1 := ⟨_, rfl⟩
            have hwj : IntKind.i64.wrap ((j : Int) - 1) = (i : Int) := by rw [IntKind.wrap_i64]; omega
            have hii2 : (i : Int) < (nk : Int) := by omega
            obtain ⟨c4, c5⟩ := hxy wr.drew hbx.drew
            rw [← hij] at c5
            have HX : Hid (Below w.heap.size w wr) := hbx
            clear hxy hbx hij
            go_wp2
            go_region_held3 (fun w' => w'.cell? ⟨gk, j, none⟩ = some (.string x) ∧ w'.cell? ⟨gk, i, none⟩ = some (.string y)) (go_keep) (fail)
            go_wp2
            go_roundw
            case rel => exact ⟨j + 1, by go_num, by omega, by omega, HX.out.drew⟩
            case measure => simp [intOf]; omega
          · have hii : ¬ (j : Int) < (nk : Int) := by omega
            have HX : Hid (Below w.heap.size w wr) := hbx
            clear hbx
            go_wp2
            go_roundw
            case rel => exact ⟨n + 1, ch, by go_num, rfl, by omega, HFS.out.1, HX.out⟩
            case measure => simp [intOf]; omega
    · have hni : ¬ (n : Int) < (nn : Int) := by omega
      have HB : Hid (Below w.heap.size w wr) := hbw
      clear hbw HRO
      go_wp2
      go_ret
      exact ⟨rfl, HB.out⟩

set_option maxHeartbeats 8000000 in
set_option maxRecDepth 40000 in
theorem level_inner (u : Value) (ls : List Kss) (d : Nat) (B : Nat) (w : World) (hv : Lvs w B u ls) (hs : Sml ls) (hp : LP ls d) (hleaf : d + 1 < ls.length) :
    Calls Try.prog 29 #[u, .int .i64 (d : Int)] w fun e w' => e = .returned (.bool true) ∧ Below w.heap.size w w' := by
  obtain ⟨N, hN⟩ : ∃ N, N = ls.length := ⟨_, rfl⟩
  have hlt := hp.lt
  obtain ⟨g, uc, v1, eu, k1, hr1⟩ := hv.at hlt
  have hv0 := hv
  rw [← hN] at eu hlt
  subst eu
  obtain ⟨a1, c1, rfl⟩ := hr1.sl
  obtain ⟨nn, hnn⟩ : ∃ nn, nn = ls[d].length := ⟨_, rfl⟩
  rw [← hnn] at k1
  have hn5 : nn ≤ 5000 := by rw [hnn]; exact (hs.2 _ (List.getElem_mem _)).1
  have hN5 : N ≤ 1000 := by rw [hN]; exact hs.1
  obtain ⟨F, hF⟩ : ∃ F : Nat → Nat, F = firstN ls[d] := ⟨_, rfl⟩
  have HF : Hid (∀ n, F n ≤ 600000) := (by
    intro n; rw [hF]; exact firstN_any (hs.2 _ (List.getElem_mem _)).1 (hs.2 _ (List.getElem_mem _)).2 n)
  have HRO : Hid (∀ n, n < nn → ∃ gl nk ka kc, a1 = some ⟨gl, 0, none⟩ ∧ w.cell? ⟨gl, n, none⟩ = some (.slice ka nk kc) ∧ leastN false d ≤ nk ∧ nk ≤ mostN false ∧ F (n + 1) = F n + (nk + 1) ∧ (∀ i, 1 ≤ i → i < nk → ∃ gk x y, ka = some ⟨gk, 0, none⟩ ∧ w.cell? ⟨gk, i, none⟩ = some (.string x) ∧ w.cell? ⟨gk, i - 1, none⟩ = some (.string y) ∧ Op.bytesLess y.toList x.toList = true ∧ Op.bytesLess x.toList y.toList = false ∧ (x.toList == y.toList) = false) ∧ (∀ i, i < nk → ∃ gk x, ka = some ⟨gk, 0, none⟩ ∧ w.cell? ⟨gk, i, none⟩ = some (.string x) ∧ ∀ wx, Below w.heap.size w wx → Calls Try.prog 42 #[.slice (some ⟨g, 0, none⟩) N uc, .int .i64 (d : Int), .int .i64 ((F n + i : Nat) : Int), .string x] wx fun e w' => e = .returned (.bool true) ∧ Below wx.heap.size wx w')) := (by
    intro n hn
    have hn2 : n < ls[d].length := by omega
    obtain ⟨gl, gc, x, e, h1, h2⟩ := hr1.at hn2
    simp only [Value.slice.injEq] at e
    obtain ⟨ka, kc, ex⟩ := h2.sl
    have hsz := hp.sz n hn2
    rw [show decide (d + 1 = ls.length) = false from by simp; omega] at hsz
    have hbtw : ∀ i, i < ls[d][n].length → ∃ gk x, ka = some ⟨gk, 0, none⟩ ∧ w.cell? ⟨gk, i, none⟩ = some (.string x) ∧ ∀ wx, Below w.heap.size w wx → Calls Try.prog 42 #[.slice (some ⟨g, 0, none⟩) N uc, .int .i64 (d : Int), .int .i64 ((F n + i : Nat) : Int), .string x] wx fun e w' => e = .returned (.bool true) ∧ Below wx.heap.size wx w' := by
      intro i hi
      obtain ⟨gk, gc2, e3, h5⟩ := h2.at hi
      rw [ex] at e3
      simp only [Value.slice.injEq] at e3
      refine ⟨gk, _, e3.1, h5, fun wx hb => ?_⟩
      have hbp := hp.bt hleaf n hn2 i hi
      rw [← hF] at hbp
      exact between_any _ ls d _ _ B wx (hv0.below hb) hs hbp
    refine ⟨gl, _, ka, kc, e.1, by rw [h1, ex], hsz.1, hsz.2, by rw [hF]; exact firstN_succ hn2, fun i h3 h4 => ?_, hbtw⟩
    obtain ⟨gk, gc2, e3, h5⟩ := h2.at h4
    obtain ⟨gk2, gc3, e4, h6⟩ := h2.at (i := i - 1) (by omega)
    rw [ex] at e3 e4
    simp only [Value.slice.injEq] at e3 e4
    have e5 := e4.1
    rw [e3.1] at e5
    simp only [Option.some.injEq, Addr.mk.injEq, and_true] at e5
    subst e5
    have hk := hp.so n hn2 i h3 h4
    refine ⟨gk, _, _, e3.1, h5, h6, by rw [less_klt]; exact decide_eq_true hk, by rw [less_klt]; exact decide_eq_false (klt_asymm hk), ?_⟩
    rw [eq_ba]
    exact decide_eq_false (fun e => by rw [e] at hk; exact klt_irrefl _ hk))
  have HF0 : Hid (F 0 = 0) := (by show _ = _; rw [hF]; exact firstN_zero _)
  have HCH : Hid (∃ a2 c2 n2, w.cell? ⟨g, d + 1, none⟩ = some (.slice a2 n2 c2) ∧ n2 = F nn) := (by
    obtain ⟨g9, c9, v, e, h1, h2⟩ := hv0.at hleaf
    simp only [Value.slice.injEq, Option.some.injEq, Addr.mk.injEq] at e
    obtain ⟨⟨rfl, _⟩, _⟩ := e
    obtain ⟨a2, c2, ev⟩ := h2.sl
    exact ⟨a2, c2, _, by rw [h1, ev], by rw [hF, hnn]; exact (hp.ch hleaf).symm⟩)
  have HLN : Hid (d + 1 < N) := (show d + 1 < N by omega)
  clear hv hs hp hr1 hN hnn hF hv0 hleaf
  have hli := HLN.out
  have hdN : (d : Int) < (N : Int) := by omega
  have hdl : ((d : Int) == (N : Int) - 1) = false := by simp; omega
  have hd1 : (d : Int) + 1 < (N : Int) := by omega
  go_enter Try.func29, Try.ntmps29
  go_wp2
  go_loopw [6, 7] (fun cv nv wr => ∃ n ch : Nat, nv = .int .i64 n ∧ cv = .int .i64 ch ∧ n ≤ nn ∧ ch = F n ∧ Below w.heap.size w wr) (fun _ nv _ => nn - (intOf nv).toNat)
  case atStart => exact ⟨0, 0, rfl, rfl, Nat.zero_le _, HF0.out.symm, Below.refl _ _⟩
  case round =>
    obtain ⟨n, ch, rfl, rfl, hn, hch, hbw⟩ := hrel
    have hck : wr.cell? ⟨g, d, none⟩ = some (.slice a1 nn c1) := (hbw.cell (p := ⟨g, d, none⟩) (cell_lt k1)).trans k1
    by_cases hlt2 : n < nn
    · obtain ⟨gl, nk, ka, kc, rfl, hc2, hle, hge, hfs, hso, hbt⟩ := HRO.out n hlt2
      have hc3 : wr.cell? ⟨gl, n, none⟩ = some (.slice ka nk kc) := (hbw.cell (p := ⟨gl, n, none⟩) (cell_lt hc2)).trans hc2
      have hni : (n : Int) < (nn : Int) := by omega
      have HSO : Hid (∀ i, 1 ≤ i → i < nk → ∃ gk x y, ka = some ⟨gk, 0, none⟩ ∧ (∀ wx, Below w.heap.size w wx → wx.cell? ⟨gk, i, none⟩ = some (.string x) ∧ wx.cell? ⟨gk, i - 1, none⟩ = some (.string y)) ∧ Op.bytesLess y.toList x.toList = true ∧ Op.bytesLess x.toList y.toList = false ∧ (x.toList == y.toList) = false) := (by
        intro i h1 h2
        obtain ⟨gk, x, y, q1, q2, q3, q4⟩ := hso i h1 h2
        exact ⟨gk, x, y, q1, fun wx hb => ⟨(hb.cell (p := ⟨gk, i, none⟩) (cell_lt q2)).trans q2, (hb.cell (p := ⟨gk, i - 1, none⟩) (cell_lt q3)).trans q3⟩, q4⟩)
      have HBT : Hid _ := hbt
      have HBW : Hid (Below w.heap.size w wr) := hbw
      have HFS : Hid (ch = F n ∧ F (n + 1) = F n + (nk + 1)) := ⟨hch, hfs⟩
      have hnk : nk ≤ 8 := by simp [mostN] at hge; omega
      have HLE : Hid (leastN false d ≤ nk ∧ nk ≤ mostN false) := ⟨hle, hge⟩
      have hchb : ch ≤ 600000 := by rw [hch]; exact HF.out n
      clear hso hbt hbw hch hfs hle hge hc2
      have hlow : (d = 0 ∧ 1 ≤ nk) ∨ (d ≠ 0 ∧ 3 ≤ nk) := least_split (leaf := false) HLE.out.1
      have hup : nk ≤ 7 := by have h1 := HLE.out.2; simpa [mostN] using h1
      have hui : ¬ (7 : Int) < (nk : Int) := by omega
      rcases hlow with ⟨hd0, hnl⟩ | ⟨hd0, hnl⟩
      all_goals first
        | (have hdz : ((d : Int) == 0) = true := by simp; omega)
        | (have hdz : ((d : Int) == 0) = false := by simp; omega)
      · have hnli : ¬ (nk : Int) < (1 : Int) := by omega
        clear hd0 hnl hup
        go_wp2
        go_loopw [11] (fun iv wx => ∃ j : Nat, iv = .int .i64 (j : Int) ∧ 1 ≤ j ∧ (j ≤ nk ∨ j = 1) ∧ Below w.heap.size w wx) (fun iv _ => nk - (intOf iv).toNat)
        case atStart => exact ⟨1, rfl, Nat.le_refl _, .inr rfl, HBW.out⟩
        case round =>
          obtain ⟨j, rfl, hj1, hi, hbx⟩ := hrel
          by_cases hik : j < nk
          · obtain ⟨gk, x, y, rfl, hxy, l1, l2, l3⟩ := HSO.out j hj1 hik
            have hii : (j : Int) < (nk : Int) := by omega
            obtain ⟨i, hij⟩ : ∃ i, i = j - 1 := ⟨_, rfl⟩
            have hwj : IntKind.i64.wrap ((j : Int) - 1) = (i : Int) := by rw [IntKind.wrap_i64]; omega
            have hii2 : (i : Int) < (nk : Int) := by omega
            obtain ⟨c4, c5⟩ := hxy wr.drew hbx.drew
            rw [← hij] at c5
            have HX : Hid (Below w.heap.size w wr) := hbx
            clear hxy hbx hij
            go_wp2
            go_region_held3 (fun w' => w'.cell? ⟨gk, j, none⟩ = some (.string x) ∧ w'.cell? ⟨gk, i, none⟩ = some (.string y)) (go_keep) (fail)
            go_wp2
            go_roundw
            case rel => exact ⟨j + 1, by go_num, by omega, by omega, HX.out.drew⟩
            case measure => simp [intOf]; omega
          · have hii : ¬ (j : Int) < (nk : Int) := by omega
            have HX : Hid (Below w.heap.size w wr) := hbx
            clear hbx
            have HB2 : Hid (∀ i, i < nk → ∃ gk x, ka = some ⟨gk, 0, none⟩ ∧ ∀ wx, Below w.heap.size w wx → wx.cell? ⟨gk, i, none⟩ = some (.string x) ∧ Calls Try.prog 42 #[.slice (some ⟨g, 0, none⟩) N uc, .int .i64 (d : Int), .int .i64 ((ch : Int) + (i : Int)), .string x] wx fun e w' => e = .returned (.bool true) ∧ Below w.heap.size w w') := (by
              intro i hi
              obtain ⟨gk, x, q1, q2, q3⟩ := HBT.out i hi
              refine ⟨gk, x, q1, fun wx hb => ⟨(hb.cell (p := ⟨gk, i, none⟩) (cell_lt q2)).trans q2, ?_⟩⟩
              have h5 := q3 wx hb
              rw [← HFS.out.1, show ((ch + i : Nat) : Int) = (ch : Int) + (i : Int) from by omega] at h5
              refine Calls.mono h5 ?_
              rintro e w' ⟨e1, e2⟩
              exact ⟨e1, hb.trans (e2.mono hb.size)⟩)
            clear HBT HSO
            go_wp2
            go_loopw [12] (fun iv wx => ∃ i : Nat, iv = .int .i64 (i : Int) ∧ i ≤ nk ∧ Below w.heap.size w wx) (fun iv _ => nk - (intOf iv).toNat)
            case atStart => exact ⟨0, rfl, Nat.zero_le _, HX.out⟩
            case round =>
              obtain ⟨i, rfl, hi2, hbx⟩ := hrel
              clear HX
              by_cases hik2 : i < nk
              · obtain ⟨gk, x, rfl, hq⟩ := HB2.out i hik2
                obtain ⟨c6, hbtw⟩ := hq wr hbx
                have hii3 : (i : Int) < (nk : Int) := by omega
                clear hq hbx
                go_wp2_with (go_at_call 42; refine Calls.mono hbtw ?_; rintro e w7 ⟨rfl, hb7⟩)
                go_roundw
                case rel => exact ⟨i + 1, by go_num, by omega, hb7⟩
                case measure => simp [intOf]; omega
              · have hii3 : ¬ (i : Int) < (nk : Int) := by omega
                have HX2 : Hid (Below w.heap.size w wr) := hbx
                clear hbx
                go_wp2
                go_roundw
                case rel => exact ⟨n + 1, ch + nk + 1, by go_num, by go_num, by omega, by rw [HFS.out.2, HFS.out.1]; omega, HX2.out⟩
                case measure => simp [intOf]; omega
      · have hnli : ¬ (nk : Int) < (3 : Int) := by omega
        clear hd0 hnl hup
        go_wp2
        go_loopw [11] (fun iv wx => ∃ j : Nat, iv = .int .i64 (j : Int) ∧ 1 ≤ j ∧ (j ≤ nk ∨ j = 1) ∧ Below w.heap.size w wx) (fun iv _ => nk - (intOf iv).toNat)
        case atStart => exact ⟨1, rfl, Nat.le_refl _, .inr rfl, HBW.out⟩
        case round =>
          obtain ⟨j, rfl, hj1, hi, hbx⟩ := hrel
          by_cases hik : j < nk
          · obtain ⟨gk, x, y, rfl, hxy, l1, l2, l3⟩ := HSO.out j hj1 hik
            have hii : (j : Int) < (nk : Int) := by omega
            obtain ⟨i, hij⟩ : ∃ i, i = j - 1 := ⟨_, rfl⟩
            have hwj : IntKind.i64.wrap ((j : Int) - 1) = (i : Int) := by rw [IntKind.wrap_i64]; omega
            have hii2 : (i : Int) < (nk : Int) := by omega
            obtain ⟨c4, c5⟩ := hxy wr.drew hbx.drew
            rw [← hij] at c5
            have HX : Hid (Below w.heap.size w wr) := hbx
            clear hxy hbx hij
            go_wp2
            go_region_held3 (fun w' => w'.cell? ⟨gk, j, none⟩ = some (.string x) ∧ w'.cell? ⟨gk, i, none⟩ = some (.string y)) (go_keep) (fail)
            go_wp2
            go_roundw
            case rel => exact ⟨j + 1, by go_num, by omega, by omega, HX.out.drew⟩
            case measure => simp [intOf]; omega
          · have hii : ¬ (j : Int) < (nk : Int) := by omega
            have HX : Hid (Below w.heap.size w wr) := hbx
            clear hbx
            have HB2 : Hid (∀ i, i < nk → ∃ gk x, ka = some ⟨gk, 0, none⟩ ∧ ∀ wx, Below w.heap.size w wx → wx.cell? ⟨gk, i, none⟩ = some (.string x) ∧ Calls Try.prog 42 #[.slice (some ⟨g, 0, none⟩) N uc, .int .i64 (d : Int), .int .i64 ((ch : Int) + (i : Int)), .string x] wx fun e w' => e = .returned (.bool true) ∧ Below w.heap.size w w') := (by
              intro i hi
              obtain ⟨gk, x, q1, q2, q3⟩ := HBT.out i hi
              refine ⟨gk, x, q1, fun wx hb => ⟨(hb.cell (p := ⟨gk, i, none⟩) (cell_lt q2)).trans q2, ?_⟩⟩
              have h5 := q3 wx hb
              rw [← HFS.out.1, show ((ch + i : Nat) : Int) = (ch : Int) + (i : Int) from by omega] at h5
              refine Calls.mono h5 ?_
              rintro e w' ⟨e1, e2⟩
              exact ⟨e1, hb.trans (e2.mono hb.size)⟩)
            clear HBT HSO
            go_wp2
            go_loopw [12] (fun iv wx => ∃ i : Nat, iv = .int .i64 (i : Int) ∧ i ≤ nk ∧ Below w.heap.size w wx) (fun iv _ => nk - (intOf iv).toNat)
            case atStart => exact ⟨0, rfl, Nat.zero_le _, HX.out⟩
            case round =>
              obtain ⟨i, rfl, hi2, hbx⟩ := hrel
              clear HX
              by_cases hik2 : i < nk
              · obtain ⟨gk, x, rfl, hq⟩ := HB2.out i hik2
                obtain ⟨c6, hbtw⟩ := hq wr hbx
                have hii3 : (i : Int) < (nk : Int) := by omega
                clear hq hbx
                go_wp2_with (go_at_call 42; refine Calls.mono hbtw ?_; rintro e w7 ⟨rfl, hb7⟩)
                go_roundw
                case rel => exact ⟨i + 1, by go_num, by omega, hb7⟩
                case measure => simp [intOf]; omega
              · have hii3 : ¬ (i : Int) < (nk : Int) := by omega
                have HX2 : Hid (Below w.heap.size w wr) := hbx
                clear hbx
                go_wp2
                go_roundw
                case rel => exact ⟨n + 1, ch + nk + 1, by go_num, by go_num, by omega, by rw [HFS.out.2, HFS.out.1]; omega, HX2.out⟩
                case measure => simp [intOf]; omega
    · have hni : ¬ (n : Int) < (nn : Int) := by omega
      obtain ⟨a2, c2, n2, hc9, hn2⟩ := HCH.out
      have hc8 : wr.cell? ⟨g, d + 1, none⟩ = some (.slice a2 n2 c2) := (hbw.cell (p := ⟨g, d + 1, none⟩) (cell_lt hc9)).trans hc9
      obtain rfl : n = nn := by omega
      obtain rfl : ch = n2 := by rw [hch, hn2]
      have HB : Hid (Below w.heap.size w wr) := hbw
      clear hbw HRO hch hn2 hc9
      go_wp2
      go_ret
      exact ⟨rfl, HB.out⟩

theorem level_any (u : Value) (ls : List Kss) (d : Nat) (B : Nat) (w : World) (hv : Lvs w B u ls) (hs : Sml ls) (hp : LP ls d) :
    Calls Try.prog 29 #[u, .int .i64 (d : Int)] w fun e w' => e = .returned (.bool true) ∧ Below w.heap.size w w' := by
  by_cases h : d + 1 = ls.length
  · exact level_leaf u ls d B w hv hs hp h
  · exact level_inner u ls d B w hv hs hp (by have := hp.lt; omega)
end Go.Proofs.Ytpophalhmjchkaa
