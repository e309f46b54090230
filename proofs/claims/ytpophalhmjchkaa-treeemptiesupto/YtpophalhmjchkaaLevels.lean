/-
  Levels.
-/
import Derived.Test.YtpophalhmjchkaaKRows
namespace Go.Proofs.Ytpophalhmjchkaa
open Go.RowKit

def T.keys : T → List ByteArray
  | .leaf ps => keysP ps
  | .inner bs _ => bs
def levelsL : Nat → List T → List (List (List ByteArray))
  | 0, ts => [ts.map T.keys]
  | h + 1, ts => ts.map T.keys :: levelsL h (kids ts)
def Small : Nat → List T → Prop
  | 0, ts => 1 ≤ ts.length ∧ ts.length ≤ 1000000 ∧ ∀ t ∈ ts, t.keys.length ≤ 100
  | h + 1, ts => (1 ≤ ts.length ∧ ts.length ≤ 1000000 ∧ ∀ t ∈ ts, t.keys.length ≤ 100) ∧ Small h (kids ts)
theorem Small.one : ∀ {h : Nat} {ts : List T}, Small h ts → 1 ≤ ts.length ∧ ts.length ≤ 1000000 ∧ ∀ t ∈ ts, t.keys.length ≤ 100
  | 0, _, h => h
  | _ + 1, _, h => h.1
theorem levels_head : ∀ (h : Nat) (ts : List T), levelsL h ts = ts.map T.keys :: (match h with | 0 => [] | h + 1 => levelsL h (kids ts))
  | 0, _ => rfl
  | _ + 1, _ => rfl
theorem m_lkeys (a : Addr) (w : World) : (method 231 56 (.pointer (some a)) "stowage/btree.keys").run Try.prog w = .ok (79, .pointer (some a)) w := by kernel_rfl
theorem m_ikeys (a : Addr) (w : World) : (method 231 66 (.pointer (some a)) "stowage/btree.keys").run Try.prog w = .ok (80, .pointer (some a)) w := by kernel_rfl

/-- The row of a level that stands, and what is left. -/
def Rest (w wr : World) (row : Value) (rest : List (List (List ByteArray))) : Nat → Prop
  | 0 => row = .slice none 0 0 ∧ rest = []
  | h + 1 => ∃ vs ts, wr.ownsRow w.heap.size 61 1 row ts.length vs ∧ All2 (Nd w h) vs ts ∧ Small h ts ∧ rest = levelsL h ts
structure LvI (w wr : World) (all : List (List (List ByteArray))) (gf : Nat) (lv row : Value) : Prop where
  old : Below w.heap.size w wr
  lvs : ∃ done rest, Lvs wr w.heap.size lv done ∧ Rest w wr row rest gf ∧ done ++ rest = all

theorem one_sl {w : World} {e : Nat} {u : Value} (h : u.oneCell' = true) : Sl (w.alloc (.cells #[u] e)) 1 (some ⟨w.heap.size, 0, none⟩) 1 1 [u] := by
  have hblk := heap_alloc_new w (.cells #[u] e)
  refine ⟨.inr ⟨_, 0, rfl, (Array.getElem?_eq_some_iff.1 hblk).1, fun j hj => ?_⟩, rfl, Nat.le_refl _, (by intro e; cases e), (by intro x e; cases e; rfl), (by intro y hy; simp at hy; rw [hy]; exact h), (by intro _ x e h; cases h), Av.none _⟩
  have hj2 : j < 1 := hj
  rw [Nat.zero_add, cell_blk hblk j]
  match j, hj2 with
  | 0, _ => rfl

theorem LvRow.base {w : World} {B B2 : Nat} {v : Value} {us : List Value} {l : List (List ByteArray)} (h1 : w.ownsRow B 23 1 v us.length us) (h2 : AllG (KeyRow w B) us l) (hb : B2 ≤ B) : LvRow w B2 v l := ⟨us, own_base h1 hb, h2.mono fun _ _ hh => own_base hh hb⟩
theorem own_slice {w : World} {B e s : Nat} {v : Value} {n : Nat} {xs : List Value} (h : w.ownsRow B e s v n xs) : ∃ a c, v = .slice a n c := by
  obtain ⟨_, ⟨rfl, rfl⟩ | ⟨g1, c1, u1, rfl, _⟩⟩ := h
  · exact ⟨none, 0, rfl⟩
  · exact ⟨_, _, rfl⟩
theorem all2_one {w : World} {h : Nat} : ∀ {vs : List Value} {ts : List T}, All2 (Nd w h) vs ts → ∀ u ∈ vs, u.oneCell' = true
  | [], [], _ => by simp
  | v :: vs, t :: ts, hh => by
    intro u hu
    rcases List.mem_cons.1 hu with rfl | hu
    · exact hh.1.one
    · exact all2_one hh.2 u hu
  | [], _ :: _, hh => hh.elim
  | _ :: _, [], hh => hh.elim
theorem next_row {w w5 : World} {all done : List (List (List ByteArray))} {g : Nat} {v2 : Value} {ts : List T} {vs : List Value} {a : Option Addr} {c : Nat} (hlv : Lvs w5 w.heap.size v2 (done ++ [ts.map T.keys])) (hrow : w5.ownsRow w.heap.size 61 1 (.slice a ts.length c) ts.length vs) (hnd : All2 (Nd w g) vs ts) (hsm : Small g ts) (hda : done ++ levelsL g ts = all) (hb : Below w.heap.size w w5) :
    Calls Try.prog 33 #[.slice a ts.length c] w5 (fun e w6 => ∃ row', e = .returned row' ∧ LvI w w6 all g v2 row') := by
  obtain ⟨a', c', e, hsl⟩ := Sl.own hrow (all2_one hnd)
  injection e with e1 e2 e3
  subst e1 e3
  have hs1 := hsm.one
  match g, hnd, hsm, hda with
  | 0, hnd, hsm, hda =>
    refine Calls.mono (below_leaf a c vs ts w5 hsl (hnd.mono fun _ _ hh => hh.below hb) (by omega)) ?_
    rintro e w6 ⟨rfl, hb6⟩
    exact ⟨_, rfl, hb.trans (hb6.mono hb.size), _, [], hlv.below hb6, ⟨rfl, rfl⟩, by rw [List.append_nil]; exact hda⟩
  | g + 1, hnd, hsm, hda =>
    have hs2 := hsm.2.one
    refine Calls.mono (below_inner a c g vs ts w w5 hb hsl hnd (by omega) (by omega)) ?_
    rintro e w6 ⟨u, us, rfl, ho, hn6, hb6⟩
    refine ⟨u, rfl, hb.trans (hb6.mono hb.size), _, _, hlv.below hb6, ⟨us, kids ts, ?_, hn6, hsm.2, rfl⟩, ?_⟩
    · rw [← hn6.len]; exact own_base ho hb.size
    · rw [← hda, List.append_assoc]; rfl
theorem nkeys {w wr : World} {g : Nat} {x : Value} {t : T} (hn : Nd w g x t) (hk : t.keys.length ≤ 100) (hb : Below w.heap.size w wr) :
    ∃ b1, (x = .iface 56 (.pointer (some ⟨b1, 0, none⟩)) ∧ Calls Try.prog 79 #[.pointer (some ⟨b1, 0, none⟩)] wr fun e w3 => ∃ u, e = .returned u ∧ w3.ownsRow wr.heap.size 9 1 u t.keys.length (scs t.keys) ∧ Below wr.heap.size wr w3) ∨ (x = .iface 66 (.pointer (some ⟨b1, 0, none⟩)) ∧ Calls Try.prog 80 #[.pointer (some ⟨b1, 0, none⟩)] wr fun e w3 => ∃ u, e = .returned u ∧ w3.ownsRow wr.heap.size 9 1 u t.keys.length (scs t.keys) ∧ Below wr.heap.size wr w3) := by
  match g, t, hn with
  | 0, .leaf ps, hn =>
    obtain ⟨b1, rfl, hl⟩ := hn
    have e : (keysP ps).length = ps.length := by simp [keysP]
    have hk : (keysP ps).length ≤ 100 := hk
    refine ⟨b1, .inl ⟨rfl, ?_⟩⟩
    show Calls Try.prog 79 _ _ fun e w3 => ∃ u, e = .returned u ∧ w3.ownsRow wr.heap.size 9 1 u (keysP ps).length (scs (keysP ps)) ∧ _
    rw [e]
    exact lkeys_any b1 ps wr (hl.below hb) (by omega)
  | g + 1, .inner bs cs, hn =>
    obtain ⟨b1, rfl, hr⟩ := hn
    have hk : bs.length ≤ 100 := hk
    exact ⟨b1, .inr ⟨rfl, ikeys_any b1 bs cs wr (Rw.below (h := g) (r := (bs, cs)) hr hb) (by omega)⟩⟩
  | 0, .inner _ _, hn => exact hn.elim
  | _ + 1, .leaf _, hn => exact hn.elim

set_option maxHeartbeats 8000000 in
set_option maxRecDepth 20000 in
theorem levels_any (b h : Nat) (t : T) (w : World) (ht : Tr w b h t) (hsm : Small h [t]) (hal : (levelsL h [t]).length ≤ 1000000) :
    Calls Try.prog 20 #[.pointer (some ⟨b, 0, none⟩)] w fun e w' => ∃ u, e = .returned u ∧ Lvs w' w.heap.size u (levelsL h [t]) ∧ Below w.heap.size w w' := by
  obtain ⟨i1, hi1, hz10, hz11, hz12⟩ := info_parts info23
  obtain ⟨i2, hi2, hz20, hz21, hz22⟩ := info_parts info64
  obtain ⟨x, h1, h2, h3⟩ := ht
  have k0 : w.cell? ⟨b, 0, none⟩ = some x := cell_blk h1 0
  obtain ⟨all, hall⟩ : ∃ all, all = levelsL h [t] := ⟨_, rfl⟩
  rw [← hall] at hal ⊢
  have HD : Hid (LvI w (w.alloc (.cells #[x] 61)) all (h + 1) (.slice none 0 0) (.slice (some ⟨w.heap.size, 0, none⟩) 1 1)) := ⟨(Below.refl _ _).alloc (Nat.le_refl _) _, [], _, ⟨[], World.ownsRow_nil _ _ _ _, trivial⟩, ⟨[x], [t], World.ownsRow_lit w #[x] 1 (Nat.le_refl _) (by decide) rfl, ⟨h2, trivial⟩, hsm, rfl⟩, by rw [hall]; rfl⟩
  have hx1 : x.oneCell' = true := h2.one
  obtain ⟨ty, bx, rfl⟩ := h2.ptr
  clear h1 h2 h3 hsm hall hx1
  go_enter Try.func20, Try.ntmps20
  go_wp2
  go_loopg [3, 4] (h + 1) (fun gf lv row wx => LvI w wx all gf lv row)
  case atStart => exact HD.out
  case round =>
    clear HD k0
    obtain ⟨hold, done, rest, hlv, hre, hda⟩ := hrel
    match gk, hre with
    | 0, hre =>
      obtain ⟨rfl, rfl⟩ := hre
      rw [List.append_nil] at hda
      have HE : Hid (Lvs wr w.heap.size u3 all ∧ Below w.heap.size w wr) := ⟨by rw [← hda]; exact hlv, hold⟩
      clear hlv hold hda
      go_wp2
      go_ret
      exact ⟨_, rfl, HE.out.1, HE.out.2⟩
    | g + 1, hre =>
      obtain ⟨vs, ts, hrow, hnd, hsm, rfl⟩ := hre
      obtain ⟨hs1, hs2, hs3⟩ := hsm.one
      have hvl := hnd.len
      obtain ⟨rb, rc, rfl⟩ : ∃ rb rc, u4 = .slice (some ⟨rb, 0, none⟩) ts.length rc := by
        obtain ⟨_, ⟨_, h0⟩ | ⟨g1, c1, _, e1, _⟩⟩ := hrow
        · omega
        · exact ⟨g1, c1, e1⟩
      obtain ⟨n, hn⟩ : ∃ n, n = ts.length := ⟨_, rfl⟩
      rw [← hn] at hrow hs1 hs2 ⊢
      have hni : (0 : Int) < (n : Int) := by omega
      have hn0 : 0 < n := by omega
      have HL0 : Hid (Lvs wr w.heap.size u3 done ∧ wr.ownsRow w.heap.size 61 1 (.slice (some ⟨rb, 0, none⟩) n rc) n vs ∧ Below w.heap.size w wr) := ⟨hlv, hrow, hold⟩
      have HND : Hid (All2 (Nd w g) vs ts ∧ Small g ts ∧ done ++ levelsL g ts = all ∧ n = ts.length ∧ vs.length = n) := ⟨hnd, hsm, hda, hn, by omega⟩
      clear hlv hrow hold hnd hsm hda hn hs3 hvl
      obtain ⟨w0, rfl⟩ : ∃ w0, w0 = wr := ⟨_, rfl⟩
      go_wp2
      go_loopw [5, 20] (fun u i wr2 => ∃ j : Nat, j ≤ n ∧ i = .int .i64 j ∧ ∃ us, wr2.ownsRow w0.heap.size 23 1 u us.length us ∧ AllG (KeyRow wr2 w0.heap.size) us ((ts.take j).map T.keys) ∧ Below w0.heap.size w0 wr2) (fun _ i _ => n - (intOf i).toNat)
      case atStart => exact ⟨0, Nat.zero_le _, rfl, [], World.ownsRow_nil _ _ _ _, trivial, Below.refl _ _⟩
      case round =>
        obtain ⟨j, hj, rfl, us, hown, hks, hbw⟩ := hrel
        have husl : us.length ≤ 1000000 := by
          have := hks.len
          rw [List.length_map, List.length_take] at this
          have := HND.out.2.2.2.1
          omega
        by_cases hjn : j < n
        · obtain ⟨hnd, hsm, hda, hnt, hvl⟩ := HND.out
          have hrow := own_below HL0.out.2.1 hbw
          have hbw0 : Below w.heap.size w wr := HL0.out.2.2.trans (hbw.mono HL0.out.2.2.size)
          have hcell : wr.cell? ⟨rb, j, none⟩ = some (vs[j]'(by omega)) := by
            rw [World.ownsRow.cellAt hrow j (by omega), List.getElem?_eq_getElem]
          have hndj := hnd.get (j := j) (by omega) (by omega)
          have htk : (ts.take (j + 1)).map T.keys = (ts.take j).map T.keys ++ [(ts[j]'(by omega)).keys] := by
            rw [List.take_succ_eq_append_getElem (by omega), List.map_append]; rfl
          obtain ⟨b1, hc⟩ := nkeys hndj (hsm.one.2.2 _ (List.getElem_mem _)) hbw0
          generalize vs[j]'(by omega) = x at hcell hc
          generalize (ts[j]'(by omega)).keys = ks at hc htk
          have hji : (j : Int) < (n : Int) := by omega
          have HNX : Hid (∀ u w3, w3.ownsRow wr.heap.size 9 1 u ks.length (scs ks) → Below wr.heap.size wr w3 → (w3.alloc (.cells #[u] 23)).ownsRow w0.heap.size 23 1 u5 us.length us ∧ Sl (w3.alloc (.cells #[u] 23)) 1 (some ⟨w3.heap.size, 0, none⟩) 1 1 [u] ∧ w0.heap.size ≤ (w3.alloc (.cells #[u] 23)).heap.size ∧ Hid (∀ v2 w5, w5.ownsRow w0.heap.size 23 1 v2 (us.length + 1) (us ++ [u]) → (w3.alloc (.cells #[u] 23)).grownBy w5 u5.ownBlock → (∃ us, w5.ownsRow w0.heap.size 23 1 v2 us.length us ∧ AllG (KeyRow w5 w0.heap.size) us ((ts.take (j + 1)).map T.keys) ∧ Below w0.heap.size w0 w5))) := (by
            intro u w3 ho hb3
            have hA : Below w3.heap.size w3 (w3.alloc (.cells #[u] 23)) := (Below.refl _ _).alloc (Nat.le_refl _) _
            have hWA : Below wr.heap.size wr (w3.alloc (.cells #[u] 23)) := hb3.trans (hA.mono hb3.size)
            have hBA : Below w0.heap.size w0 (w3.alloc (.cells #[u] 23)) := hbw.trans (hWA.mono hbw.size)
            have hoA := own_below hown hWA
            refine ⟨hoA, one_sl (own_one ho), hBA.size, fun v2 w5 ho5 hg5 => ?_⟩
            obtain ⟨us', e1, e2⟩ := LvRow.snoc hoA (hks.mono fun _ _ hh => hh.below hWA) (KeyRow.below (own_base ho hbw.size) hA) hg5 ho5
            rw [htk]
            exact ⟨us', e1, e2, hBA.grown hg5 hBA.size (fun g hg => (owns_lt hoA g hg).1)⟩)
          clear hnd hsm hda hnt hvl hndj hown hks hrow hbw htk HND HL0 hbw0
          rcases hc with ⟨rfl, hc⟩ | ⟨rfl, hc⟩
          · skip
            have hm := fun w => m_lkeys ⟨b1, 0, none⟩ w
            have HK2 : Calls Try.prog 79 #[.pointer (some ⟨b1, 0, none⟩)] wr (fun e w3 => ∃ ua na ca, e = .returned (.slice ua na ca) ∧ (w3.alloc (.cells #[.slice ua na ca] 23)).ownsRow w0.heap.size 23 1 u5 us.length us ∧ Sl (w3.alloc (.cells #[.slice ua na ca] 23)) 1 (some ⟨w3.heap.size, 0, none⟩) 1 1 [.slice ua na ca] ∧ w0.heap.size ≤ (w3.alloc (.cells #[.slice ua na ca] 23)).heap.size ∧ Hid (∀ v2 w5, w5.ownsRow w0.heap.size 23 1 v2 (us.length + 1) (us ++ [.slice ua na ca]) → (w3.alloc (.cells #[.slice ua na ca] 23)).grownBy w5 u5.ownBlock → (∃ us, w5.ownsRow w0.heap.size 23 1 v2 us.length us ∧ AllG (KeyRow w5 w0.heap.size) us ((ts.take (j + 1)).map T.keys) ∧ Below w0.heap.size w0 w5))) := by
              refine Calls.mono hc ?_
              rintro e w3 ⟨u, rfl, ho, hb3⟩
              obtain ⟨ua, ca, rfl⟩ := own_slice ho
              exact ⟨ua, _, ca, rfl, HNX.out _ w3 ho hb3⟩
            clear hc HNX
            go_wp2_with (first | (go_at_call 79; refine Calls.mono HK2 ?_; rintro e w3 ⟨ua, na, ca, rfl, ho3, hs3, hz3, HN3⟩) | (at_builtin; refine wpList_append_sl rfl (.tmp 24) (.tmp 27) 64 rfl w0.heap.size 23 i1 (.slice none 0 0) 1 24 Try.underlying64 hi1 hz10 hz11 hz12 rfl (by decide) (by decide) _ us.length us rfl ho3 (some ⟨w3.heap.size, 0, none⟩) 1 1 [.slice ua na ca] rfl hs3 (by omega) hz3 ?_; intro v2 w5 ho5 hg5))
            have hN := HN3.out v2 w5 ho5 hg5
            go_roundw
            case rel =>
              exact ⟨j + 1, by omega, by go_num, hN⟩
            case measure => simp [intOf]; omega
          · skip
            have hm := fun w => m_ikeys ⟨b1, 0, none⟩ w
            have HK2 : Calls Try.prog 80 #[.pointer (some ⟨b1, 0, none⟩)] wr (fun e w3 => ∃ ua na ca, e = .returned (.slice ua na ca) ∧ (w3.alloc (.cells #[.slice ua na ca] 23)).ownsRow w0.heap.size 23 1 u5 us.length us ∧ Sl (w3.alloc (.cells #[.slice ua na ca] 23)) 1 (some ⟨w3.heap.size, 0, none⟩) 1 1 [.slice ua na ca] ∧ w0.heap.size ≤ (w3.alloc (.cells #[.slice ua na ca] 23)).heap.size ∧ Hid (∀ v2 w5, w5.ownsRow w0.heap.size 23 1 v2 (us.length + 1) (us ++ [.slice ua na ca]) → (w3.alloc (.cells #[.slice ua na ca] 23)).grownBy w5 u5.ownBlock → (∃ us, w5.ownsRow w0.heap.size 23 1 v2 us.length us ∧ AllG (KeyRow w5 w0.heap.size) us ((ts.take (j + 1)).map T.keys) ∧ Below w0.heap.size w0 w5))) := by
              refine Calls.mono hc ?_
              rintro e w3 ⟨u, rfl, ho, hb3⟩
              obtain ⟨ua, ca, rfl⟩ := own_slice ho
              exact ⟨ua, _, ca, rfl, HNX.out _ w3 ho hb3⟩
            clear hc HNX
            go_wp2_with (first | (go_at_call 80; refine Calls.mono HK2 ?_; rintro e w3 ⟨ua, na, ca, rfl, ho3, hs3, hz3, HN3⟩) | (at_builtin; refine wpList_append_sl rfl (.tmp 24) (.tmp 27) 64 rfl w0.heap.size 23 i1 (.slice none 0 0) 1 24 Try.underlying64 hi1 hz10 hz11 hz12 rfl (by decide) (by decide) _ us.length us rfl ho3 (some ⟨w3.heap.size, 0, none⟩) 1 1 [.slice ua na ca] rfl hs3 (by omega) hz3 ?_; intro v2 w5 ho5 hg5))
            have hN := HN3.out v2 w5 ho5 hg5
            go_roundw
            case rel =>
              exact ⟨j + 1, by omega, by go_num, hN⟩
            case measure => simp [intOf]; omega
        · have hjn2 : j = n := by omega
          subst hjn2
          obtain ⟨hnd, hsm, hda, hnt, hvl⟩ := HND.out
          rw [hnt, List.take_length] at hks
          obtain ⟨ua5, c5, rfl⟩ := own_slice hown
          have hb0 := HL0.out.2.2
          have hbw0 : Below w.heap.size w wr := hb0.trans (hbw.mono hb0.size)
          obtain ⟨z5, hz5⟩ : ∃ z5, z5 = us.length := ⟨_, rfl⟩
          have hLr : LvRow wr w.heap.size (.slice ua5 us.length c5) (ts.map T.keys) := LvRow.base hown hks hb0.size
          rw [← hz5] at hLr ⊢
          obtain ⟨A, hA⟩ : ∃ A, A = wr.alloc (.cells #[.slice ua5 z5 c5] 64) := ⟨_, rfl⟩
          have hWA : Below wr.heap.size wr A := by rw [hA]; exact (Below.refl _ _).alloc (Nat.le_refl _) _
          have hBA : Below w.heap.size w A := hbw0.trans (hWA.mono hbw0.size)
          obtain ⟨us3, l1, l2⟩ := (HL0.out.1.below hbw).below hWA
          have hl3 : us3.length + 1 ≤ 1000000000 := by
            have e1 := l2.len
            have e2 := congrArg List.length hda
            rw [List.length_append] at e2
            omega
          have hsl : Sl A 1 (some ⟨wr.heap.size, 0, none⟩) 1 1 [.slice ua5 z5 c5] := by rw [hA]; exact one_sl rfl
          have hsz := hBA.size
          have HEND : Hid (∀ v2 w5, w5.ownsRow w.heap.size 64 1 v2 (us3.length + 1) (us3 ++ [.slice ua5 z5 c5]) → A.grownBy w5 u3.ownBlock → Calls Try.prog 33 #[.slice (some ⟨rb, 0, none⟩) j rc] w5 (fun e w6 => ∃ row', e = .returned row' ∧ LvI w w6 all g v2 row')) := (by
            intro v2 w5 ho5 hg5
            have hrA := own_below (own_below HL0.out.2.1 hbw) hWA
            rw [hnt] at hrA ⊢
            exact next_row (Lvs.snoc l1 l2 (hLr.below hWA) hg5 ho5) (World.ownsRow.kept hrA hg5 (rows_ne hrA l1 (by decide))) hnd hsm hda (hBA.grown hg5 hBA.size (fun g hg => (owns_lt l1 g hg).1)))
          have hji : ¬ ((j : Int) < (j : Int)) := by omega
          clear hnd hsm hda hnt hvl hown hks hbw HND HL0 hbw0 hb0 hLr hWA hBA l2 husl hz5
          subst hA
          go_wp2_with (at_builtin; refine wpList_append_sl rfl (.tmp 30) (.tmp 32) 53 rfl w.heap.size 64 i2 (.slice none 0 0) 1 24 Try.underlying53 hi2 hz20 hz21 hz22 rfl (by decide) (by decide) _ us3.length us3 rfl l1 (some ⟨wr.heap.size, 0, none⟩) 1 1 [.slice ua5 z5 c5] rfl hsl hl3 hsz ?_; intro v2 w5 ho5 hg5; have hcall := HEND.out v2 w5 ho5 hg5; clear HEND)
          refine Calls.mono hcall ?_
          rintro e w6 ⟨row', rfl, hI⟩
          go_wp2
          go_roundg g
          case rel => exact hI
          case measure => omega
end Go.Proofs.Ytpophalhmjchkaa
