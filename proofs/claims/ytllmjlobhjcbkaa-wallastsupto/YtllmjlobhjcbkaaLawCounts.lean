/-
  WalCounts by its walk.
-/
import Derived.Test.YtllmjlobhjcbkaaCounts
namespace Go.Proofs.Ytllmjlobhjcbkaa
open Go.RowKit

theorem len_tot (L : List ByteArray) : L.length ≤ tot L := by
  induction L with
  | nil => simp
  | cons a r ih => rw [tot, List.length_cons]; omega

set_option maxHeartbeats 8000000 in
set_option maxRecDepth 100000 in
theorem counts_walk (A : Option Addr) (LL : List (List ByteArray)) (C : Nat) (w : World) (hR : Rfs w A LL) (hT : ∀ L ∈ LL, tot L ≤ 8388608) :
    Calls Try.prog 5 #[.slice A LL.length C] w fun e w' => e = .returned (.bool true) ∧ Below w.heap.size w w' := by
  have hnew := new_ok 60 w (by omega) (by omega)
  have HR : Hid (Rfs w A LL) := hR
  have HT : Hid (∀ L ∈ LL, tot L ≤ 8388608) := hT
  clear hR hT
  go_enter Try.func5, Try.ntmps5
  go_wp2_with fail
  refine Calls.mono hnew ?_
  rintro e w1 ⟨d, rfl, hD1, hb1⟩
  clear hnew
  have hh := new_held (n := 60) (p := 1) (k := 50) (ep := 7) (by omega) (by omega) (by omega) (by omega)
  have hop := open_ok d 1 50 7 w1 _ _ hD1 (by simp [D.new]) hh.calm.sz (by omega) (by simp [D.new]) (by omega)
  rw [hh.opened] at hop
  have hop2 : Calls Try.prog 11 #[.pointer (some ⟨d, 0, none⟩), .int .i64 1, .int .i64 50, .int .u64 7] w1 fun e w' => ∃ l a c, e = .returned (.tuple #[.pointer (some ⟨l, 0, none⟩), .slice a 0 c, .int .i64 0]) ∧ CI w w' d l none (G.new 1 50 7) [] := by
    refine Calls.mono hop ?_
    rintro e w2 ⟨l, v, rfl, hL2, hF2, hl1, hl2, hok, _, hb2⟩
    obtain ⟨va, vc, rfl⟩ := hF2.shape
    refine ⟨l, va, vc, rfl, ⟨⟨_, _, hD1.below hb2, fun k hk => hk.1, ?_, fun b e => by simp at e, hh, by simp [D.new], fun _ => ?_⟩, hL2, hb1.trans (hb2.mono hb1.size), ?_⟩⟩
    · intro hk; omega
    · simp only [D.new]
      rw [List.getElem?_replicate, if_pos (by omega)]
      rfl
    · have := hb1.size; omega
  clear hD1 hh hop hb1
  go_wp2_with fail
  refine Calls.mono hop2 ?_
  rintro e w2 ⟨l, va, vc, rfl, hci⟩
  clear hop2
  have HCI : Hid (CI w w2 d l none (G.new 1 50 7) []) := hci
  clear hci
  by_cases hbig : 30 < LL.length
  · have haw := awake_any w2
    have hb : (30 : Int) < (LL.length : Int) := by omega
    go_wp2_with (go_at_call 9; refine Calls.mono haw ?_; rintro e w3 ⟨rfl, hb3⟩)
    go_ret
    exact ⟨rfl, HCI.out.bel.trans (hb3.mono HCI.out.bel.size)⟩
  · have hb : (LL.length : Int) ≤ 30 := by omega
    have hlen : LL.length ≤ 30 := by omega
    go_upto_region 5 with fail
    go_wp2
    go_loopw [8, 9] (fun v i wr => ∃ (k : Nat) (g : G) (fs : List (List ByteArray)), k ≤ LL.length ∧ i = .int .i64 k ∧ CI w wr d l v.ownBlock g fs ∧ Done w wr v fs ∧ fs.length ≤ k ∧ ∀ L ∈ fs, L.length ≤ 8388608) (fun _ i _ => LL.length - (intOf i).toNat)
    case atStart => exact ⟨0, _, [], Nat.zero_le _, rfl, HCI.out, Done.nil _ _, Nat.le_refl _, fun L hL => by simp at hL⟩
    case round =>
      obtain ⟨k, g, fs, hk, rfl, hci, hdo, hfl, hfi⟩ := hrel
      obtain ⟨da, dc, rfl⟩ := hdo.shape
      clear HCI
      by_cases hlt : k < LL.length
      · obtain ⟨b, off, rfl, hbl, hcs⟩ := HR.out.resolve_left (by rintro rfl; simp at hlt)
        obtain ⟨x, cx, hcw, hst⟩ := hcs k hlt
        have hto := HT.out _ (List.getElem_mem hlt)
        obtain ⟨L, hLe⟩ : ∃ L, L = LL[k] := ⟨_, rfl⟩
        rw [← hLe] at hcw hst hto
        have hcell : wr.cell? ⟨b, off + k, none⟩ = some (.slice x L.length cx) := (hci.bel.cell (p := ⟨b, off + k, none⟩) hbl).trans hcw
        have k1 : (k : Int) < (LL.length : Int) := by omega
        obtain ⟨hok, hnx, hle, hfin⟩ := hci.facts
        obtain ⟨rm, hrm⟩ : ∃ rm, rm = g.fin - g.at' := ⟨_, rfl⟩
        obtain ⟨n, hn⟩ : ∃ n, n = needN L := ⟨_, rfl⟩
        obtain ⟨nx, hnxe⟩ : ∃ nx, nx = g.nx := ⟨_, rfl⟩
        have hr24 : Calls Try.prog 14 #[.pointer (some ⟨l, 0, none⟩)] wr.drew fun e w' => e = .returned (.int .i64 (rm : Int)) ∧ w' = wr.drew.drew := by
          rw [hrm]; exact room_any l d g wr.drew hci.log hok
        have hn23 : Calls Try.prog 18 #[.pointer (some ⟨l, 0, none⟩)] wr.drew.drew fun e w' => e = .returned (.int .u64 (nx : Int)) ∧ wr.drew.drew = w' := by
          rw [hnxe]; exact next_any l d g wr.drew.drew hci.log
        have hn15 : Calls Try.prog 15 #[.slice x L.length cx] wr.drew.drew fun e w' => e = .returned (.int .i64 (n : Int)) ∧ wr.drew.drew = w' := by
          rw [hn]; exact need_any x L cx wr.drew.drew (by omega) (hst.below (hci.bel.drew.drew) (Nat.le_refl _))
        have HC : Hid (CI w wr d l (Value.slice da fs.length dc).ownBlock g fs ∧ Done w wr (.slice da fs.length dc) fs) := ⟨hci, hdo⟩
        have hrm51 : rm ≤ 51 := by omega
        have hnx30 : nx ≤ 30 := by omega
        have hnb : n ≤ 40000 := by rw [hn, needN, sect]; omega
        have HE : Hid (rm = g.fin - g.at' ∧ n = needN L ∧ nx = g.nx ∧ g.at' ≤ g.fin ∧ g.fin = 51 ∧ Strs w x L ∧ tot L ≤ 8388608 ∧ fs.length ≤ k ∧ (∀ L ∈ fs, L.length ≤ 8388608) ∧ w.cell? ⟨b, off + k, none⟩ = some (.slice x L.length cx) ∧ b < w.heap.size) := ⟨hrm, hn, hnxe, hle, hfin, hst, hto, hfl, hfi, hcw, hbl⟩
        clear hrm hn hnxe hle hfin hst hto hci hdo hok hnx hcw hcs hbl hLe hfi hfl
        go_upto_region 9 with fail
        go_region_held3 (fun w' => w'.cell? ⟨b, off + k, none⟩ = some (.slice x L.length cx)) (go_keep)
          (first
            | (go_at_call 14; (with_reducible refine Calls.mono hr24 ?_); rintro e q ⟨rfl, rfl⟩; have s0 : wr.drew.drew.cell? ⟨b, off + k, none⟩ = some (.slice x L.length cx) := hcell)
            | (go_at_call 18; (with_reducible refine Calls.mono hn23 ?_); rintro e q ⟨rfl, rfl⟩)
            | (go_at_call 15; (with_reducible refine Calls.mono hn15 ?_); rintro e q ⟨rfl, rfl⟩))
        obtain ⟨w3, hw3⟩ : ∃ w3, w3 = wr.drew.drew := ⟨_, rfl⟩
        have HC3 : Hid (CI w w3 d l (Value.slice da fs.length dc).ownBlock g fs ∧ Done w w3 (.slice da fs.length dc) fs) := (by rw [hw3]; exact ⟨HC.out.1.drew.drew, HC.out.2.other (fun _ _ => rfl)⟩)
        have hcell3 : w3.cell? ⟨b, off + k, none⟩ = some (.slice x L.length cx) := by rw [hw3]; exact hcell
        rw [← hw3]
        clear hw3 HC hcell hr24 hn23 hn15 s0
        have hap := HC3.out.1.append (by have := HE.out.2.2.2.2.2.2.2.1; omega) cx HE.out.2.2.2.2.2.1 (by have := HE.out.2.2.2.2.2.2.1; omega)
        by_cases hfit : n ≤ rm
        · have hap2 : Calls Try.prog 13 #[.pointer (some ⟨l, 0, none⟩), .slice x L.length cx] w3 fun e w' => e = .returned (.int .i64 0) ∧ CI w w' d l (Value.slice da fs.length dc).ownBlock (g.pass L) (fs ++ [L]) ∧ Done w w' (.slice da fs.length dc) fs := by
            refine Calls.mono hap ?_
            rintro e w4 ⟨hsame, ⟨_, rfl, q⟩ | ⟨q, _⟩⟩
            · exact ⟨rfl, q, HC3.out.2.other hsame⟩
            · have := HE.out; omega
          have hfI : (n : Int) ≤ (rm : Int) := by omega
          clear hap
          go_upto_region 12 with (go_at_call 13; (with_reducible refine Calls.mono hap2 ?_); rintro e w4 ⟨rfl, hci4, hdo4⟩)
          have hcell4 : w4.cell? ⟨b, off + k, none⟩ = some (.slice x L.length cx) := (hci4.bel.cell (p := ⟨b, off + k, none⟩) HE.out.2.2.2.2.2.2.2.2.2.2).trans HE.out.2.2.2.2.2.2.2.2.2.1
          have hdoA : Done w (w4.alloc (.cells #[.slice x L.length cx] 34)) (.slice da fs.length dc) fs := hdo4.other (fun b e => Below.heap_alloc _ _ _ (hdo4.lt b e).2)
          have hciA : CI w (w4.alloc (.cells #[.slice x L.length cx] 34)) d l (Value.slice da fs.length dc).ownBlock (g.pass L) (fs ++ [L]) := hci4.below ((Below.refl _ _).alloc (Nat.le_refl _) _)
          have hcA : (w4.alloc (.cells #[.slice x L.length cx] 34)).cell? ⟨w4.heap.size, 0, none⟩ = some (.slice x L.length cx) := cell_blk (heap_alloc_new w4 _) 0
          have HA : Hid (Done w (w4.alloc (.cells #[.slice x L.length cx] 34)) (.slice da fs.length dc) fs) := hdoA
          have HB : Hid (CI w (w4.alloc (.cells #[.slice x L.length cx] 34)) d l (Value.slice da fs.length dc).ownBlock (g.pass L) (fs ++ [L])) := hciA
          have HCA : Hid ((w4.alloc (.cells #[.slice x L.length cx] 34)).cell? ⟨w4.heap.size, 0, none⟩ = some (.slice x L.length cx)) := hcA
          clear hci4 hdo4 hdoA hciA hcA hap2 hcell3
          go_upto_region 13 with (at_builtin; refine wpList_append_done (w0 := w) rfl (.tmp 73) (.tmp 78) rfl _ fs rfl HA.out w4.heap.size x L cx rfl HCA.out HE.out.2.2.2.2.2.1 (by have := HE.out.2.2.2.2.2.2.2.1; omega) HB.out.bel.size ?_; rintro v5 w5 hdo5 hg5 hnew5; obtain ⟨a5, c5, rfl⟩ := hdo5.shape)
          have hl1 : (fs ++ [L]).length = fs.length + 1 := by simp
          rw [hl1] at hdo5 hnew5
          have HL1 : Hid ((fs ++ [L]).length = fs.length + 1) := hl1
          clear hl1
          have hci5 := HB.out.grown hg5 (fun b e => (HA.out.lt b e).1) hnew5 (fun b e => (hdo5.lt b e).2)
          have HCt : Hid (CI w w5.drew d l (Value.slice a5 (fs.length + 1) c5).ownBlock (g.pass L) (fs ++ [L]) ∧ Done w w5.drew (.slice a5 (fs.length + 1) c5) (fs ++ [L])) := ⟨hci5.drew, hdo5.other (fun _ _ => rfl)⟩
          have HQ : Hid (((((g.pass L).fin - (g.pass L).at' : Nat) : Int) = (rm : Int) - (n : Int)) ∧ (((g.pass L).nx : Nat) : Int) = (nx : Int) + 1) := (by
            obtain ⟨y1, y2, y3, y4, y5, _⟩ := HE.out
            simp only [G.pass]
            rw [← y2, ← y3]
            constructor <;> omega)
          have hr24 : Calls Try.prog 14 #[.pointer (some ⟨l, 0, none⟩)] w5 fun e w' => e = .returned (.int .i64 ((rm : Int) - (n : Int))) ∧ w' = w5.drew := by
            have := room_any l d _ w5 hci5.log hci5.facts.1
            rw [HQ.out.1] at this
            exact this
          have hn23 : Calls Try.prog 18 #[.pointer (some ⟨l, 0, none⟩)] w5.drew fun e w' => e = .returned (.int .u64 ((nx : Int) + 1)) ∧ w5.drew = w' := by
            have := next_any l d _ w5.drew hci5.log
            rw [HQ.out.2] at this
            exact this
          have hfiT : ∀ M ∈ fs ++ [L], M.length ≤ 8388608 := by
            intro M hM
            rcases List.mem_append.1 hM with hM | hM
            · exact HE.out.2.2.2.2.2.2.2.2.1 M hM
            · simp at hM
              subst hM
              have := len_tot M
              have := HE.out.2.2.2.2.2.2.1
              omega
          have hlnT : (fs ++ [L]).length ≤ k + 1 := by
            have := HE.out.2.2.2.2.2.2.2.1
            simp
            omega
          clear hci5 hdo5 hg5 hnew5 HA HB HCA hcell4
          go_upto_region 15 with (first
            | (go_at_call 14; (with_reducible refine Calls.mono hr24 ?_); rintro e q ⟨rfl, rfl⟩)
            | (go_at_call 18; (with_reducible refine Calls.mono hn23 ?_); rintro e q ⟨rfl, rfl⟩))
          clear hr24 hn23
          have hopn := HCt.out.1.open
          have HFI : Hid (∀ Z ∈ fs ++ [L], Z.length ≤ 8388608) := hfiT
          have HLN : Hid ((fs ++ [L]).length ≤ k + 1) := hlnT
          clear hfiT hlnT
          go_upto_region 16 with (go_at_call 11; refine Calls.mono hopn ?_; rintro e w6 ⟨ly, ay, cy, rfl, hLy, hRy, hb6⟩)
          have hci6 := HCt.out.1.below hb6
          have hdo6 : Done w w6 (Value.slice a5 (fs.length + 1) c5) (fs ++ [L]) := HCt.out.2.other (fun b e => hb6.block b (HCt.out.2.lt b e).2)
          have hfr := frames_same ay a5 (fs ++ [L]) cy c5 w6 (by have := HLN.out; omega) (fun Z hZ => by have := HFI.out Z hZ; omega) hRy (hdo6.rfs hci6.bel)
          rw [HL1.out] at hfr
          have HT5 : Hid (∀ w7, Below w6.heap.size w6 w7 → (Calls Try.prog 14 #[.pointer (some ⟨ly, 0, none⟩)] w7 fun e w' => e = .returned (.int .i64 ((rm : Int) - (n : Int))) ∧ w' = w7.drew) ∧ (Calls Try.prog 14 #[.pointer (some ⟨l, 0, none⟩)] w7.drew fun e w' => e = .returned (.int .i64 ((rm : Int) - (n : Int))) ∧ w' = w7.drew.drew) ∧ (Calls Try.prog 18 #[.pointer (some ⟨ly, 0, none⟩)] w7.drew.drew fun e w' => e = .returned (.int .u64 ((nx : Int) + 1)) ∧ w7.drew.drew = w') ∧ (Calls Try.prog 18 #[.pointer (some ⟨l, 0, none⟩)] w7.drew.drew fun e w' => e = .returned (.int .u64 ((nx : Int) + 1)) ∧ w7.drew.drew = w') ∧ (Calls Try.prog 19 #[.pointer (some ⟨d, 0, none⟩)] w7.drew.drew fun e w' => e = .returned (.int .i64 0) ∧ w7.drew.drew = w') ∧ CI w w7.drew.drew d l ((Value.slice a5 (fs.length + 1) c5)).ownBlock (g.pass L) (fs ++ [L]) ∧ Done w w7.drew.drew (Value.slice a5 (fs.length + 1) c5) (fs ++ [L])) := (by
            intro w7 hb7
            have hci7 := hci6.below hb7
            have hLy7 : LogV w7 ly d (g.pass L) := (hb7.block ly (Array.getElem?_eq_some_iff.1 hLy).1).trans hLy
            have hok7 := hci7.facts.1
            obtain ⟨F7, M7, hD7, hC7⟩ := hci7.drew.drew.pending
            have hp7 := pending_any d w7.drew.drew F7 M7 hD7
            rw [hC7] at hp7
            have r1 := room_any ly d (g.pass L) w7 hLy7 hok7
            have r2 := room_any l d (g.pass L) w7.drew hci7.log hok7
            have r3 := next_any ly d (g.pass L) w7.drew.drew hLy7
            have r4 := next_any l d (g.pass L) w7.drew.drew hci7.log
            rw [HQ.out.1] at r1 r2
            rw [HQ.out.2] at r3 r4
            exact ⟨r1, r2, r3, r4, hp7, hci7.drew.drew, hdo6.other (fun b e => hb7.block b (hdo6.lt b e).2)⟩)
          clear hopn hci6 hdo6 hLy hRy hb6
          go_wp2_with (first
            | (go_at_call 17; (with_reducible refine Calls.mono hfr ?_); rintro e w7 ⟨rfl, hb7⟩; obtain ⟨t1, t2, t3, t4, t5, t6⟩ := HT5.out w7 hb7; have HT6 := (show Hid _ from t6); clear t6 hb7)
            | (go_at_call 14; (first | (with_reducible refine Calls.mono t1 ?_) | (with_reducible refine Calls.mono t2 ?_)); rintro e q ⟨rfl, rfl⟩)
            | (go_at_call 18; (first | (with_reducible refine Calls.mono t3 ?_) | (with_reducible refine Calls.mono t4 ?_)); rintro e q ⟨rfl, rfl⟩)
            | (go_at_call 19; (with_reducible refine Calls.mono t5 ?_); rintro e q ⟨rfl, rfl⟩))
          go_roundw
          case rel => exact ⟨k + 1, _, _, by omega, by go_num, HT6.out.1, HT6.out.2, HLN.out, HFI.out⟩
          case measure => simp [intOf]; omega
        · have hap2 : Calls Try.prog 13 #[.pointer (some ⟨l, 0, none⟩), .slice x L.length cx] w3 fun e w' => e = .returned (.int .i64 60) ∧ CI w w' d l (Value.slice da fs.length dc).ownBlock g fs ∧ Done w w' (.slice da fs.length dc) fs := by
            refine Calls.mono hap ?_
            rintro e w4 ⟨hsame, ⟨q, _⟩ | ⟨_, rfl, q⟩⟩
            · have := HE.out; omega
            · exact ⟨rfl, q, HC3.out.2.other hsame⟩
          have hfI : (rm : Int) < (n : Int) := by omega
          clear hap
          go_upto_region 13 with (go_at_call 13; (with_reducible refine Calls.mono hap2 ?_); rintro e w4 ⟨rfl, hci4, hdo4⟩)
          have HCt : Hid (CI w w4.drew d l (Value.slice da fs.length dc).ownBlock g fs ∧ Done w w4.drew (Value.slice da fs.length dc) fs) := ⟨hci4.drew, hdo4.other (fun _ _ => rfl)⟩
          have HQ : Hid ((((g.fin - g.at' : Nat) : Int) = (rm : Int)) ∧ ((g.nx : Nat) : Int) = (nx : Int)) := (by
            obtain ⟨y1, y2, y3, y4, y5, _⟩ := HE.out
            rw [← y1, ← y3]
            exact ⟨rfl, rfl⟩)
          have hr24 : Calls Try.prog 14 #[.pointer (some ⟨l, 0, none⟩)] w4 fun e w' => e = .returned (.int .i64 (rm : Int)) ∧ w' = w4.drew := by
            have := room_any l d _ w4 hci4.log hci4.facts.1
            rw [HQ.out.1] at this
            exact this
          have hn23 : Calls Try.prog 18 #[.pointer (some ⟨l, 0, none⟩)] w4.drew fun e w' => e = .returned (.int .u64 (nx : Int)) ∧ w4.drew = w' := by
            have := next_any l d _ w4.drew hci4.log
            rw [HQ.out.2] at this
            exact this
          have hfiT : ∀ M ∈ fs, M.length ≤ 8388608 := HE.out.2.2.2.2.2.2.2.2.1
          have hlnT : fs.length ≤ k + 1 := by
            have := HE.out.2.2.2.2.2.2.2.1
            omega
          clear hci4 hdo4 hap2 hcell3
          go_upto_region 15 with (first
            | (go_at_call 14; (with_reducible refine Calls.mono hr24 ?_); rintro e q ⟨rfl, rfl⟩)
            | (go_at_call 18; (with_reducible refine Calls.mono hn23 ?_); rintro e q ⟨rfl, rfl⟩))
          clear hr24 hn23
          have hopn := HCt.out.1.open
          have HFI : Hid (∀ Z ∈ fs, Z.length ≤ 8388608) := hfiT
          have HLN : Hid (fs.length ≤ k + 1) := hlnT
          clear hfiT hlnT
          go_upto_region 16 with (go_at_call 11; refine Calls.mono hopn ?_; rintro e w6 ⟨ly, ay, cy, rfl, hLy, hRy, hb6⟩)
          have hci6 := HCt.out.1.below hb6
          have hdo6 : Done w w6 (Value.slice da fs.length dc) fs := HCt.out.2.other (fun b e => hb6.block b (HCt.out.2.lt b e).2)
          have hfr := frames_same ay da fs cy dc w6 (by have := HLN.out; omega) (fun Z hZ => by have := HFI.out Z hZ; omega) hRy (hdo6.rfs hci6.bel)
          have HT5 : Hid (∀ w7, Below w6.heap.size w6 w7 → (Calls Try.prog 14 #[.pointer (some ⟨ly, 0, none⟩)] w7 fun e w' => e = .returned (.int .i64 (rm : Int)) ∧ w' = w7.drew) ∧ (Calls Try.prog 14 #[.pointer (some ⟨l, 0, none⟩)] w7.drew fun e w' => e = .returned (.int .i64 (rm : Int)) ∧ w' = w7.drew.drew) ∧ (Calls Try.prog 18 #[.pointer (some ⟨ly, 0, none⟩)] w7.drew.drew fun e w' => e = .returned (.int .u64 (nx : Int)) ∧ w7.drew.drew = w') ∧ (Calls Try.prog 18 #[.pointer (some ⟨l, 0, none⟩)] w7.drew.drew fun e w' => e = .returned (.int .u64 (nx : Int)) ∧ w7.drew.drew = w') ∧ (Calls Try.prog 19 #[.pointer (some ⟨d, 0, none⟩)] w7.drew.drew fun e w' => e = .returned (.int .i64 0) ∧ w7.drew.drew = w') ∧ CI w w7.drew.drew d l ((Value.slice da fs.length dc)).ownBlock g fs ∧ Done w w7.drew.drew (Value.slice da fs.length dc) fs) := (by
            intro w7 hb7
            have hci7 := hci6.below hb7
            have hLy7 : LogV w7 ly d g := (hb7.block ly (Array.getElem?_eq_some_iff.1 hLy).1).trans hLy
            have hok7 := hci7.facts.1
            obtain ⟨F7, M7, hD7, hC7⟩ := hci7.drew.drew.pending
            have hp7 := pending_any d w7.drew.drew F7 M7 hD7
            rw [hC7] at hp7
            have r1 := room_any ly d g w7 hLy7 hok7
            have r2 := room_any l d g w7.drew hci7.log hok7
            have r3 := next_any ly d g w7.drew.drew hLy7
            have r4 := next_any l d g w7.drew.drew hci7.log
            rw [HQ.out.1] at r1 r2
            rw [HQ.out.2] at r3 r4
            exact ⟨r1, r2, r3, r4, hp7, hci7.drew.drew, hdo6.other (fun b e => hb7.block b (hdo6.lt b e).2)⟩)
          clear hopn hci6 hdo6 hLy hRy hb6
          go_wp2_with (first
            | (go_at_call 17; (with_reducible refine Calls.mono hfr ?_); rintro e w7 ⟨rfl, hb7⟩; obtain ⟨t1, t2, t3, t4, t5, t6⟩ := HT5.out w7 hb7; have HT6 := (show Hid _ from t6); clear t6 hb7)
            | (go_at_call 14; (first | (with_reducible refine Calls.mono t1 ?_) | (with_reducible refine Calls.mono t2 ?_)); rintro e q ⟨rfl, rfl⟩)
            | (go_at_call 18; (first | (with_reducible refine Calls.mono t3 ?_) | (with_reducible refine Calls.mono t4 ?_)); rintro e q ⟨rfl, rfl⟩)
            | (go_at_call 19; (with_reducible refine Calls.mono t5 ?_); rintro e q ⟨rfl, rfl⟩))
          go_roundw
          case rel => exact ⟨k + 1, _, _, by omega, by go_num, HT6.out.1, HT6.out.2, HLN.out, HFI.out⟩
          case measure => simp [intOf]; omega
      · obtain rfl : k = LL.length := by omega
        have hop8 := hci.open8
        have HB : Hid (Below w.heap.size w wr) := hci.bel
        clear hci hdo hfl hfi hlt
        go_wp2_with (first
          | (go_at_call 11; (with_reducible refine Calls.mono hop8 ?_); rintro e w6 ⟨l', a', c', rfl, hb6⟩; have haw := awake_any w6)
          | (go_at_call 9; (with_reducible refine Calls.mono haw ?_); rintro e w7 ⟨rfl, hb7⟩))
        go_ret
        have hb6' : Below w.heap.size w w6 := HB.out.trans (hb6.mono HB.out.size)
        exact ⟨rfl, hb6'.trans (hb7.mono hb6'.size)⟩
end Go.Proofs.Ytllmjlobhjcbkaa
