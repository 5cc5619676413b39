/-
  FdsAll of the law.
-/
import Derived.Test.YtmbkheaghiojeaaHdi
import Derived.Deep.CutRange
import Derived.Deep.CutBlock
namespace Go.Proofs.Ytmbkheaghiojeaa.Ck
open Go.RowKit

/-- The steps lie in memory. -/
def OpsAt (w : World) (p : Option Addr) (xs : List OpV) : Prop := 0 < xs.length → ∃ g o, p = some ⟨g, o, none⟩ ∧ g < w.heap.size ∧ ∀ j x, xs[j]? = some x → w.cell? ⟨g, o + j * 5, none⟩ = some (.int .i64 x.kd) ∧ w.cell? ⟨g, o + j * 5 + 1, none⟩ = some (.int .i64 x.fd) ∧ w.cell? ⟨g, o + j * 5 + 2, none⟩ = some (.int .i64 x.n) ∧ w.cell? ⟨g, o + j * 5 + 3, none⟩ = some (.int .i64 x.t) ∧ w.cell? ⟨g, o + j * 5 + 4, none⟩ = some (.int .i64 x.nd)
theorem OpsAt.below {w w' : World} {p : Option Addr} {xs : List OpV} (h : OpsAt w p xs) (hb : Below w.heap.size w w') : OpsAt w' p xs := fun h0 => by
  obtain ⟨g, o, e, hg, hc⟩ := h h0
  have q : ∀ k, w'.cell? ⟨g, k, none⟩ = w.cell? ⟨g, k, none⟩ := fun k => by simp [World.cell?, hb.block g hg]
  exact ⟨g, o, e, Nat.lt_of_lt_of_le hg hb.size, fun j x hj => by simp only [q]; exact hc j x hj⟩

theorem FO.start {w0 w : World} {c rc : Nat} {F G : Nat → FE} (h : FI w0 w c rc F G) (x : OpV) : FO w0 (w.alloc (.cells x.cells 35)) c rc w.heap.size F G x :=
  ⟨h.below (below_new _ _).out, new_at _ _, by have := h.lt; omega, by have := h.lt; omega⟩

set_option maxRecDepth 8000 in
set_option maxHeartbeats 4000000 in
theorem fdsAll_law (p : Option Addr) (xs : List OpV) (cap : Nat) (w : World) (hx : OpsAt w p xs) (hcap : xs.length ≤ 9223372036854775807) :
    Calls Try.prog 3 #[.slice p xs.length cap] w fun e w' => e = .returned (.bool true) ∧ Below w.heap.size w w' := by
  have HX : Hid (OpsAt w p xs) := hx
  have cB := fdBegun_any w
  clear hx
  have z33 := zeroR
  go_enter Try.func3, Try.ntmps3
  go_wp2_with (go_at_call 5; refine Calls_new cB ?_; intro w1 hb1; have H1 : Hid (Below w.heap.size w w1) := hb1.out; clear hb1 cB; refine Stop.out ?_)
  refine Stop.mk ?_
  have cN := fdNew_any w1
  have hc : w.heap.size ≤ w1.heap.size := H1.out.size
  generalize hcc : w1.heap.size = c at *
  have HC : Hid (w1.heap.size = c) := hcc
  clear hcc
  go_wp2_with (go_at_call 6; refine cN.mono ?_; rintro e w2 ⟨rfl, h2, b2⟩; have H2 : Hid (TD w2 c (fun _ => zE) 0 [] ∧ Below w.heap.size w w2) := ⟨h2, H1.out.trans (b2.mono hc)⟩; clear h2 b2 cN; refine Stop.out ?_)
  refine Stop.mk ?_
  have H3 : Hid (FI w (w2.alloc (.cells zR 33)) c w2.heap.size (fun _ => zE) (fun _ => zE)) := by
    have hb := (below_new w2 (.cells zR 33)).out
    exact ⟨⟨0, [], H2.out.1.below hb⟩, ⟨zR, new_at _ _, CR.zero⟩, by have := H2.out.1.mem.lt; omega, fun k _ => ⟨rfl, fun _ => rfl⟩, H2.out.2.trans (hb.mono H2.out.2.size), hc, H2.out.2.size⟩
  generalize hZ : zR = Z at *
  clear H1 H2
  go_wp2_with fail
  go_loopw [5, 6] (fun rr ii wr => ∃ (i rc : Nat) (F G : Nat → FE), rr = ep rc ∧ ii = .int .i64 i ∧ i ≤ xs.length ∧ i ≤ 120 ∧ Hid (FI w wr c rc F G)) (fun _ ii _ => 120 - (intOf ii).toNat)
  case atStart => exact ⟨0, _, _, _, rfl, rfl, Nat.zero_le _, by omega, H3.out⟩
  case round =>
    clear H3
    obtain ⟨i, rc, F, G, rfl, rfl, hi, hi2, HI⟩ := hrel
    by_cases hlt : i < xs.length
    · by_cases hlt2 : i < 120
      · have b0 : (0 : Int) ≤ (i : Int) := by omega
        have b1 : (i : Int) < (xs.length : Int) := by omega
        have b2 : (i : Int) < 120 := by omega
        obtain ⟨g, o, rfl, hg, hcl⟩ := HX.out.below HI.out.low (by omega)
        obtain ⟨x, hx⟩ : ∃ x, xs[i]? = some x := ⟨_, List.getElem?_eq_getElem hlt⟩
        obtain ⟨c0, c1, c2, c3, c4⟩ := hcl i x hx
        have HO : Hid (FO w (wr.alloc (.cells x.cells 35)) c rc wr.heap.size F G x) := FO.start HI.out x
        obtain ⟨kd, fd, n, t, nd⟩ := x
        obtain ⟨d0, d1, d2, d3, d4⟩ := HO.out.cell
        have cI := HO.out.is
        obtain ⟨op, hop⟩ : ∃ op, isO F fd = op := ⟨_, rfl⟩
        dsimp only [OpV.cells] at c0 c1 c2 c3 c4 d0 d1 d2 d3 d4 cI HO
        rw [hop] at cI
        have HP : Hid (isO F fd = op) := hop
        clear hcl hx HI hop
        go_wp2_with (go_at_call 7; refine Calls_on cI ?_; refine Stop.out ?_)
        refine Stop.mk ?_
        clear cI
        generalize hob : wr.heap.size = ob at *
        generalize hWA : wr.alloc (.cells #[.int .i64 kd, .int .i64 fd, .int .i64 n, .int .i64 t, .int .i64 nd] 35) = wa at *
        clear c0 c1 c2 c3 c4 hob hWA
        go_upto_block 2 with fail
        go_cut [5, 9, 10, 11, 12, 13, 14, 15] from 27 to 204 (fun r5 _ _ _ _ _ _ _ wc => ∃ (rc' : Nat) (F' G' : Nat → FE), r5 = ep rc' ∧ Hid (FO w wc c rc' ob F' G' ⟨kd, fd, n, t, nd⟩))
        case first =>
          by_cases k0 : kd = 0
          · subst k0
            have cA := HO.out.openA
            dsimp only at cA
            go_wp2_with (go_at_call 8; refine cA.mono ?_; rintro e w3 ⟨r, er, rfl, h3⟩; clear cA d0 d1 d2 d3 d4; have H3 : Hid (MidO w w3 c rc ob F G ⟨0, fd, n, t, nd⟩ r er) := h3; clear h3; refine Stop.out ?_)
            refine Stop.mk ?_
            obtain ⟨d0, d1, d2, d3, d4⟩ := H3.out.cell
            have cC := H3.out.openB
            dsimp only at d0 d1 d2 d3 d4 cC
            have hr1 : (r != r) = false := by simp
            have hr2 : (er != er) = false := by simp
            go_wp2_with (go_at_call 9; refine cC.mono ?_; rintro e w4 ⟨rfl, h4⟩; clear cC d0 d1 d2 d3 d4; have H4 : Hid (∃ F' G', FO w w4 c rc ob F' G' ⟨0, fd, n, t, nd⟩) := h4; clear h4)
            go_meet
            case rel =>
              obtain ⟨F', G', h⟩ := H4.out
              exact ⟨rc, F', G', rfl, h⟩
          · have kb0 : (kd == 0) = false := by simp [k0]
            by_cases k1 : kd = 1
            · subst k1
              cases op
              · have cC := HO.out.closeNo HP.out
                dsimp only at cC
                go_wp2_with (go_at_call 10; refine Calls_on cC ?_)
                go_meet
                case rel => exact ⟨rc, F, G, rfl, HO.out⟩
              · obtain ⟨k, rfl, hk, hop⟩ := isO_in HP.out
                have cC := HO.out.closeYes (k := k) rfl hk hop
                dsimp only at cC
                have b3 : (0 : Int) ≤ (k : Int) := by omega
                have b4 : (k : Int) < 32 := by omega
                clear hop
                go_wp2_with (go_at_call 10; refine cC.mono ?_; rintro e w3 ⟨rfl, h3⟩; clear cC d0 d1 d2 d3 d4; have H3 : Hid (MidS w w3 c rc ob G ⟨1, (k : Nat), n, t, nd⟩ k 0 (.bool false)) := h3; clear h3; refine Stop.out ?_)
                refine Stop.mk ?_
                obtain ⟨d0, d1, d2, d3, d4⟩ := H3.out.cell
                dsimp only at d0 d1 d2 d3 d4
                have y0 := H3.out.five.y0
                have f0 := H3.out.five.f0
                have H4 : Hid (∃ F' G', FO w (w3.setCell ⟨rc, k * 5, none⟩ (.bool false)).drew c rc ob F' G' ⟨1, (k : Nat), n, t, nd⟩) := H3.out.done
                go_wp2_with fail
                go_region
                all_goals go_wp2_with fail
                all_goals
                  go_meet
                  case rel =>
                    obtain ⟨F', G', h⟩ := H4.out
                    exact ⟨rc, F', G', rfl, h⟩
            · have kb1 : (kd == 1) = false := by simp [k1]
              by_cases k2 : kd = 2
              · subst k2
                cases op
                · have cC := HO.out.seekNo (r := 9) (by simp [seekE, HP.out]) (by decide)
                  dsimp only at cC
                  go_wp2_with (go_at_call 11; refine cC.mono ?_; rintro e w3 ⟨rfl, h3⟩; clear cC d0 d1 d2 d3 d4; have H3 : Hid (FO w w3 c rc ob F G ⟨2, fd, n, t, nd⟩) := h3; clear h3; obtain ⟨d0, d1, d2, d3, d4⟩ := H3.out.cell)
                  go_meet
                  case rel => exact ⟨rc, F, G, rfl, H3.out⟩
                · by_cases n0 : n < 0
                  · have cC := HO.out.seekNo (r := 22) (by simp [seekE, HP.out, n0]) (by decide)
                    dsimp only at cC
                    go_wp2_with (go_at_call 11; refine cC.mono ?_; rintro e w3 ⟨rfl, h3⟩; clear cC d0 d1 d2 d3 d4; have H3 : Hid (FO w w3 c rc ob F G ⟨2, fd, n, t, nd⟩) := h3; clear h3; obtain ⟨d0, d1, d2, d3, d4⟩ := H3.out.cell; dsimp only at d0 d1 d2 d3 d4)
                    go_meet
                    case rel => exact ⟨rc, F, G, rfl, H3.out⟩
                  · by_cases n1 : 1073741824 < n
                    · have cC := HO.out.seekNo (r := 75) (by simp [seekE, HP.out, n0, n1]) (by decide)
                      have n1' : n > 1073741824 := n1
                      clear n1
                      dsimp only at cC
                      go_wp2_with (go_at_call 11; refine cC.mono ?_; rintro e w3 ⟨rfl, h3⟩; clear cC d0 d1 d2 d3 d4; have H3 : Hid (FO w w3 c rc ob F G ⟨2, fd, n, t, nd⟩) := h3; clear h3; obtain ⟨d0, d1, d2, d3, d4⟩ := H3.out.cell; dsimp only at d0 d1 d2 d3 d4)
                      go_meet
                      case rel => exact ⟨rc, F, G, rfl, H3.out⟩
                    · have n1' : ¬ n > 1073741824 := n1
                      obtain ⟨k, rfl, hk, hop⟩ := isO_in HP.out
                      have cC := HO.out.seekYes (k := k) rfl hk hop n0 n1
                      dsimp only at cC
                      have b3 : (0 : Int) ≤ (k : Int) := by omega
                      have b4 : (k : Int) < 32 := by omega
                      clear hop n1
                      go_wp2_with (go_at_call 11; refine cC.mono ?_; rintro e w3 ⟨rfl, h3⟩; clear cC d0 d1 d2 d3 d4; have H3 : Hid (MidS w w3 c rc ob G ⟨2, (k : Nat), n, t, nd⟩ k 4 (.int .i64 n)) := h3; clear h3; obtain ⟨d0, d1, d2, d3, d4⟩ := H3.out.cell; dsimp only at d0 d1 d2 d3 d4; have y4 := H3.out.five.y4; have f4 := H3.out.five.f4; have H4 : Hid (∃ F' G', FO w (w3.setCell ⟨rc, k * 5 + 4, none⟩ (.int .i64 n)).drew c rc ob F' G' ⟨2, (k : Nat), n, t, nd⟩) := H3.out.done)
                      go_region
                      all_goals go_wp2_with fail
                      all_goals
                        go_meet
                        case rel =>
                          obtain ⟨F', G', h⟩ := H4.out
                          exact ⟨rc, F', G', rfl, h⟩
              · have kb2 : (kd == 2) = false := by simp [k2]
                have cC := HO.out.clear
                rw [hZ] at cC
                go_wp2_with (go_at_call 12; refine cC.mono ?_; rintro e w3 ⟨rfl, h3⟩; clear cC; have H3 : Hid (FO w (w3.alloc (.cells Z 33)) c w3.heap.size ob (fun _ => zE) (fun _ => zE) ⟨kd, fd, n, t, nd⟩) := h3; clear h3 d0 d1 d2 d3 d4)
                go_meet
                case rel => exact ⟨_, _, _, rfl, H3.out⟩
        case rest =>
          clear d0 d1 d2 d3 d4 HO HP
          obtain ⟨rc', F', G', rfl, HO⟩ := hcut
          obtain ⟨d0, d1, d2, d3, d4⟩ := HO.out.cell
          dsimp only at d0 d1 d2 d3 d4
          have hq : Hid (∀ W, Below wc.heap.size wc W → FO w W c rc' ob F' G' ⟨kd, fd, n, t, nd⟩) := fun W hW => HO.out.below hW
          cases ho : isO F' fd
          · have cG := HO.out.getNo ho
            have HP : Hid (isO F' fd = false) := ho
            dsimp only at cG
            clear ho
            go_wp2_with (go_at_call 13; refine Calls_new cG ?_; intro w5 hb5; clear cG d0 d1 d2 d3 d4; refine Stop.out ?_)
            refine Stop.mk ?_
            have H6 : Hid (FO w (w5.alloc (.cells #[.int .i64 0, .int .i64 0] 28)) c rc' ob F' G' ⟨kd, fd, n, t, nd⟩) := hq.out _ (hb5.out.trans ((below_new w5 _).out.mono hb5.out.size))
            obtain ⟨d0, d1, d2, d3, d4⟩ := H6.out.cell
            have cI := H6.out.is
            rw [show isO F' (OpV.mk kd fd n t nd).fd = false from HP.out] at cI
            have cL := H6.out.len
            dsimp only at d0 d1 d2 d3 d4 cI
            clear hb5
            obtain ⟨N, hN⟩ : ∃ N, cntO F' 32 = N := ⟨_, rfl⟩
            have HN : Hid (cntO F' 32 = N) := hN
            rw [hN] at cL
            clear hN
            have hll : ((N : Int) != (N : Int)) = false := by simp
            have hrr : (decide ((N : Int) < 32) != decide ((N : Int) < 32)) = false := by simp
            go_wp2_with (first
              | (go_at_call 7; refine Calls_on cI ?_; clear cI)
              | (go_at_call 15; refine Calls_new cL ?_; intro w6 hb6; have H7 := (show Hid (FO w w6 c rc' ob F' G' ⟨kd, fd, n, t, nd⟩) from H6.out.below hb6.out); clear hb6 cL d0 d1 d2 d3 d4; refine Stop.out ?_))
            refine Stop.mk ?_
            have cK := H7.out.rlen
            have cR := H7.out.room
            rw [HN.out] at cK cR
            go_wp2_with (first
              | (go_at_call 16; refine Calls_on cK ?_; clear cK)
              | (go_at_call 17; refine Calls_new cR ?_; intro w7 hb7; have H8 := (show Hid (FO w w7 c rc' ob F' G' ⟨kd, fd, n, t, nd⟩) from H7.out.below hb7.out); clear hb7 cR; have cK := H8.out.rlen; rw [HN.out] at cK))
            go_roundw
            case rel => exact ⟨i + 1, rc', F', G', rfl, by go_num, by omega, by omega, H8.out.fi⟩
            case measure => simp [intOf]; omega
          · obtain ⟨k, rfl, hk, hop⟩ := isO_in ho
            have cG := HO.out.getYes (k := k) rfl hk hop
            have b3 : (0 : Int) ≤ (k : Int) := by omega
            have b4 : (k : Int) < 32 := by omega
            have HP : Hid (isO F' (k : Nat) = true) := ho
            dsimp only at cG
            clear ho hop
            go_wp2_with (go_at_call 13; refine Calls_new cG ?_; intro w5 hb5; clear cG d0 d1 d2 d3 d4; refine Stop.out ?_)
            refine Stop.mk ?_
            have H6 : Hid (FO w (w5.alloc (.cells #[.int .i64 (G' k).t, .int .i64 (G' k).n] 28)) c rc' ob F' G' ⟨kd, (k : Nat), n, t, nd⟩) := hq.out _ (hb5.out.trans ((below_new w5 _).out.mono hb5.out.size))
            obtain ⟨y0, y1, y2, y3, y4, f0, f1, f2, f3, f4⟩ := H6.out.fi.rm.five hk
            obtain ⟨d0, d1, d2, d3, d4⟩ := H6.out.cell
            have cI := H6.out.is
            rw [show isO F' (OpV.mk kd (k : Nat) n t nd).fd = true from HP.out] at cI
            dsimp only at d0 d1 d2 d3 d4 cI
            clear hb5 f0 f1 f2 f3 f4
            obtain ⟨N, hN⟩ : ∃ N, cntO F' 32 = N := ⟨_, rfl⟩
            have HN : Hid (cntO F' 32 = N) := hN
            clear hN
            have hll : ((N : Int) != (N : Int)) = false := by simp
            have hrr : (decide ((N : Int) < 32) != decide ((N : Int) < 32)) = false := by simp
            obtain ⟨ev, he⟩ : ∃ ev, G' k = ev := ⟨_, rfl⟩
            rw [he] at y0 y1 y2 y3 y4 H6
            obtain ⟨eo, et, en, ef, ea⟩ := ev
            dsimp only at y0 y1 y2 y3 y4 H6
            simp only [he]
            rw [he] at d0 d1 d2 d3 d4 cI
            dsimp only at d0 d1 d2 d3 d4 cI
            have hef : (ef != ef) = false := by simp
            have hea : (ea != ea) = false := by simp
            have H7 : Hid (FO w ((w5.alloc (.cells #[.int .i64 et, .int .i64 en] 28)).alloc (.cells #[.bool eo, .int .i64 et, .int .i64 en, .int .i64 ef, .int .i64 ea] 30)).drew c rc' ob F' G' ⟨kd, (k : Nat), n, t, nd⟩ ∧ ∀ W, Below (w5.heap.size + 2) ((w5.alloc (.cells #[.int .i64 et, .int .i64 en] 28)).alloc (.cells #[.bool eo, .int .i64 et, .int .i64 en, .int .i64 ef, .int .i64 ea] 30)).drew W → W.heap[w5.heap.size + 1]? = some (.cells #[.bool eo, .int .i64 et, .int .i64 en, .int .i64 ef, .int .i64 ea] 30 (0, 0))) :=
              ⟨(H6.out.below (below_new _ _).out).below (bdrew _), fun W hW => (hW.block (w5.heap.size + 1) (by omega)).trans (by
                have := new_at (w5.alloc (.cells #[.int .i64 et, .int .i64 en] 28)) (.cells #[.bool eo, .int .i64 et, .int .i64 en, .int .i64 ef, .int .i64 ea] 30)
                rw [show (w5.alloc (.cells #[.int .i64 et, .int .i64 en] 28)).heap.size = w5.heap.size + 1 by simp] at this
                exact this)⟩
            have hl1 : ob < w5.heap.size + 1 := by have := block_lt H6.out.box; simpa using this
            have hl2 : rc' < w5.heap.size + 1 := by have := H6.out.fi.lt.2; simpa using this
            have hl3 : ob < (w5.alloc (.cells #[.int .i64 et, .int .i64 en] 28)).heap.size := block_lt H6.out.box
            have hl4 : rc' < (w5.alloc (.cells #[.int .i64 et, .int .i64 en] 28)).heap.size := H6.out.fi.lt.2
            go_wp2_with (first
              | (go_at_call 7; refine Calls_on cI ?_; clear cI))
            go_region
            all_goals go_wp2_with fail
            go_wp2_with (go_at_call 14; refine Calls_new (same_true _ _ _) ?_; intro w6 hb6; refine Stop.out ?_)
            refine Stop.mk ?_
            have H8 : Hid (FO w w6 c rc' ob F' G' ⟨kd, (k : Nat), n, t, nd⟩) := H7.out.1.below hb6.out
            have hf6 := H7.out.2 w6 (hb6.out.mono (by simp))
            have z3 : w6.cell? ⟨w5.heap.size + 1, 3, none⟩ = some (.int .i64 ef) := cellOf hf6 3
            have z4 : w6.cell? ⟨w5.heap.size + 1, 4, none⟩ = some (.int .i64 ea) := cellOf hf6 4
            have cL := H8.out.len
            rw [HN.out] at cL
            clear hb6 hf6
            go_wp2_with (go_at_call 15; refine Calls_new cL ?_; intro w7 hb7; have H9 := (show Hid (FO w w7 c rc' ob F' G' ⟨kd, (k : Nat), n, t, nd⟩) from H8.out.below hb7.out); clear hb7 cL; refine Stop.out ?_)
            refine Stop.mk ?_
            have cK := H9.out.rlen
            have cR := H9.out.room
            rw [HN.out] at cK cR
            go_wp2_with (first
              | (go_at_call 16; refine Calls_on cK ?_; clear cK)
              | (go_at_call 17; refine Calls_new cR ?_; intro w8 hb8; have H10 := (show Hid (FO w w8 c rc' ob F' G' ⟨kd, (k : Nat), n, t, nd⟩) from H9.out.below hb8.out); clear hb8 cR; have cK := H10.out.rlen; rw [HN.out] at cK))
            go_roundw
            case rel => exact ⟨i + 1, rc', F', G', rfl, by go_num, by omega, by omega, H10.out.fi⟩
            case measure => simp [intOf]; omega
      · have b1 : (i : Int) < (xs.length : Int) := by omega
        have b2 : ¬ (i : Int) < 120 := by omega
        go_wp2_with fail
        go_ret
        exact ⟨rfl, HI.out.low⟩
    · have b1 : ¬ (i : Int) < (xs.length : Int) := by omega
      go_wp2_with fail
      go_ret
      exact ⟨rfl, HI.out.low⟩

end Go.Proofs.Ytmbkheaghiojeaa.Ck
