/-
  readLog of package wal.
-/
import Derived.Test.YtebdgcoandfocaaGreatDoorKWrec

namespace Go.Proofs.YtebdgcoandfocaaGreatDoor
open Go.RowKit Go.Maps Go.Sort Go.Shelf

/-- The log from block at_ on: these records, and no page of this turn behind them. -/
def LogIs (B : Nat → By) (n nb turn : Nat) : Nat → List Rec → Prop
  | at_, [] => at_ ≤ n ∧ (at_ < n → OldB turn (B at_))
  | at_, ps :: rs => okRec nb ps ∧ at_ + pagesFor ps.length ≤ n ∧ (∀ i, i < pagesFor ps.length → B (at_ + i) = pageB turn ps i) ∧ LogIs B n nb turn (at_ + pagesFor ps.length) rs
theorem le_pagesFor (k : Nat) : k ≤ pagesFor k := by unfold pagesFor; omega
theorem pagesFor_pos (k : Nat) : 1 ≤ pagesFor k := by unfold pagesFor; omega
theorem LogIs.le {B : Nat → By} {n nb turn : Nat} : ∀ {at_ : Nat} {rs : List Rec}, LogIs B n nb turn at_ rs → at_ + rs.flatten.length ≤ n ∧ at_ + rs.length ≤ n
  | at_, [], h => by have := h.1; simpa using this
  | at_, ps :: rs, h => by
    have h1 := LogIs.le h.2.2.2
    have h2 := le_pagesFor ps.length
    have h3 := pagesFor_pos ps.length
    simp only [List.flatten_cons, List.length_append, List.length_cons]
    omega

/-- A volume's struct alone is turned. -/
theorem Dev.butV {w w' : World} {d : DS} (hd : Dev w d) {v : Nat} {pd : Option Addr} {commits turn next : Nat} {f : Option Nat} {count : Int} (h : IsVol w v (.pointer pd) commits turn next f count) (hb : But (fun k => k = v) w w') : Dev w' d :=
  hd.but hb (fun k hk e => by subst e; exact h.mine hd hk) (fun g l hg e => by subst e; have := h; rw [IsVol, hg] at this; simp at this)
theorem IsVol.noTab {w : World} {v : Nat} {pd : Option Addr} {commits turn next : Nat} {f : Option Nat} {count : Int} (h : IsVol w v (.pointer pd) commits turn next f count) (ht : Tab w) : ¬ (0 = v) := by
  intro e
  have h0 := ht 0 0 rfl
  have hx := h
  rw [← e] at hx
  have := cellOf hx 0
  rw [h0] at this
  simp [volCells] at this

/-- What readLog has done behind some records. -/
structure LogInv (w W : World) (v : Nat) (d : DS) (commits turn next f : Nat) (count : Int) (done : List Rec) : Prop where
  vol : IsVol W v (dp d.a) (commits + done.length) turn next (some f) count
  fr : ∃ F, Fresh W f done.flatten.length F (laidOn (fun _ => none) done.flatten)
  but : But (fun k => k = v) w W
  flt : w.heap.size ≤ f

set_option maxRecDepth 8000 in
set_option maxHeartbeats 4000000 in
theorem readLog_any (recs : List Rec) (v : Nat) (commits turn next : Nat) (f0 : Option Nat) (count : Int) (d : DS) (w : World) (h : IsVol w v (dp d.a) commits turn next f0 count) (hd : Dev w d) (ht : Tab w) (hn : 16 ≤ d.n)
    (htu : turn < 4611686018427387904) (hc : commits < 4000000000000000000) (hlog : LogIs d.B d.n (nbOf d.n) turn (1 + nbOf d.n) recs) :
    Calls Tryz.prog 57 #[dp v] w fun e w' => ∃ f, e = .returned (.int .i64 0) ∧ LogInv w w' v d commits turn d.n f count recs := by
  have hmm := @run_makeMap Tryz.prog
  have hle := hd.hn
  have hnb : nbOf d.n ≤ 65536 := by unfold nbOf; omega
  have m4 := cellOf h 4
  have f4 := frozenOf h 4
  have hvlt := h.lt
  simp [volCells] at m4
  obtain ⟨w1, hw1⟩ : ∃ w1, w1 = (w.setCell ⟨v, 4, none⟩ (.map (some w.heap.size))).alloc (.map #[] 0) := ⟨_, rfl⟩
  have hsz : (w.setCell ⟨v, 4, none⟩ (.map (some w.heap.size))).heap.size = w.heap.size := by simp [World.setCell]
  have hv1 : IsVol w1 v (dp d.a) commits turn next (some w.heap.size) count := by rw [hw1]; exact (Below.heap_alloc _ _ _ (by rw [hsz]; exact h.lt)).trans (h.setF w.heap.size)
  have hm1 : w1.heap[w.heap.size]? = some (.map #[] 0) := by rw [hw1]; have := (MapKept.heap_alloc (w.setCell ⟨v, 4, none⟩ (.map (some w.heap.size))) (.map #[] 0)).1; rw [hsz] at this; exact this
  have hb1 : But (fun k => k = v) w w1 := by rw [hw1]; exact ((But.refl (fun k => k = v) w).setCell ⟨v, 4, none⟩ rfl _).alloc _
  have hL1 : LogInv w w1 v d commits turn next w.heap.size count [] := ⟨hv1, ⟨_, Fresh.empty hm1⟩, hb1, Nat.le_refl _⟩
  have c42 := vStart v commits turn next (some w.heap.size) count d w1 hv1 (hd.butV h hb1) hn
  have HV : Hid (IsVol w v (dp d.a) commits turn next f0 count) := h
  have HD : Hid (Dev w d) := hd
  have HT : Hid (Tab w) := ht
  have HL : Hid (LogIs d.B d.n (nbOf d.n) turn (1 + nbOf d.n) recs) := hlog
  have HL1 : Hid (LogInv w w1 v d commits turn next w.heap.size count []) := hL1
  clear h hd ht hlog hv1 hm1 hb1 hL1 hsz
  go_enter Tryz.func57, Tryz.ntmps57
  go_wp2_with (go_at_call 80; refine Stop.out ?_)
  refine Stop.mk ?_
  rw [← hw1]
  refine Calls_on c42 ?_
  obtain ⟨f, hf⟩ : ∃ f, f = w.heap.size := ⟨_, rfl⟩
  rw [← hf] at HL1
  clear hw1 c42 m4 f4 hvlt hmm
  go_wp2_with fail
  go_loopw [3] (fun ii wr => ∃ (at_ : Nat) (done rest : List Rec), ii = .int .i64 (at_ : Nat) ∧ Hid (recs = done ++ rest ∧ LogIs d.B d.n (nbOf d.n) turn at_ rest ∧ LogInv w wr v d commits turn next f count done)) (fun ii _ => d.n + 1 - (intOf ii).toNat)
  case atStart => exact ⟨_, [], recs, rfl, rfl, HL.out, HL1.out⟩
  case round =>
    obtain ⟨at_, done, rest, rfl, HJ⟩ := hrel
    obtain ⟨hrec, hlog, hinv⟩ := HJ.out
    have hd := HD.out.butV HV.out hinv.but
    have ht := hinv.but.tab HT.out (HV.out.noTab HT.out)
    have hrl : recs.length ≤ d.n := by have := HL.out.le; omega
    have hrf : recs.flatten.length ≤ d.n := by have := HL.out.le; omega
    rw [hrec] at hrl hrf
    simp only [List.length_append, List.flatten_append] at hrl hrf
    cases rest with
    | nil =>
      have c43 := readRecord_none at_ v (commits + done.length) turn next (some f) count d wr hinv.vol hd ht htu hlog.2
      have c31 : ∀ W : World, Below wr.heap.size wr W → Calls Tryz.prog 69 #[dp d.a] W fun e w' => e = .returned (.int .i64 d.n) ∧ w' = W := fun W hW => dev_blocks d W (hd.below hW)
      have cells : ∀ W : World, Below wr.heap.size wr W → W.cell? ⟨v, 0, none⟩ = some (dp d.a) ∧ W.cell? ⟨v, 3, none⟩ = some (.int .i64 next) ∧ W.frozen? ⟨v, 3, none⟩ = false := by
        intro W hW
        refine ⟨?_, ?_, frozenOf (hinv.vol.below hW) 3⟩
        · have := cellOf (hinv.vol.below hW) 0; simpa [volCells] using this
        · have := cellOf (hinv.vol.below hW) 3; simpa [volCells] using this
      have HI : Hid (LogInv w wr v d commits turn next f count done) := hinv
      clear hlog hinv hd ht
      go_wp2_with (first
        | (go_at_call 81; refine c43.mono ?_; rintro e w2 ⟨rfl, hB2⟩; clear c43; have c31' := c31 w2 hB2; obtain ⟨x0, x3, x4⟩ := cells w2 hB2; clear c31 cells)
        | (go_at_call 69; refine Calls_on c31' ?_))
      go_ret
      refine ⟨f, rfl, ?_⟩
      have hinv := HI.out
      have hr : recs = done := by rw [hrec]; simp
      rw [hr]
      obtain ⟨F, hF⟩ := hinv.fr
      have hv2 := hinv.vol.below hB2
      have hF2 := hF.below hB2
      have hb3 : But (fun k => k = v) w2 (w2.setCell ⟨v, 3, none⟩ (.int .i64 d.n)) := (But.refl (fun k => k = v) w2).setCell ⟨v, 3, none⟩ rfl _
      refine ⟨hv2.setN d.n, ⟨F, hF2.but hb3 (fun e => ?_) (fun k cs fr hk e => ?_)⟩, (hinv.but.trans (But.of_below hB2)).trans hb3, hinv.flt⟩
      · exact hF2.noCell v 1 _ (cellOf hv2 1) e.symm
      · subst e; have := hv2; rw [IsVol, hk] at this; simp at this
    | cons ps rs =>
      obtain ⟨hok, hfit, hBp, hlog'⟩ := hlog
      have c43 := readRecord_some at_ ps v (commits + done.length) turn next (some f) count d wr hinv.vol hd ht hn htu hok hfit hBp
      obtain ⟨K, hK⟩ : ∃ K, K = pagesFor ps.length := ⟨_, rfl⟩
      have hK1 : 1 ≤ K := by rw [hK]; exact pagesFor_pos _
      rw [← hK] at c43 hfit hlog'
      have hKb : ((K : Int) == 0) = false := by simp; omega
      have HI : Hid (LogInv w wr v d commits turn next f count done ∧ LogIs d.B d.n (nbOf d.n) turn (at_ + K) rs) := ⟨hinv, hlog'⟩
      have hps : ps.length ≤ d.n := by have := le_pagesFor ps.length; rw [← hK] at this; omega
      have c29 : ∀ (W : World) (q : Option Addr) (c : Nat) (pm : List PutM), Below wr.heap.size wr W → PutsAt W q pm → pm.length = ps.length → recOf pm = ps → pm.all (goodPut (nbOf d.n)) = true →
          Calls Tryz.prog 82 #[dp v, .slice q ps.length c] W fun e w' => e = .returned (.tuple #[]) ∧ LogInv w w' v d commits turn next f count (done ++ [ps]) := by
        intro W q c pm hW hp hl hr hg
        obtain ⟨F, hF⟩ := HI.out.1.fr
        have := take_any q pm c v (some ⟨d.a, 0, none⟩) (commits + done.length) turn next f done.flatten.length F _ count (nbOf d.n) W (HI.out.1.vol.below hW) (hF.below hW) hp hg (by omega) (by rw [hl]; omega) (by omega)
        rw [hl] at this
        refine this.mono ?_
        rintro e w' ⟨rfl, hv', ⟨F', hF'⟩, hb'⟩
        refine ⟨rfl, ⟨?_, ⟨F', ?_⟩, ?_, HI.out.1.flt⟩⟩
        · rw [List.length_append, List.length_singleton, ← Nat.add_assoc]; exact hv'
        · rw [hr] at hF'
          have e1 : (done ++ [ps]).flatten = done.flatten ++ ps := by simp
          rw [e1, List.length_append, laidOn_append]
          exact hF'
        · have h1 := HI.out.1.but.trans (But.of_below hW)
          refine ⟨hb'.os.trans h1.os, hb'.tape.trans h1.tape, hb'.output.trans h1.output, Nat.le_trans h1.size hb'.size, fun k hk hn => (hb'.block k (Nat.lt_of_lt_of_le hk h1.size) ?_).trans (h1.block k hk hn)⟩
          rintro (e | e)
          · exact hn e
          · have := HI.out.1.flt; omega
      clear hlog' hinv hd ht hok hBp
      go_wp2_with (first
        | (go_at_call 81; refine c43.mono ?_; rintro e w2 ⟨q2, cc2, pm2, rfl, hB2, hp2, hl2, hr2, hg2⟩; clear c43; have c29' := c29 w2 q2 cc2 pm2 hB2 hp2 hl2 hr2 hg2; clear c29 hp2)
        | (go_at_call 82; refine c29'.mono ?_; rintro e w3 ⟨rfl, hI3⟩; clear c29'; have HI3 : Hid (LogInv w w3 v d commits turn next f count (done ++ [ps])) := hI3; clear hI3))
      go_roundw
      case rel => exact ⟨at_ + K, done ++ [ps], rs, by go_num, by rw [hrec]; simp, HI.out.2, HI3.out⟩
      case measure => simp [intOf]; omega

end Go.Proofs.YtebdgcoandfocaaGreatDoor
