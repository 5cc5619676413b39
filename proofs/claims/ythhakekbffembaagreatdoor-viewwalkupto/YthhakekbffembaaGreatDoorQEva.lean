import Derived.Test.YthhakekbffembaaGreatDoorQPz6
import Derived.Test.YthhakekbffembaaGreatDoorQOmx

namespace Go.Proofs.YthhakekbffembaaGreatDoor.Ck.Y
open Go.RowKit Go.Maps Go.Lib
abbrev okT (t : TypeId) : Prop := t = 77 ∨ t = 117 ∨ t = 152 ∨ t = 158 ∨ t = 161 ∨ t = 131 ∨ t = 125
abbrev okV (t : TypeId) : Prop := okT t ∨ t = 148 ∨ t = 92
def hardF (F : Nat → Prop) (w : World) (b : Nat) : Prop := F b ∧ ∀ cs t fr, w.heap[b]? = some (.cells cs t fr) → okT t
theorem hardF_at {F : Nat → Prop} {w : World} {b : Nat} {cs : Array Value} {t : TypeId} {fr : Nat × Nat} (h : F b) (hb : w.heap[b]? = some (.cells cs t fr)) (ht : okT t) : hardF F w b :=
 ⟨h, fun cs' t' fr' h' => by rw [hb] at h'; cases h'; exact ht⟩
theorem okV_hard {t : TypeId} (h : okV t) : t ≠ 2 ∧ t ≠ 5 := by
 rcases h with (h | h | h | h | h | h | h) | h | h <;> rw [h] <;> decide
theorem hardF_hard (F : Nat → Prop) (w : World) : L.Hard w (hardF F w) := fun _ hb cs t ht => okV_hard (.inl (hb.2 cs t _ ht))
def fixx (e : SR) : SR := ⟨e.o, e.sb, if mkK e.o = true ∨ e.o.kd = 3 then e.x else e.sb, e.did, e.fu, e.fn⟩
theorem doF_fix (e : SR) : doF e.o (fixx e).x = doF e.o e.x := by
 unfold doF fixx
 by_cases h1 : mkK e.o = true
 · simp [h1]
 · by_cases h3 : e.o.kd = 3
   · simp [h3]
   · simp [h1, h3]
theorem unF_fix (e : SR) : unF e.o (fixx e).x = unF e.o e.x := by
 unfold unF fixx
 by_cases h1 : mkK e.o = true
 · simp [h1]
 · by_cases h3 : e.o.kd = 3
   · simp [h3]
   · simp [h1, h3]
theorem fixx_mk {e : SR} (h : mkK e.o = true) : (fixx e).x = e.x := by unfold fixx; simp [h]
theorem fixx_mv {e : SR} (h : e.o.kd = 3) : (fixx e).x = e.x := by unfold fixx; simp [h]
theorem fixx_no {e : SR} (h : mkK e.o = false) (h3 : ¬ e.o.kd = 3) : (fixx e).x = e.sb := by unfold fixx; simp [h, h3]
section
variable {F FO : Nat → Prop} {w w' : World} {gt : Nat} {v : Value} {L : List SR} {U : List PI} {bl : PI → Nat} {kv : PI → Value} {dr : PI → Bool}
theorem SM.xtag (h : SM F FO w gt v L U bl dr) {e : SR} (he : e ∈ L) : ∃ cs t, w.heap[(fixx e).x]? = some (.cells cs t (0, 0)) ∧ (t = 158 ∨ t = 161 ∨ (t = 152 ∧ (fixx e).x = e.sb)) ∧ ((fixx e).x = e.x ∨ (fixx e).x = e.sb) := by
 have hs := h.st e he
 cases h1 : mkK e.o with
 | true => rw [fixx_mk h1]; exact ⟨_, _, hs.mkat h1, .inl rfl, .inl rfl⟩
 | false =>
   by_cases h3 : e.o.kd = 3
   · rw [fixx_mv h3]; exact ⟨_, _, hs.mvat h3, .inr (.inl rfl), .inl rfl⟩
   · rw [fixx_no h1 h3]; exact ⟨_, _, hs.blk, .inr (.inr ⟨rfl, rfl⟩), .inr rfl⟩
theorem SM.tight (h : SM F FO w gt v L U bl dr) {cs : Array Value} (hg : w.heap[gt]? = some (.cells cs 77 (0, 0))) : SM (hardF F w) (hardF FO w) w gt v (L.map fixx) U bl dr := by
 have mem : ∀ e ∈ L.map fixx, ∃ e0 ∈ L, e = fixx e0 := fun e he => by
   obtain ⟨e0, h0, rfl⟩ := List.mem_map.1 he
   exact ⟨e0, h0, rfl⟩
 refine ⟨?_, fun e he => ?_, ?_, ?_, fun e he => ?_, by rw [List.length_map]; exact h.len, fun b hb => ⟨h.sub b hb.1, hb.2⟩, ⟨hardF_at h.gtF.1 hg (by decide), fun hb => h.gtF.2 hb.1⟩, fun g hgo => ?_, fun e he => ?_, fun b hb => h.low b hb.1⟩
 · have : (L.map fixx).map (·.sb) = L.map (·.sb) := by rw [List.map_map]; rfl
   rw [this]; exact h.row
 · obtain ⟨e0, h0, rfl⟩ := mem e he
   have hs := h.st e0 h0
   refine ⟨?_, fun k => ?_, fun k => ?_⟩
   · have e1 : (fixx e0).o = e0.o := rfl
     have e2 : (fixx e0).sb = e0.sb := rfl
     have e3 : (fixx e0).did = e0.did := rfl
     rw [e1, e2, e3, doF_fix, unF_fix]
     exact hs.blk
   · rw [fixx_mk (e := e0) k]; exact hs.mkat k
   · rw [fixx_mv (e := e0) k]; exact hs.mvat k
 · rw [List.pairwise_map]
   refine List.Pairwise.imp_of_mem (fun {a b} ha hb hab => ⟨hab.1, ?_⟩) h.nd
   obtain ⟨c1, t1, a1, a2, a3⟩ := h.xtag ha
   obtain ⟨c2, t2, b1, b2, b3⟩ := h.xtag hb
   intro e
   rw [e] at a1
   rw [a1] at b1
   cases b1
   rcases a2 with a2 | a2 | a2 <;> rcases b2 with b2 | b2 | b2
   · rcases a3 with a3 | a3
     · rcases b3 with b3 | b3
       · exact hab.2 (by rw [← a3, ← b3, e])
       · have := h.st b hb; rw [← b3] at this; rw [this.blk] at a1; cases a1; exact absurd a2 (by decide)
     · have := h.st a ha; rw [← a3, e] at this; rw [this.blk] at a1; cases a1; exact absurd a2 (by decide)
   · exact absurd (a2.symm.trans b2) (by decide)
   · exact absurd (a2.symm.trans b2.1) (by decide)
   · exact absurd (a2.symm.trans b2) (by decide)
   · rcases a3 with a3 | a3
     · rcases b3 with b3 | b3
       · exact hab.2 (by rw [← a3, ← b3, e])
       · have := h.st b hb; rw [← b3] at this; rw [this.blk] at a1; cases a1; exact absurd a2 (by decide)
     · have := h.st a ha; rw [← a3, e] at this; rw [this.blk] at a1; cases a1; exact absurd a2 (by decide)
   · exact absurd (a2.symm.trans b2.1) (by decide)
   · exact absurd (b2.symm.trans a2.1) (by decide)
   · exact absurd (b2.symm.trans a2.1) (by decide)
   · exact hab.1 (by rw [← a2.2, ← b2.2, e])
 · rw [List.pairwise_map]
   exact h.rise
 · obtain ⟨e0, h0, rfl⟩ := mem e he
   exact h.ok e0 h0
 · obtain ⟨_, _, cur, ht⟩ := h.row.tag hgo
   exact ⟨hardF_at (h.rowF g hgo).1 ht (by decide), fun hb => (h.rowF g hgo).2 hb.1⟩
 · obtain ⟨e0, h0, rfl⟩ := mem e he
   have hF := h.stF e0 h0
   obtain ⟨cs, t, a1, a2, a3⟩ := h.xtag h0
   have ht : okT t := by rcases a2 with rfl | rfl | ⟨rfl, _⟩ <;> decide
   refine ⟨hardF_at hF.1 (h.st e0 h0).blk (by decide), fun hb => hF.2.1 hb.1, ?_, ?_⟩
   · refine hardF_at ?_ a1 ht
     rcases a3 with a3 | a3 <;> rw [a3]
     · exact hF.2.2.1
     · exact hF.1
   · intro hb
     rcases a3 with a3 | a3 <;> rw [a3] at hb
     · exact hF.2.2.2 hb.1
     · exact hF.2.1 hb.1
theorem ObjsM.tight {pf pk : PI → PL} (h : ObjsM F w U bl kv dr pf pk) : ObjsM (hardF F w) w U bl kv dr pf pk := by
 refine ⟨h.inj, h.obj, h.kid, h.apart, fun q hq => ⟨hardF_at (h.own q hq).1 (h.obj q hq) (by decide), fun g hg => ?_⟩, h.len⟩
 obtain ⟨m, _, hr⟩ := h.kid q hq
 obtain ⟨_, _, cur, ht⟩ := hr.tag hg
 exact hardF_at ((h.own q hq).2 g hg) ht (by decide)
theorem TreeM.tight {mb : Nat} {B : List PI} {T : List OB} (h : TreeM F w mb B U bl kv dr T) : TreeM (hardF F w) w mb B U bl kv dr T :=
 ⟨h.objs.tight.mono fun b hb => ⟨⟨hb.1.1, hb.2⟩, hb.1.2⟩, h.map, ⟨h.fmb, fun cs t fr hm => by obtain ⟨es, c, hb, _⟩ := h.map; rw [hb] at hm; cases hm⟩, h.bb, h.rt, h.ids, h.drs, h.wf⟩
theorem DoneT.fix {T : List OB} {s : Nat} (h : DoneT bl U L T s) : DoneT bl U (L.map fixx) T s := by
 induction h with
 | nil => exact .nil
 | snoc h1 h2 ih => rw [List.map_append]; exact .snoc (e := fixx _) ih h2
end
theorem TW.tight {F : Nat → Prop} {w : World} {gt : VB} {l : List OG} (h : TW F w gt l) : TW (hardF F w) w gt l := by
 rcases h with ⟨U, bl, dr, h⟩ | ⟨d, T, s, mb, B, U, bl, dr, h⟩
 · obtain ⟨FO, kv, L, v, h1, h2, h3, h4⟩ := h.out
   exact .inl ⟨U, bl, dr, ⟨hardF FO w, kv, L.map fixx, v, h1.tight h3, by rw [← h2, List.map_map]; rfl, h3, h4.tight⟩, h.uid, h.ul⟩
 · obtain ⟨FO, kv, L, v, h1, h2, h3, h4, h5⟩ := h.out
   exact .inr ⟨d, T, s, mb, B, U, bl, dr, ⟨hardF FO w, kv, L.map fixx, v, h1.tight h3, by rw [← h2, List.map_map]; rfl, h3, by rw [← List.map_take]; exact h4.fix, h5.tight⟩, h.dl, h.sd, h.uid, h.ul⟩
theorem TW.cells {F : Nat → Prop} {w : World} {gt : VB} {l : List OG} (h : TW F w gt l) : F gt.b ∧ w.cell? ⟨gt.b, 4, none⟩ = some gt.fv ∧ w.cell? ⟨gt.b, 5, none⟩ = some gt.cn ∧ (∀ k, w.frozen? ⟨gt.b, k, none⟩ = false) ∧ l.length ≤ 800 := by
 rcases h with ⟨U, bl, dr, h⟩ | ⟨d, T, s, mb, B, U, bl, dr, h⟩
 · obtain ⟨FO, kv, L, v, h1, h2, h3, h4⟩ := h.out
   exact ⟨h1.gtF.1, cellOf h3 4, cellOf h3 5, fun k => frozenOf h3 k, by rw [← h2, List.length_map]; exact h1.len⟩
 · obtain ⟨FO, kv, L, v, h1, h2, h3, h4, h5⟩ := h.out
   exact ⟨h1.gtF.1, cellOf h3 4, cellOf h3 5, fun k => frozenOf h3 k, by rw [← h2, List.length_map]; exact h1.len⟩
theorem set_only (w : World) (b k : Nat) (v : Value) : Only (· = b) w (w.setCell ⟨b, k, none⟩ v) := Only.setCell (S := (· = b)) _ _ _ rfl
theorem TW.setFiles {F : Nat → Prop} {w : World} {b : Nat} {fv cn : Value} {l : List OG} (h : TW F w ⟨b, fv, cn⟩ l) (fv' : Value) : TW F (w.setCell ⟨b, 4, none⟩ fv') ⟨b, fv', cn⟩ l := by
 have hO := set_only w b 4 fv'
 rcases h with ⟨U, bl, dr, h⟩ | ⟨d, T, s, mb, B, U, bl, dr, h⟩
 · obtain ⟨FO, kv, L, v, h1, h2, h3, h4⟩ := h.out
   exact .inl ⟨U, bl, dr, ⟨FO, kv, L, v, h1.kept hO (fun _ e => .inl e) ⟨_, h3⟩, h2, heap_set_same (k := 4) h3 fv', h4.kept hO fun c hc e => h1.gtF.2 (by rw [← show c = b from e]; exact hc)⟩, h.uid, h.ul⟩
 · obtain ⟨FO, kv, L, v, h1, h2, h3, h4, h5⟩ := h.out
   exact .inr ⟨d, T, s, mb, B, U, bl, dr, ⟨FO, kv, L, v, h1.kept hO (fun _ e => .inl e) ⟨_, h3⟩, h2, heap_set_same (k := 4) h3 fv', h4, h5.kept hO fun c hc e => h1.gtF.2 (by rw [← show c = b from e]; exact hc)⟩, h.dl, h.sd, h.uid, h.ul⟩
theorem TW.setCount {F : Nat → Prop} {w : World} {b : Nat} {fv cn : Value} {l : List OG} (h : TW F w ⟨b, fv, cn⟩ l) (cn' : Value) : TW F (w.setCell ⟨b, 5, none⟩ cn') ⟨b, fv, cn'⟩ l := by
 have hO := set_only w b 5 cn'
 rcases h with ⟨U, bl, dr, h⟩ | ⟨d, T, s, mb, B, U, bl, dr, h⟩
 · obtain ⟨FO, kv, L, v, h1, h2, h3, h4⟩ := h.out
   exact .inl ⟨U, bl, dr, ⟨FO, kv, L, v, h1.kept hO (fun _ e => .inl e) ⟨_, h3⟩, h2, heap_set_same (k := 5) h3 cn', h4.kept hO fun c hc e => h1.gtF.2 (by rw [← show c = b from e]; exact hc)⟩, h.uid, h.ul⟩
 · obtain ⟨FO, kv, L, v, h1, h2, h3, h4, h5⟩ := h.out
   exact .inr ⟨d, T, s, mb, B, U, bl, dr, ⟨FO, kv, L, v, h1.kept hO (fun _ e => .inl e) ⟨_, h3⟩, h2, heap_set_same (k := 5) h3 cn', h4, h5.kept hO fun c hc e => h1.gtF.2 (by rw [← show c = b from e]; exact hc)⟩, h.dl, h.sd, h.uid, h.ul⟩
theorem TW.fresh (w : World) : TW (· = w.heap.size) (w.alloc (.cells #[.map none, .slice none 0 0, .int .i64 0, .int .i64 0, .map none, .int .i64 0] 77)) ⟨w.heap.size, .map none, .int .i64 0⟩ [] := by
 refine .inl ⟨[], fun _ => 0, fun _ => false, ⟨fun _ => False, fun _ => .slice none 0 0, [], .slice none 0 0, ⟨RowP.nil _ _ _, (fun e he => by simp at he), List.Pairwise.nil, List.Pairwise.nil, (fun e he => by simp at he), Nat.zero_le _, (fun b hb => hb.elim), ⟨rfl, fun f => f⟩, (fun g hg => by cases hg), (fun e he => by simp at he), fun b hb => by rw [show b = w.heap.size from hb]; simp⟩, rfl, heap_alloc_new w _, ?_⟩, (fun q hq => by simp at hq), Nat.le_refl _⟩
 exact ⟨(fun q hq => by simp at hq), (fun q hq => by simp at hq), (fun q hq => by simp at hq), (fun q hq => by simp at hq), (fun q hq => by simp at hq), Nat.zero_le _⟩
end Go.Proofs.YthhakekbffembaaGreatDoor.Ck.Y

namespace Go.Proofs.YthhakekbffembaaGreatDoor.Ck.Y.L
open Go.RowKit Go.Maps Go.Lib
def nm2 : List UInt8 := [111, 108, 100]
def ob (t n : Int) (gb cc l : Nat) : OG := ⟨t, n, 1, 4, 1, 9, 0, 0, ⟨#[]⟩, some ⟨gb, 0, none⟩, l, cc, none, 0, 0⟩
end Go.Proofs.YthhakekbffembaaGreatDoor.Ck.Y.L

namespace Go.Proofs.YthhakekbffembaaGreatDoor.Ck.Y.L
open Go.RowKit Go.Maps Go.Lib
theorem zop_in (w : World) : WIn w ⟨0, 0, 0, 0, 0, 0, 0, 0, ⟨#[]⟩, none, 0, 0, none, 0, 0⟩ [] [] := ⟨fun h => absurd h (by simp), rfl, by simp, by simp, fun h => absurd h (by simp), rfl, by simp, by simp, Nat.zero_le _⟩
theorem heads_nil (w : World) : Calls Tryz.prog 56 #[.pointer none] w fun e w' => e = .returned (.slice none 0 0) ∧ Below w.heap.size w w' := by
 go_enter Tryz.func56, Tryz.ntmps56
 go_wp2
 go_ret
 exact ⟨rfl, Below.refl _ _⟩
theorem last_nil (w : World) : Calls Tryz.prog 95 #[.pointer none] w fun e w' => e = .returned (.agg #[.int .i64 0, .int .i64 0, .int .i64 0, .slice none 0 0, .slice none 0 0]) ∧ Below w.heap.size w w' := by
 go_enter Tryz.func95, Tryz.ntmps95
 go_wp2
 refine bodyPost_ret (v := .agg #[.int .i64 0, .int .i64 0, .int .i64 0, .slice none 0 0, .slice none 0 0]) (by simp [results, Tryz.results95, go_sem]) rfl ?_
 exact ⟨rfl, (below_new w _).out⟩
theorem value_nil (w : World) : Calls Tryz.prog 54 #[.pointer none] w fun e w' => e = .returned (.slice none 0 0) ∧ Below w.heap.size w w' := by
 have c1 := last_nil w
 have f3 := fld3
 have HC : Hid (∀ W, Calls Tryz.prog 94 #[.slice none 0 0] W fun e w' => e = .returned (.slice none 0 0) ∧ Below W.heap.size W w') := fun W => by
   have qT : ∀ (w : World) (a : Option Addr) (n c n' c' : Nat), (binOp .eql 29 (.slice a n c) (.slice none n' c')).run Tryz.prog w = .ok (.bool a.isNone) w := fun w a n c n' c' => Lib.run_eql_slice_nil w _ _ a n c n' c' Tryz.underlying29
   clear c1 f3
   go_enter Tryz.func94, Tryz.ntmps94
   go_wp2
   go_ret
   exact ⟨rfl, Below.refl _ _⟩
 go_enter Tryz.func54, Tryz.ntmps54
 go_wp2_with (first
   | (go_at_call 95; refine Calls_new c1 ?_; clear c1; intro w1 HB1)
   | (go_at_call 94; refine Calls_new (HC.out _) ?_; clear HC; intro w2 HB2))
 go_ret
 exact ⟨rfl, below_thenH HB1.out HB2.out⟩
theorem size_nil (w : World) : Calls Tryz.prog 55 #[.pointer none] w fun e w' => e = .returned (.int .i64 0) ∧ Below w.heap.size w w' := by
 have c1 := last_nil w
 have f3 := fld3
 go_enter Tryz.func55, Tryz.ntmps55
 go_wp2_with (go_at_call 95; refine Calls_new c1 ?_; clear c1; intro w1 HB1)
 go_ret
 exact ⟨rfl, HB1.out⟩
theorem hd_nil : IsHd [] [] := ⟨List.Pairwise.nil, fun x => by simp⟩
def zop : OG := ⟨0, 0, 0, 0, 0, 0, 0, 0, ⟨#[]⟩, none, 0, 0, none, 0, 0⟩
theorem zop_kd : zop.kd ≠ 4 := by unfold zop; simp
theorem add_zop (fb : Nat) (w : World) : Calls Tryz.prog 74 #[.pointer (some ⟨fb, 0, none⟩), opgv zop] w fun e w' => e = .returned (.int .i64 22) ∧ Below w.heap.size w w' := add_bad (o := zop) (ns := []) (bs := []) (zop_in w) (Or.inl zop_kd)
theorem add_zero (fb : Nat) (w : World) : Calls Tryz.prog 74 #[.pointer (some ⟨fb, 0, none⟩), .agg #[.int .i64 0, .int .i64 0, .int .i64 0, .int .i64 0, .int .i64 0, .int .i64 0, .int .i64 0, .int .i64 0, .string ⟨#[]⟩, .slice none 0 0, .slice none 0 0]] w fun e w' => e = .returned (.int .i64 22) ∧ Below w.heap.size w w' := add_zop fb w
end Go.Proofs.YthhakekbffembaaGreatDoor.Ck.Y.L

namespace Go.Proofs.YthhakekbffembaaGreatDoor.Cd
open Go.RowKit Go.Maps
attribute [local go_sem] Oper.semAt_some
set_option maxRecDepth 8000 in
set_option maxHeartbeats 400000 in
theorem short_le (p : Option Addr) (l c : Nat) (n : Nat) (w : World) (h : l ≤ n) :
   Calls Tryz.prog 58 #[.slice p l c, .int .i64 n] w fun e w' => e = .returned (.slice p l c) ∧ w' = w := by
 have hI : ¬ (n : Int) < l := by omega
 go_enter Tryz.func58, Tryz.ntmps58
 go_wp2
 go_ret
 exact ⟨rfl, rfl⟩
set_option maxRecDepth 8000 in
set_option maxHeartbeats 400000 in
theorem short_gt (g o : Nat) (l c : Nat) (n : Nat) (w : World) (h : n < l) (hn : n < 1000000) (hc : l ≤ c) :
   Calls Tryz.prog 58 #[.slice (some ⟨g, o, none⟩) l c, .int .i64 n] w fun e w' => e = .returned (.slice (some ⟨g, o, none⟩) n c) ∧ w' = w := by
 have hI : (n : Int) < l := by omega
 go_enter Tryz.func58, Tryz.ntmps58
 go_wp2
 go_ret
 exact ⟨rfl, rfl⟩
theorem short_any (p : Option Addr) (bs : List (BitVec 8)) (c n : Nat) (w : World) (hc : bs.length ≤ c) (hn6 : n < 1000000) (hb : Bytes w p bs) :
   (Calls Tryz.prog 58 #[.slice p bs.length c, .int .i64 n] w fun e w' => e = .returned (.slice p (bs.take n).length c) ∧ w' = w) ∧ Bytes w p (bs.take n) ∧ (bs.take n).length ≤ c ∧ (bs.take n).length ≤ n := by
 refine ⟨?_, bytes_take hb n, by simp; omega, by simp; omega⟩
 by_cases h : bs.length ≤ n
 · rw [List.take_of_length_le h]
   exact short_le p bs.length c n w h
 · obtain ⟨g, o, rfl, _⟩ := hb (by omega)
   rw [List.length_take, Nat.min_eq_left (by omega)]
   exact short_gt g o bs.length c n w (by omega) hn6 hc
set_option maxRecDepth 8000 in
set_option maxHeartbeats 4000000 in
theorem cut12_any (t n sq kd ot on pt pn : Int) (nm : List UInt8) (p q : Option Addr) (l c m d : Nat) (data : List (BitVec 8)) (ns : List Int) (w : World) (hl : l = data.length) (hlc : data.length ≤ c) (hm : m = ns.length) (hmd : ns.length ≤ d) (hml : ns.length ≤ maxLen) (hp : Bytes w p data) :
   Calls Tryz.prog 25 #[.agg #[.int .i64 t, .int .i64 n, .int .i64 sq, .int .i64 kd, .int .i64 ot, .int .i64 on, .int .i64 pt, .int .i64 pn, .string (bas nm), .slice p l c, .slice q m d]] w fun e w' => e = .returned (.agg #[.int .i64 t, .int .i64 n, .int .i64 sq, .int .i64 kd, .int .i64 ot, .int .i64 on, .int .i64 pt, .int .i64 pn, .string (bas (nm.take 100)), .slice p (data.take 3000).length c, .slice q (Vc.cut ns).length d]) ∧ Below w.heap.size w w' := by
 have B0 : Below w.heap.size w ((w.alloc (.cells #[.int .i64 t, .int .i64 n, .int .i64 sq, .int .i64 kd, .int .i64 ot, .int .i64 on, .int .i64 pt, .int .i64 pn, .string (bas nm), .slice p l c, .slice q m d] 33)).alloc (.cells #[.int .i64 0, .int .i64 0, .int .i64 0, .int .i64 0, .int .i64 0, .int .i64 0, .int .i64 0, .int .i64 0, .string ⟨#[]⟩, .slice none 0 0, .slice none 0 0] 33)) := ((Below.refl _ _).alloc (Nat.le_refl _) _).alloc (by simp) _
 have H1 : ((w.alloc (.cells #[.int .i64 t, .int .i64 n, .int .i64 sq, .int .i64 kd, .int .i64 ot, .int .i64 on, .int .i64 pt, .int .i64 pn, .string (bas nm), .slice p l c, .slice q m d] 33)).alloc (.cells #[.int .i64 0, .int .i64 0, .int .i64 0, .int .i64 0, .int .i64 0, .int .i64 0, .int .i64 0, .int .i64 0, .string ⟨#[]⟩, .slice none 0 0, .slice none 0 0] 33)).heap[w.heap.size]? = some (.cells #[.int .i64 t, .int .i64 n, .int .i64 sq, .int .i64 kd, .int .i64 ot, .int .i64 on, .int .i64 pt, .int .i64 pn, .string (bas nm), .slice p l c, .slice q m d] 33 (0, 0)) := by rw [Below.heap_alloc _ _ _ (by simp)]; exact heap_alloc_new w _
 have H2 : ((w.alloc (.cells #[.int .i64 t, .int .i64 n, .int .i64 sq, .int .i64 kd, .int .i64 ot, .int .i64 on, .int .i64 pt, .int .i64 pn, .string (bas nm), .slice p l c, .slice q m d] 33)).alloc (.cells #[.int .i64 0, .int .i64 0, .int .i64 0, .int .i64 0, .int .i64 0, .int .i64 0, .int .i64 0, .int .i64 0, .string ⟨#[]⟩, .slice none 0 0, .slice none 0 0] 33)).heap[w.heap.size + 1]? = some (.cells #[.int .i64 0, .int .i64 0, .int .i64 0, .int .i64 0, .int .i64 0, .int .i64 0, .int .i64 0, .int .i64 0, .string ⟨#[]⟩, .slice none 0 0, .slice none 0 0] 33 (0, 0)) := by
   have := heap_alloc_new (w.alloc (.cells #[.int .i64 t, .int .i64 n, .int .i64 sq, .int .i64 kd, .int .i64 ot, .int .i64 on, .int .i64 pt, .int .i64 pn, .string (bas nm), .slice p l c, .slice q m d] 33)) (.cells #[.int .i64 0, .int .i64 0, .int .i64 0, .int .i64 0, .int .i64 0, .int .i64 0, .int .i64 0, .int .i64 0, .string ⟨#[]⟩, .slice none 0 0, .slice none 0 0] 33)
   rwa [show (w.alloc (.cells #[.int .i64 t, .int .i64 n, .int .i64 sq, .int .i64 kd, .int .i64 ot, .int .i64 on, .int .i64 pt, .int .i64 pn, .string (bas nm), .slice p l c, .slice q m d] 33)).heap.size = w.heap.size + 1 by simp] at this
 obtain ⟨cS, _⟩ := short_any p data c 3000 ((w.alloc (.cells #[.int .i64 t, .int .i64 n, .int .i64 sq, .int .i64 kd, .int .i64 ot, .int .i64 on, .int .i64 pt, .int .i64 pn, .string (bas nm), .slice p l c, .slice q m d] 33)).alloc (.cells #[.int .i64 0, .int .i64 0, .int .i64 0, .int .i64 0, .int .i64 0, .int .i64 0, .int .i64 0, .int .i64 0, .string ⟨#[]⟩, .slice none 0 0, .slice none 0 0] 33)) hlc (by decide) (below_bytes B0 hp)
 have cC := fun W => Vc.cut_any q ns d W hmd hml
 rw [← hl] at cS
 rw [← hm] at cC
 obtain ⟨l1, hl1⟩ : ∃ l1, (data.take 3000).length = l1 := ⟨_, rfl⟩
 obtain ⟨m1, hm1⟩ : ∃ m1, (Vc.cut ns).length = m1 := ⟨_, rfl⟩
 rw [hl1] at cS
 rw [hm1] at cC
 rw [hl1, hm1]
 have HO : Hid (Below w.heap.size w ((w.alloc (.cells #[.int .i64 t, .int .i64 n, .int .i64 sq, .int .i64 kd, .int .i64 ot, .int .i64 on, .int .i64 pt, .int .i64 pn, .string (bas nm), .slice p l c, .slice q m d] 33)).alloc (.cells #[.int .i64 0, .int .i64 0, .int .i64 0, .int .i64 0, .int .i64 0, .int .i64 0, .int .i64 0, .int .i64 0, .string ⟨#[]⟩, .slice none 0 0, .slice none 0 0] 33)) ∧ ((w.alloc (.cells #[.int .i64 t, .int .i64 n, .int .i64 sq, .int .i64 kd, .int .i64 ot, .int .i64 on, .int .i64 pt, .int .i64 pn, .string (bas nm), .slice p l c, .slice q m d] 33)).alloc (.cells #[.int .i64 0, .int .i64 0, .int .i64 0, .int .i64 0, .int .i64 0, .int .i64 0, .int .i64 0, .int .i64 0, .string ⟨#[]⟩, .slice none 0 0, .slice none 0 0] 33)).heap[w.heap.size]? = some (.cells #[.int .i64 t, .int .i64 n, .int .i64 sq, .int .i64 kd, .int .i64 ot, .int .i64 on, .int .i64 pt, .int .i64 pn, .string (bas nm), .slice p l c, .slice q m d] 33 (0, 0)) ∧ ((w.alloc (.cells #[.int .i64 t, .int .i64 n, .int .i64 sq, .int .i64 kd, .int .i64 ot, .int .i64 on, .int .i64 pt, .int .i64 pn, .string (bas nm), .slice p l c, .slice q m d] 33)).alloc (.cells #[.int .i64 0, .int .i64 0, .int .i64 0, .int .i64 0, .int .i64 0, .int .i64 0, .int .i64 0, .int .i64 0, .string ⟨#[]⟩, .slice none 0 0, .slice none 0 0] 33)).heap[w.heap.size + 1]? = some (.cells #[.int .i64 0, .int .i64 0, .int .i64 0, .int .i64 0, .int .i64 0, .int .i64 0, .int .i64 0, .int .i64 0, .string ⟨#[]⟩, .slice none 0 0, .slice none 0 0] 33 (0, 0))) := ⟨B0, H1, H2⟩
 have hsz := bas_size nm
 clear hl1 hm1 hl hlc hm hmd hml hp
 have ⟨x0, x1, x2, x3, x4, x5, x6, x7, x8, x9, x10⟩ : ((w.alloc (.cells #[.int .i64 t, .int .i64 n, .int .i64 sq, .int .i64 kd, .int .i64 ot, .int .i64 on, .int .i64 pt, .int .i64 pn, .string (bas nm), .slice p l c, .slice q m d] 33)).alloc (.cells #[.int .i64 0, .int .i64 0, .int .i64 0, .int .i64 0, .int .i64 0, .int .i64 0, .int .i64 0, .int .i64 0, .string ⟨#[]⟩, .slice none 0 0, .slice none 0 0] 33)).cell? ⟨w.heap.size, 0, none⟩ = some (.int .i64 t) ∧ ((w.alloc (.cells #[.int .i64 t, .int .i64 n, .int .i64 sq, .int .i64 kd, .int .i64 ot, .int .i64 on, .int .i64 pt, .int .i64 pn, .string (bas nm), .slice p l c, .slice q m d] 33)).alloc (.cells #[.int .i64 0, .int .i64 0, .int .i64 0, .int .i64 0, .int .i64 0, .int .i64 0, .int .i64 0, .int .i64 0, .string ⟨#[]⟩, .slice none 0 0, .slice none 0 0] 33)).cell? ⟨w.heap.size, 1, none⟩ = some (.int .i64 n) ∧ ((w.alloc (.cells #[.int .i64 t, .int .i64 n, .int .i64 sq, .int .i64 kd, .int .i64 ot, .int .i64 on, .int .i64 pt, .int .i64 pn, .string (bas nm), .slice p l c, .slice q m d] 33)).alloc (.cells #[.int .i64 0, .int .i64 0, .int .i64 0, .int .i64 0, .int .i64 0, .int .i64 0, .int .i64 0, .int .i64 0, .string ⟨#[]⟩, .slice none 0 0, .slice none 0 0] 33)).cell? ⟨w.heap.size, 2, none⟩ = some (.int .i64 sq) ∧ ((w.alloc (.cells #[.int .i64 t, .int .i64 n, .int .i64 sq, .int .i64 kd, .int .i64 ot, .int .i64 on, .int .i64 pt, .int .i64 pn, .string (bas nm), .slice p l c, .slice q m d] 33)).alloc (.cells #[.int .i64 0, .int .i64 0, .int .i64 0, .int .i64 0, .int .i64 0, .int .i64 0, .int .i64 0, .int .i64 0, .string ⟨#[]⟩, .slice none 0 0, .slice none 0 0] 33)).cell? ⟨w.heap.size, 3, none⟩ = some (.int .i64 kd) ∧ ((w.alloc (.cells #[.int .i64 t, .int .i64 n, .int .i64 sq, .int .i64 kd, .int .i64 ot, .int .i64 on, .int .i64 pt, .int .i64 pn, .string (bas nm), .slice p l c, .slice q m d] 33)).alloc (.cells #[.int .i64 0, .int .i64 0, .int .i64 0, .int .i64 0, .int .i64 0, .int .i64 0, .int .i64 0, .int .i64 0, .string ⟨#[]⟩, .slice none 0 0, .slice none 0 0] 33)).cell? ⟨w.heap.size, 4, none⟩ = some (.int .i64 ot) ∧ ((w.alloc (.cells #[.int .i64 t, .int .i64 n, .int .i64 sq, .int .i64 kd, .int .i64 ot, .int .i64 on, .int .i64 pt, .int .i64 pn, .string (bas nm), .slice p l c, .slice q m d] 33)).alloc (.cells #[.int .i64 0, .int .i64 0, .int .i64 0, .int .i64 0, .int .i64 0, .int .i64 0, .int .i64 0, .int .i64 0, .string ⟨#[]⟩, .slice none 0 0, .slice none 0 0] 33)).cell? ⟨w.heap.size, 5, none⟩ = some (.int .i64 on) ∧ ((w.alloc (.cells #[.int .i64 t, .int .i64 n, .int .i64 sq, .int .i64 kd, .int .i64 ot, .int .i64 on, .int .i64 pt, .int .i64 pn, .string (bas nm), .slice p l c, .slice q m d] 33)).alloc (.cells #[.int .i64 0, .int .i64 0, .int .i64 0, .int .i64 0, .int .i64 0, .int .i64 0, .int .i64 0, .int .i64 0, .string ⟨#[]⟩, .slice none 0 0, .slice none 0 0] 33)).cell? ⟨w.heap.size, 6, none⟩ = some (.int .i64 pt) ∧ ((w.alloc (.cells #[.int .i64 t, .int .i64 n, .int .i64 sq, .int .i64 kd, .int .i64 ot, .int .i64 on, .int .i64 pt, .int .i64 pn, .string (bas nm), .slice p l c, .slice q m d] 33)).alloc (.cells #[.int .i64 0, .int .i64 0, .int .i64 0, .int .i64 0, .int .i64 0, .int .i64 0, .int .i64 0, .int .i64 0, .string ⟨#[]⟩, .slice none 0 0, .slice none 0 0] 33)).cell? ⟨w.heap.size, 7, none⟩ = some (.int .i64 pn) ∧ ((w.alloc (.cells #[.int .i64 t, .int .i64 n, .int .i64 sq, .int .i64 kd, .int .i64 ot, .int .i64 on, .int .i64 pt, .int .i64 pn, .string (bas nm), .slice p l c, .slice q m d] 33)).alloc (.cells #[.int .i64 0, .int .i64 0, .int .i64 0, .int .i64 0, .int .i64 0, .int .i64 0, .int .i64 0, .int .i64 0, .string ⟨#[]⟩, .slice none 0 0, .slice none 0 0] 33)).cell? ⟨w.heap.size, 8, none⟩ = some (.string (bas nm)) ∧ ((w.alloc (.cells #[.int .i64 t, .int .i64 n, .int .i64 sq, .int .i64 kd, .int .i64 ot, .int .i64 on, .int .i64 pt, .int .i64 pn, .string (bas nm), .slice p l c, .slice q m d] 33)).alloc (.cells #[.int .i64 0, .int .i64 0, .int .i64 0, .int .i64 0, .int .i64 0, .int .i64 0, .int .i64 0, .int .i64 0, .string ⟨#[]⟩, .slice none 0 0, .slice none 0 0] 33)).cell? ⟨w.heap.size, 9, none⟩ = some (.slice p l c) ∧ ((w.alloc (.cells #[.int .i64 t, .int .i64 n, .int .i64 sq, .int .i64 kd, .int .i64 ot, .int .i64 on, .int .i64 pt, .int .i64 pn, .string (bas nm), .slice p l c, .slice q m d] 33)).alloc (.cells #[.int .i64 0, .int .i64 0, .int .i64 0, .int .i64 0, .int .i64 0, .int .i64 0, .int .i64 0, .int .i64 0, .string ⟨#[]⟩, .slice none 0 0, .slice none 0 0] 33)).cell? ⟨w.heap.size, 10, none⟩ = some (.slice q m d) := ⟨cellOf H1 0, cellOf H1 1, cellOf H1 2, cellOf H1 3, cellOf H1 4, cellOf H1 5, cellOf H1 6, cellOf H1 7, cellOf H1 8, cellOf H1 9, cellOf H1 10⟩
 have f9 : ((w.alloc (.cells #[.int .i64 t, .int .i64 n, .int .i64 sq, .int .i64 kd, .int .i64 ot, .int .i64 on, .int .i64 pt, .int .i64 pn, .string (bas nm), .slice p l c, .slice q m d] 33)).alloc (.cells #[.int .i64 0, .int .i64 0, .int .i64 0, .int .i64 0, .int .i64 0, .int .i64 0, .int .i64 0, .int .i64 0, .string ⟨#[]⟩, .slice none 0 0, .slice none 0 0] 33)).frozen? ⟨w.heap.size, 9, none⟩ = false := frozenOf H1 9
 have f8 : ((w.alloc (.cells #[.int .i64 t, .int .i64 n, .int .i64 sq, .int .i64 kd, .int .i64 ot, .int .i64 on, .int .i64 pt, .int .i64 pn, .string (bas nm), .slice p l c, .slice q m d] 33)).alloc (.cells #[.int .i64 0, .int .i64 0, .int .i64 0, .int .i64 0, .int .i64 0, .int .i64 0, .int .i64 0, .int .i64 0, .string ⟨#[]⟩, .slice none 0 0, .slice none 0 0] 33)).frozen? ⟨w.heap.size, 8, none⟩ = false := frozenOf H1 8
 have f10 : ((w.alloc (.cells #[.int .i64 t, .int .i64 n, .int .i64 sq, .int .i64 kd, .int .i64 ot, .int .i64 on, .int .i64 pt, .int .i64 pn, .string (bas nm), .slice p l c, .slice q m d] 33)).alloc (.cells #[.int .i64 0, .int .i64 0, .int .i64 0, .int .i64 0, .int .i64 0, .int .i64 0, .int .i64 0, .int .i64 0, .string ⟨#[]⟩, .slice none 0 0, .slice none 0 0] 33)).frozen? ⟨w.heap.size, 10, none⟩ = false := frozenOf H1 10
 have ⟨z0, z1, z2, z3, z4, z5, z6, z7, z8, z9, z10⟩ : ((w.alloc (.cells #[.int .i64 t, .int .i64 n, .int .i64 sq, .int .i64 kd, .int .i64 ot, .int .i64 on, .int .i64 pt, .int .i64 pn, .string (bas nm), .slice p l c, .slice q m d] 33)).alloc (.cells #[.int .i64 0, .int .i64 0, .int .i64 0, .int .i64 0, .int .i64 0, .int .i64 0, .int .i64 0, .int .i64 0, .string ⟨#[]⟩, .slice none 0 0, .slice none 0 0] 33)).cell? ⟨w.heap.size + 1, 0, none⟩ = some (.int .i64 0) ∧ ((w.alloc (.cells #[.int .i64 t, .int .i64 n, .int .i64 sq, .int .i64 kd, .int .i64 ot, .int .i64 on, .int .i64 pt, .int .i64 pn, .string (bas nm), .slice p l c, .slice q m d] 33)).alloc (.cells #[.int .i64 0, .int .i64 0, .int .i64 0, .int .i64 0, .int .i64 0, .int .i64 0, .int .i64 0, .int .i64 0, .string ⟨#[]⟩, .slice none 0 0, .slice none 0 0] 33)).cell? ⟨w.heap.size + 1, 1, none⟩ = some (.int .i64 0) ∧ ((w.alloc (.cells #[.int .i64 t, .int .i64 n, .int .i64 sq, .int .i64 kd, .int .i64 ot, .int .i64 on, .int .i64 pt, .int .i64 pn, .string (bas nm), .slice p l c, .slice q m d] 33)).alloc (.cells #[.int .i64 0, .int .i64 0, .int .i64 0, .int .i64 0, .int .i64 0, .int .i64 0, .int .i64 0, .int .i64 0, .string ⟨#[]⟩, .slice none 0 0, .slice none 0 0] 33)).cell? ⟨w.heap.size + 1, 2, none⟩ = some (.int .i64 0) ∧ ((w.alloc (.cells #[.int .i64 t, .int .i64 n, .int .i64 sq, .int .i64 kd, .int .i64 ot, .int .i64 on, .int .i64 pt, .int .i64 pn, .string (bas nm), .slice p l c, .slice q m d] 33)).alloc (.cells #[.int .i64 0, .int .i64 0, .int .i64 0, .int .i64 0, .int .i64 0, .int .i64 0, .int .i64 0, .int .i64 0, .string ⟨#[]⟩, .slice none 0 0, .slice none 0 0] 33)).cell? ⟨w.heap.size + 1, 3, none⟩ = some (.int .i64 0) ∧ ((w.alloc (.cells #[.int .i64 t, .int .i64 n, .int .i64 sq, .int .i64 kd, .int .i64 ot, .int .i64 on, .int .i64 pt, .int .i64 pn, .string (bas nm), .slice p l c, .slice q m d] 33)).alloc (.cells #[.int .i64 0, .int .i64 0, .int .i64 0, .int .i64 0, .int .i64 0, .int .i64 0, .int .i64 0, .int .i64 0, .string ⟨#[]⟩, .slice none 0 0, .slice none 0 0] 33)).cell? ⟨w.heap.size + 1, 4, none⟩ = some (.int .i64 0) ∧ ((w.alloc (.cells #[.int .i64 t, .int .i64 n, .int .i64 sq, .int .i64 kd, .int .i64 ot, .int .i64 on, .int .i64 pt, .int .i64 pn, .string (bas nm), .slice p l c, .slice q m d] 33)).alloc (.cells #[.int .i64 0, .int .i64 0, .int .i64 0, .int .i64 0, .int .i64 0, .int .i64 0, .int .i64 0, .int .i64 0, .string ⟨#[]⟩, .slice none 0 0, .slice none 0 0] 33)).cell? ⟨w.heap.size + 1, 5, none⟩ = some (.int .i64 0) ∧ ((w.alloc (.cells #[.int .i64 t, .int .i64 n, .int .i64 sq, .int .i64 kd, .int .i64 ot, .int .i64 on, .int .i64 pt, .int .i64 pn, .string (bas nm), .slice p l c, .slice q m d] 33)).alloc (.cells #[.int .i64 0, .int .i64 0, .int .i64 0, .int .i64 0, .int .i64 0, .int .i64 0, .int .i64 0, .int .i64 0, .string ⟨#[]⟩, .slice none 0 0, .slice none 0 0] 33)).cell? ⟨w.heap.size + 1, 6, none⟩ = some (.int .i64 0) ∧ ((w.alloc (.cells #[.int .i64 t, .int .i64 n, .int .i64 sq, .int .i64 kd, .int .i64 ot, .int .i64 on, .int .i64 pt, .int .i64 pn, .string (bas nm), .slice p l c, .slice q m d] 33)).alloc (.cells #[.int .i64 0, .int .i64 0, .int .i64 0, .int .i64 0, .int .i64 0, .int .i64 0, .int .i64 0, .int .i64 0, .string ⟨#[]⟩, .slice none 0 0, .slice none 0 0] 33)).cell? ⟨w.heap.size + 1, 7, none⟩ = some (.int .i64 0) ∧ ((w.alloc (.cells #[.int .i64 t, .int .i64 n, .int .i64 sq, .int .i64 kd, .int .i64 ot, .int .i64 on, .int .i64 pt, .int .i64 pn, .string (bas nm), .slice p l c, .slice q m d] 33)).alloc (.cells #[.int .i64 0, .int .i64 0, .int .i64 0, .int .i64 0, .int .i64 0, .int .i64 0, .int .i64 0, .int .i64 0, .string ⟨#[]⟩, .slice none 0 0, .slice none 0 0] 33)).cell? ⟨w.heap.size + 1, 8, none⟩ = some (.string ⟨#[]⟩) ∧ ((w.alloc (.cells #[.int .i64 t, .int .i64 n, .int .i64 sq, .int .i64 kd, .int .i64 ot, .int .i64 on, .int .i64 pt, .int .i64 pn, .string (bas nm), .slice p l c, .slice q m d] 33)).alloc (.cells #[.int .i64 0, .int .i64 0, .int .i64 0, .int .i64 0, .int .i64 0, .int .i64 0, .int .i64 0, .int .i64 0, .string ⟨#[]⟩, .slice none 0 0, .slice none 0 0] 33)).cell? ⟨w.heap.size + 1, 9, none⟩ = some (.slice none 0 0) ∧ ((w.alloc (.cells #[.int .i64 t, .int .i64 n, .int .i64 sq, .int .i64 kd, .int .i64 ot, .int .i64 on, .int .i64 pt, .int .i64 pn, .string (bas nm), .slice p l c, .slice q m d] 33)).alloc (.cells #[.int .i64 0, .int .i64 0, .int .i64 0, .int .i64 0, .int .i64 0, .int .i64 0, .int .i64 0, .int .i64 0, .string ⟨#[]⟩, .slice none 0 0, .slice none 0 0] 33)).cell? ⟨w.heap.size + 1, 10, none⟩ = some (.slice none 0 0) := ⟨cellOf H2 0, cellOf H2 1, cellOf H2 2, cellOf H2 3, cellOf H2 4, cellOf H2 5, cellOf H2 6, cellOf H2 7, cellOf H2 8, cellOf H2 9, cellOf H2 10⟩
 have fz : ∀ k, ((w.alloc (.cells #[.int .i64 t, .int .i64 n, .int .i64 sq, .int .i64 kd, .int .i64 ot, .int .i64 on, .int .i64 pt, .int .i64 pn, .string (bas nm), .slice p l c, .slice q m d] 33)).alloc (.cells #[.int .i64 0, .int .i64 0, .int .i64 0, .int .i64 0, .int .i64 0, .int .i64 0, .int .i64 0, .int .i64 0, .string ⟨#[]⟩, .slice none 0 0, .slice none 0 0] 33)).frozen? ⟨w.heap.size + 1, k, none⟩ = false := fun k => frozenOf H2 k
 have ⟨y0, y1, y2, y3, y4, y5, y6, y7, y8, y9, y10⟩ := (⟨fz 0, fz 1, fz 2, fz 3, fz 4, fz 5, fz 6, fz 7, fz 8, fz 9, fz 10⟩ : ((w.alloc (.cells #[.int .i64 t, .int .i64 n, .int .i64 sq, .int .i64 kd, .int .i64 ot, .int .i64 on, .int .i64 pt, .int .i64 pn, .string (bas nm), .slice p l c, .slice q m d] 33)).alloc (.cells #[.int .i64 0, .int .i64 0, .int .i64 0, .int .i64 0, .int .i64 0, .int .i64 0, .int .i64 0, .int .i64 0, .string ⟨#[]⟩, .slice none 0 0, .slice none 0 0] 33)).frozen? ⟨w.heap.size + 1, 0, none⟩ = false ∧ ((w.alloc (.cells #[.int .i64 t, .int .i64 n, .int .i64 sq, .int .i64 kd, .int .i64 ot, .int .i64 on, .int .i64 pt, .int .i64 pn, .string (bas nm), .slice p l c, .slice q m d] 33)).alloc (.cells #[.int .i64 0, .int .i64 0, .int .i64 0, .int .i64 0, .int .i64 0, .int .i64 0, .int .i64 0, .int .i64 0, .string ⟨#[]⟩, .slice none 0 0, .slice none 0 0] 33)).frozen? ⟨w.heap.size + 1, 1, none⟩ = false ∧ ((w.alloc (.cells #[.int .i64 t, .int .i64 n, .int .i64 sq, .int .i64 kd, .int .i64 ot, .int .i64 on, .int .i64 pt, .int .i64 pn, .string (bas nm), .slice p l c, .slice q m d] 33)).alloc (.cells #[.int .i64 0, .int .i64 0, .int .i64 0, .int .i64 0, .int .i64 0, .int .i64 0, .int .i64 0, .int .i64 0, .string ⟨#[]⟩, .slice none 0 0, .slice none 0 0] 33)).frozen? ⟨w.heap.size + 1, 2, none⟩ = false ∧ ((w.alloc (.cells #[.int .i64 t, .int .i64 n, .int .i64 sq, .int .i64 kd, .int .i64 ot, .int .i64 on, .int .i64 pt, .int .i64 pn, .string (bas nm), .slice p l c, .slice q m d] 33)).alloc (.cells #[.int .i64 0, .int .i64 0, .int .i64 0, .int .i64 0, .int .i64 0, .int .i64 0, .int .i64 0, .int .i64 0, .string ⟨#[]⟩, .slice none 0 0, .slice none 0 0] 33)).frozen? ⟨w.heap.size + 1, 3, none⟩ = false ∧ ((w.alloc (.cells #[.int .i64 t, .int .i64 n, .int .i64 sq, .int .i64 kd, .int .i64 ot, .int .i64 on, .int .i64 pt, .int .i64 pn, .string (bas nm), .slice p l c, .slice q m d] 33)).alloc (.cells #[.int .i64 0, .int .i64 0, .int .i64 0, .int .i64 0, .int .i64 0, .int .i64 0, .int .i64 0, .int .i64 0, .string ⟨#[]⟩, .slice none 0 0, .slice none 0 0] 33)).frozen? ⟨w.heap.size + 1, 4, none⟩ = false ∧ ((w.alloc (.cells #[.int .i64 t, .int .i64 n, .int .i64 sq, .int .i64 kd, .int .i64 ot, .int .i64 on, .int .i64 pt, .int .i64 pn, .string (bas nm), .slice p l c, .slice q m d] 33)).alloc (.cells #[.int .i64 0, .int .i64 0, .int .i64 0, .int .i64 0, .int .i64 0, .int .i64 0, .int .i64 0, .int .i64 0, .string ⟨#[]⟩, .slice none 0 0, .slice none 0 0] 33)).frozen? ⟨w.heap.size + 1, 5, none⟩ = false ∧ ((w.alloc (.cells #[.int .i64 t, .int .i64 n, .int .i64 sq, .int .i64 kd, .int .i64 ot, .int .i64 on, .int .i64 pt, .int .i64 pn, .string (bas nm), .slice p l c, .slice q m d] 33)).alloc (.cells #[.int .i64 0, .int .i64 0, .int .i64 0, .int .i64 0, .int .i64 0, .int .i64 0, .int .i64 0, .int .i64 0, .string ⟨#[]⟩, .slice none 0 0, .slice none 0 0] 33)).frozen? ⟨w.heap.size + 1, 6, none⟩ = false ∧ ((w.alloc (.cells #[.int .i64 t, .int .i64 n, .int .i64 sq, .int .i64 kd, .int .i64 ot, .int .i64 on, .int .i64 pt, .int .i64 pn, .string (bas nm), .slice p l c, .slice q m d] 33)).alloc (.cells #[.int .i64 0, .int .i64 0, .int .i64 0, .int .i64 0, .int .i64 0, .int .i64 0, .int .i64 0, .int .i64 0, .string ⟨#[]⟩, .slice none 0 0, .slice none 0 0] 33)).frozen? ⟨w.heap.size + 1, 7, none⟩ = false ∧ ((w.alloc (.cells #[.int .i64 t, .int .i64 n, .int .i64 sq, .int .i64 kd, .int .i64 ot, .int .i64 on, .int .i64 pt, .int .i64 pn, .string (bas nm), .slice p l c, .slice q m d] 33)).alloc (.cells #[.int .i64 0, .int .i64 0, .int .i64 0, .int .i64 0, .int .i64 0, .int .i64 0, .int .i64 0, .int .i64 0, .string ⟨#[]⟩, .slice none 0 0, .slice none 0 0] 33)).frozen? ⟨w.heap.size + 1, 8, none⟩ = false ∧ ((w.alloc (.cells #[.int .i64 t, .int .i64 n, .int .i64 sq, .int .i64 kd, .int .i64 ot, .int .i64 on, .int .i64 pt, .int .i64 pn, .string (bas nm), .slice p l c, .slice q m d] 33)).alloc (.cells #[.int .i64 0, .int .i64 0, .int .i64 0, .int .i64 0, .int .i64 0, .int .i64 0, .int .i64 0, .int .i64 0, .string ⟨#[]⟩, .slice none 0 0, .slice none 0 0] 33)).frozen? ⟨w.heap.size + 1, 9, none⟩ = false ∧ ((w.alloc (.cells #[.int .i64 t, .int .i64 n, .int .i64 sq, .int .i64 kd, .int .i64 ot, .int .i64 on, .int .i64 pt, .int .i64 pn, .string (bas nm), .slice p l c, .slice q m d] 33)).alloc (.cells #[.int .i64 0, .int .i64 0, .int .i64 0, .int .i64 0, .int .i64 0, .int .i64 0, .int .i64 0, .int .i64 0, .string ⟨#[]⟩, .slice none 0 0, .slice none 0 0] 33)).frozen? ⟨w.heap.size + 1, 10, none⟩ = false)
 clear B0 H1 H2 fz
 by_cases h : 100 < nm.length
 · have hI : (100 : Int) < (nm.length : Int) := by omega
   have h90 : 100 ≤ (bas nm).size := by omega
   have HN : Hid ((bas nm).extract 0 100 = bas (nm.take 100)) := by
     show _ = _
     unfold bas
     rw [show ((⟨nm.toArray⟩ : ByteArray).extract 0 100) = ⟨(nm.toArray).extract 0 100⟩ by ext1; simp [ByteArray.data_extract]]
     simp
   go_enter Tryz.func25, Tryz.ntmps25
   go_wp2_with (first | (go_at_call 58; refine Calls_on cS ?_; clear cS) | (go_at_call 59; refine Calls_on (cC _) ?_))
   refine bodyPost_ret (v := .agg #[.int .i64 t, .int .i64 n, .int .i64 sq, .int .i64 kd, .int .i64 ot, .int .i64 on, .int .i64 pt, .int .i64 pn, .string ((bas nm).extract 0 100), .slice p l1 c, .slice q m1 d]) (by simp [results, Tryz.results25, go_sem]) rfl ?_
   refine ⟨by rw [HN.out], ?_⟩
   exact ((Below.refl _ _).alloc (Nat.le_refl _) _).alloc (by simp) _
 · have hI : ¬ (100 : Int) < (nm.length : Int) := by omega
   have HN : Hid (nm.take 100 = nm) := List.take_of_length_le (by omega)
   rw [HN.out]
   go_enter Tryz.func25, Tryz.ntmps25
   go_wp2_with (first | (go_at_call 58; refine Calls_on cS ?_; clear cS) | (go_at_call 59; refine Calls_on (cC _) ?_))
   refine bodyPost_ret (v := .agg #[.int .i64 t, .int .i64 n, .int .i64 sq, .int .i64 kd, .int .i64 ot, .int .i64 on, .int .i64 pt, .int .i64 pn, .string (bas nm), .slice p l1 c, .slice q m1 d]) (by simp [results, Tryz.results25, go_sem]) rfl ?_
   refine ⟨rfl, ?_⟩
   exact ((Below.refl _ _).alloc (Nat.le_refl _) _).alloc (by simp) _
end Go.Proofs.YthhakekbffembaaGreatDoor.Cd

namespace Go.Proofs.YthhakekbffembaaGreatDoor.Ck.Y.L
open Go.RowKit Go.Maps Go.Lib
structure RawIn (w : World) (o : OG) (ns : List Int) (bs : List (BitVec 8)) : Prop where
 seen : Cd.Lies w o.sp (ns.map Cd.iv)
 sl : ns.length = o.sl
 sc : ns.length ≤ o.sc
 le : ns.length ≤ maxLen
 data : Cd.Bytes w o.dp bs
 dl : bs.length = o.dl
 dc : bs.length ≤ o.dc
theorem RawIn.below {w w' : World} {o : OG} {ns : List Int} {bs : List (BitVec 8)} (h : RawIn w o ns bs) (hb : Below w.heap.size w w') : RawIn w' o ns bs := ⟨Cd.below_lies hb h.seen, h.sl, h.sc, h.le, Cd.below_bytes hb h.data, h.dl, h.dc⟩
def OpsL (w : World) (p : Option Addr) (L : List OG) : Prop := 0 < L.length → ∃ g o, p = some ⟨g, o, none⟩ ∧ ∀ (i : Nat) (x : OG), L[i]? = some x → (w.cell? ⟨g, o + i * 11, none⟩ = some (.int .i64 x.t) ∧ w.cell? ⟨g, o + i * 11 + 1, none⟩ = some (.int .i64 x.n) ∧ w.cell? ⟨g, o + i * 11 + 2, none⟩ = some (.int .i64 x.sq) ∧ w.cell? ⟨g, o + i * 11 + 3, none⟩ = some (.int .i64 x.kd) ∧ w.cell? ⟨g, o + i * 11 + 4, none⟩ = some (.int .i64 x.ot) ∧ w.cell? ⟨g, o + i * 11 + 5, none⟩ = some (.int .i64 x.on) ∧ w.cell? ⟨g, o + i * 11 + 6, none⟩ = some (.int .i64 x.pt) ∧ w.cell? ⟨g, o + i * 11 + 7, none⟩ = some (.int .i64 x.pn) ∧ w.cell? ⟨g, o + i * 11 + 8, none⟩ = some (.string x.nm) ∧ w.cell? ⟨g, o + i * 11 + 9, none⟩ = some (.slice x.dp x.dl x.dc) ∧ w.cell? ⟨g, o + i * 11 + 10, none⟩ = some (.slice x.sp x.sl x.sc)) ∧ ∃ ns bs, RawIn w x ns bs
theorem OpsL.below {w w' : World} {p : Option Addr} {L : List OG} (h : OpsL w p L) (hb : Below w.heap.size w w') : OpsL w' p L := by
 intro hl
 obtain ⟨g, o, e, hc⟩ := h hl
 refine ⟨g, o, e, fun i x hx => ?_⟩
 obtain ⟨⟨a0, a1, a2, a3, a4, a5, a6, a7, a8, a9, a10⟩, ns, bs, hr⟩ := hc i x hx
 exact ⟨⟨cell_keptH a0 hb, cell_keptH a1 hb, cell_keptH a2 hb, cell_keptH a3 hb, cell_keptH a4 hb, cell_keptH a5 hb, cell_keptH a6 hb, cell_keptH a7 hb, cell_keptH a8 hb, cell_keptH a9 hb, cell_keptH a10 hb⟩, ns, bs, hr.below hb⟩
def cutO (o : OG) (ns : List Int) (bs : List (BitVec 8)) : OG := { o with nm := Cd.bas (o.nm.data.toList.take 100), dl := (bs.take 3000).length, sl := (Vc.cut ns).length }
theorem RawIn.cut {w : World} {o : OG} {ns : List Int} {bs : List (BitVec 8)} (h : RawIn w o ns bs) : WIn w (cutO o ns bs) (Vc.cut ns) (bs.take 3000) := by
 have h1 : (Vc.cut ns).length ≤ 80 := Vc.cut_le ns
 have h2 : (bs.take 3000).length ≤ 3000 := by rw [List.length_take]; omega
 refine ⟨?_, rfl, ?_, by omega, Cd.bytes_take h.data 3000, rfl, ?_, by omega, ?_⟩
 · unfold Vc.cut
   have := Cd.lies_take h.seen 80
   rwa [← List.map_take] at this
 · have := h.sc
   have : (Vc.cut ns).length ≤ ns.length := by unfold Vc.cut; rw [List.length_take]; omega
   show _ ≤ o.sc; omega
 · have := h.dc
   have : (bs.take 3000).length ≤ bs.length := by rw [List.length_take]; omega
   show _ ≤ o.dc; omega
 · show (Cd.bas (o.nm.data.toList.take 100)).size ≤ 1000000
   rw [Cd.bas_size, List.length_take]; omega
theorem cut_call {w : World} {o : OG} {ns : List Int} {bs : List (BitVec 8)} (h : RawIn w o ns bs) : Calls Tryz.prog 25 #[opgv o] w fun e w' => e = .returned (opgv (cutO o ns bs)) ∧ Below w.heap.size w w' := by
 have := Cd.cut12_any o.t o.n o.sq o.kd o.ot o.on o.pt o.pn o.nm.data.toList o.dp o.sp o.dl o.dc o.sl o.sc bs ns w h.dl.symm h.dc h.sl.symm h.sc h.le h.data
 rw [Cd.bas_of] at this
 exact this
theorem rmay_call {w : World} {o : OG} {ns : List Int} {bs : List (BitVec 8)} (h : WIn w o ns bs) (h1 : ns.length ≤ 1000) : Calls Tryz.prog 26 #[opgv o] w fun e w' => e = .returned (.bool (mayW o ns)) ∧ Below w.heap.size w w' := by
 have := Cd.rmay_any o.t o.n o.sq o.kd o.ot o.on o.pt o.pn o.nm.data.toList o.dp o.sp o.dl o.dc o.sl o.sc ns w (by rw [← Lib.size_eq]; have := h.nm; omega) (by have := h.dl; have := h.bl; omega) h.sl h1 h.seen
 rw [Cd.bas_of] at this
 exact this
structure Taken (w : World) (l : List OG) : Prop where
 each : ∀ o ∈ l, ∃ ns bs, WIn w o ns bs ∧ mayW o ns = true ∧ ns.length ≤ 80
 apart : l.Pairwise fun a b => (a.t, a.n) ≠ (b.t, b.n)
def SmI (u0 w wr : World) (v : Value) (M : List OG) (most : Nat) : Prop := RowG wr w.heap.size v M ∧ Taken u0 M ∧ M.length ≤ most ∧ Below w.heap.size w wr
theorem SmI.step {u0 w wr w2 w3 : World} {v : Value} {M : List OG} {most : Nat} (h : SmI u0 w wr v M most) {x : OG} {ns : List Int} {bs : List (BitVec 8)} (hx : WIn u0 x ns bs) (hm : mayW x ns = true) (hn : ns.length ≤ 80) (ha : ∀ y ∈ M, (y.t, y.n) ≠ (x.t, x.n)) (hl : M.length < most) (b2 : Below wr.heap.size wr w2) {p : Option Addr} {c : Nat}
   (hr : RowG w3 w.heap.size (.slice p (M.length + 1) c) (M ++ [x])) (hg : (w2.alloc (.cells (opgC x) 33)).grownBy w3 v.ownBlock) : SmI u0 w w3 (.slice p (M.length + 1) c) (M ++ [x]) most := by
 obtain ⟨h1, h2, h3, h4⟩ := h
 have b3 : Below w2.heap.size w2 (w2.alloc (.cells (opgC x) 33)) := (below_new _ _).out
 have hO : Only (fun b => v.ownBlock = some b) (w2.alloc (.cells (opgC x) 33)) w3 := ⟨hg.os, hg.tape, hg.output, hg.size, fun k hk hn => hg.block k hk (fun e => hn e.symm)⟩
 have hr2 := (h1.below b2).below b3
 refine ⟨hr, ⟨fun o ho => ?_, List.pairwise_append.2 ⟨h2.apart, by simp, fun a ha' b hb => ?_⟩⟩, by rw [List.length_append]; simp; omega, ?_⟩
 · rcases List.mem_append.1 ho with ho | ho
   · exact h2.each o ho
   · have : o = x := by simpa using ho
     subst this
     exact ⟨ns, bs, hx, hm, hn⟩
 · have : b = x := by simpa using hb
   subst this
   exact ha a ha'
 · have s2 := below_thenH h4 (below_thenH b2 b3)
   refine s2.trans (hO.below s2.size fun b hb => ?_)
   obtain ⟨_, _, hbase⟩ := hr2.tag hb
   exact hbase
def SomeR (u0 w : World) (most : Nat) (e : Ending) (w' : World) : Prop := ∃ v l, e = .returned v ∧ RowG w' w.heap.size v l ∧ Taken u0 l ∧ l.length ≤ most ∧ Below w.heap.size w w'
set_option maxRecDepth 8000 in
set_option maxHeartbeats 8000000 in
theorem some_any (p : Option Addr) (L : List OG) (c most : Nat) (u0 w : World) (huw : Below u0.heap.size u0 w) (hp : OpsL u0 p L) (hL : L.length ≤ maxLen) (hm : most ≤ 1000) :
   Calls Tryz.prog 8 #[.slice p L.length c, .int .i64 (most : Nat)] w (SomeR u0 w most) := by
 have HP : Hid (OpsL u0 p L) := hp
 have HUW : Hid (Below u0.heap.size u0 w) := huw
 have HL : Hid (L.length ≤ maxLen) := hL
 have hL2 : L.length ≤ 9223372036854775807 := by unfold maxLen at hL; omega
 have HI0 : Hid (SmI u0 w w (.slice none 0 0) [] most) := ⟨RowG.nil _ _, ⟨fun o ho => by simp at ho, List.Pairwise.nil⟩, by simp, Below.refl _ _⟩
 clear hp hL huw
 go_enter Tryz.func8, Tryz.ntmps8
 go_wp2
 go_loopw [5, 6] (fun ll ii wr => ∃ (i : Nat) (M : List OG) (p' : Option Addr) (c' : Nat), ll = .slice p' M.length c' ∧ ii = .int .i64 i ∧ i ≤ L.length ∧ Hid (SmI u0 w wr (.slice p' M.length c') M most)) (fun _ ii _ => L.length - (RowKit.intOf ii).toNat)
 case atStart => exact ⟨0, [], none, 0, rfl, rfl, by omega, HI0⟩
 case round =>
   obtain ⟨i, M, p', c', rfl, rfl, hi, HI⟩ := hrel
   generalize wr = wo at *
   by_cases hlt : i < L.length
   · have hltI : (i : Int) < L.length := by omega
     have HLT : Hid (i < L.length) := hlt
     by_cases hml : M.length < most
     · have hmlI : (M.length : Int) < most := by omega
       have HML : Hid (M.length < most) := hml
       obtain ⟨x, hx⟩ : ∃ x, L[i]? = some x := ⟨_, List.getElem?_eq_getElem hlt⟩
       obtain ⟨g, o, rfl, hc⟩ := (HP.out.below (below_thenH HUW.out HI.out.2.2.2)) (by omega)
       obtain ⟨⟨d0, d1, d2, d3, d4, d5, d6, d7, d8, d9, d10⟩, _⟩ := hc i x hx
       obtain ⟨ns, bs, hraw⟩ : ∃ ns bs, RawIn u0 x ns bs := by
         obtain ⟨g2, o2, _, hc2⟩ := HP.out (by omega)
         exact (hc2 i x hx).2
       have HR : Hid (RawIn u0 x ns bs) := hraw
       obtain ⟨z, hz⟩ : ∃ z, cutO x ns bs = z := ⟨_, rfl⟩
       have HZ : Hid (WIn u0 z (Vc.cut ns) (bs.take 3000)) := by rw [← hz]; exact hraw.cut
       have ccut := cut_call (hraw.below (below_thenH HUW.out HI.out.2.2.2))
       rw [hz] at ccut
       have hi9 : i + 1 ≤ 9223372036854775807 := by omega
       clear hc hx hraw hz hlt hml
       simp only [opgv, opgC] at ccut
       obtain ⟨r, hr⟩ : ∃ r, mayW z (Vc.cut ns) = r := ⟨_, rfl⟩
       have HMAY : Hid (mayW z (Vc.cut ns) = r) := hr
       have HRM : Hid (∀ W, Below wo.heap.size wo W → Calls Tryz.prog 26 #[opgv z] W fun e w' => e = .returned (.bool r) ∧ Below W.heap.size W w') := fun W hW => by
         have := rmay_call ((HZ.out.below (below_thenH HUW.out HI.out.2.2.2)).below hW) (Nat.le_trans (Vc.cut_le ns) (by decide))
         rwa [hr] at this
       clear hr
       simp only [opgv, opgC] at HRM
       go_wp2_with (first
         | (go_at_call 25; refine Calls_new ccut ?_; clear ccut; intro w1 HB1)
         | (go_at_call 26; refine Calls_new (HRM.out _ (below_thenH HB1.out (below_new _ _).out)) ?_; clear HRM; intro w2 HB2; have kz := (HB2.out.block w1.heap.size (by simp)).trans (heap_alloc_new w1 (.cells (opgC z) 33)); have HKZ : Hid (w2.heap[w1.heap.size]? = some (.cells (opgC z) 33 (0, 0)) ∧ Below wo.heap.size wo w2) := ⟨kz, below_thenH HB1.out (below_thenH (below_new _ _).out HB2.out)⟩; clear kz d0 d1 d2 d3 d4 d5 d6 d7 d8 d9 d10))
       go_loopw [8, 9] (fun bb kk wr => ∃ (k : Nat) (b : Bool), bb = .bool b ∧ kk = .int .i64 k ∧ k ≤ M.length ∧ Hid (b = true → r = true ∧ ∀ (j : Nat) (y : OG), j < k → M[j]? = some y → (y.t, y.n) ≠ (z.t, z.n)) ∧ Hid (Below w2.heap.size w2 wr)) (fun _ kk _ => M.length - (RowKit.intOf kk).toNat)
       case atStart => exact ⟨0, r, rfl, rfl, by omega, (show _ → _ from fun h => ⟨h, fun j y hj => by omega⟩), Below.refl _ _⟩
       case round =>
         obtain ⟨k, b, rfl, rfl, hk, HU, HB⟩ := hrel
         have hbw : Below wo.heap.size wo wr := below_thenH HKZ.out.2 HB.out
         have HBW : Hid (Below wo.heap.size wo wr) := hbw
         have kz := (HB.out.block _ (block_lt HKZ.out.1)).trans HKZ.out.1
         have HKW : Hid (wr.heap[w1.heap.size]? = some (.cells (opgC z) 33 (0, 0))) := kz
         have hM9 : M.length ≤ 1000 := by have := HML.out; omega
         clear hbw
         by_cases hkt : k < M.length
         · have hktI : (k : Int) < M.length := by omega
           have HKT : Hid (k < M.length) := hkt
           cases b with
           | false =>
             clear kz
             go_wp2_with fail
             go_roundw
             case rel =>
               exact ⟨i + 1, M, p', c', rfl, by go_num, HLT.out, HI.out.1.below HBW.out, HI.out.2.1, HI.out.2.2.1, below_thenH HI.out.2.2.2 HBW.out⟩
             case measure => have := HLT.out; simp [RowKit.intOf]; omega
           | true =>
             obtain ⟨y, hy⟩ : ∃ y, M[k]? = some y := ⟨_, List.getElem?_eq_getElem hkt⟩
             have HY : Hid (M[k]? = some y) := hy
             obtain ⟨p1, c1, e1, hc⟩ := RowG.caps (HI.out.1.below HBW.out)
             cases e1
             obtain ⟨gm, rfl, a0, a1, _⟩ := hc k y hy
             have z0 : wr.cell? ⟨w1.heap.size, 0, none⟩ = some (.int .i64 z.t) := cellOf kz 0
             have z1 : wr.cell? ⟨w1.heap.size, 1, none⟩ = some (.int .i64 z.n) := cellOf kz 1
             have hcall := fun W => same_any y.t y.n z.t z.n W
             obtain ⟨q, hq⟩ : ∃ q, sameB y.t y.n z.t z.n = q := ⟨_, rfl⟩
             rw [hq] at hcall
             have HN : Hid ((!q) = true → r = true ∧ ∀ (j : Nat) (u : OG), j < k + 1 → M[j]? = some u → (u.t, u.n) ≠ (z.t, z.n)) := fun hqf => by
               obtain ⟨h1, h2⟩ := HU.out rfl
               refine ⟨h1, fun j u hj hu => ?_⟩
               by_cases e : j = k
               · subst e
                 rw [HY.out] at hu; cases hu
                 intro e2
                 have e3 : sameB y.t y.n z.t z.n = true := by unfold sameB; rw [(Prod.mk.inj e2).1, (Prod.mk.inj e2).2]; simp
                 rw [e3] at hq
                 rw [← hq] at hqf; cases hqf
               · exact h2 j u (by omega) hu
             clear hc hy hq kz hkt
             go_wp2_with fail
             have HS : ∀ W W', (W.cell? ⟨gm, k * 11, none⟩ = some (.int .i64 y.t) ∧ W.cell? ⟨gm, k * 11 + 1, none⟩ = some (.int .i64 y.n) ∧ W.cell? ⟨w1.heap.size, 0, none⟩ = some (.int .i64 z.t) ∧ W.cell? ⟨w1.heap.size, 1, none⟩ = some (.int .i64 z.n) ∧ Hid (Below wr.heap.size wr W)) → Hid (Below W.heap.size W W') → W'.cell? ⟨gm, k * 11, none⟩ = some (.int .i64 y.t) ∧ W'.cell? ⟨gm, k * 11 + 1, none⟩ = some (.int .i64 y.n) ∧ W'.cell? ⟨w1.heap.size, 0, none⟩ = some (.int .i64 z.t) ∧ W'.cell? ⟨w1.heap.size, 1, none⟩ = some (.int .i64 z.n) ∧ Hid (Below wr.heap.size wr W') := fun W W' h1 h2 =>
               have hb := below_thenH h1.2.2.2.2.out h2.out
               ⟨cell_keptH a0 hb, cell_keptH a1 hb, cell_keptH z0 hb, cell_keptH z1 hb, hb⟩
             have S1 : wr.drew.cell? ⟨gm, k * 11, none⟩ = some (.int .i64 y.t) ∧ wr.drew.cell? ⟨gm, k * 11 + 1, none⟩ = some (.int .i64 y.n) ∧ wr.drew.cell? ⟨w1.heap.size, 0, none⟩ = some (.int .i64 z.t) ∧ wr.drew.cell? ⟨w1.heap.size, 1, none⟩ = some (.int .i64 z.n) ∧ Hid (Below wr.heap.size wr wr.drew) := ⟨a0, a1, z0, z1, below_drewH wr⟩
             have S2 : wr.cell? ⟨gm, k * 11, none⟩ = some (.int .i64 y.t) ∧ wr.cell? ⟨gm, k * 11 + 1, none⟩ = some (.int .i64 y.n) ∧ wr.cell? ⟨w1.heap.size, 0, none⟩ = some (.int .i64 z.t) ∧ wr.cell? ⟨w1.heap.size, 1, none⟩ = some (.int .i64 z.n) ∧ Hid (Below wr.heap.size wr wr) := ⟨a0, a1, z0, z1, Below.refl _ _⟩
             have HF : ∀ W, (W.cell? ⟨gm, k * 11, none⟩ = some (.int .i64 y.t) ∧ W.cell? ⟨gm, k * 11 + 1, none⟩ = some (.int .i64 y.n) ∧ W.cell? ⟨w1.heap.size, 0, none⟩ = some (.int .i64 z.t) ∧ W.cell? ⟨w1.heap.size, 1, none⟩ = some (.int .i64 z.n) ∧ Hid (Below wr.heap.size wr W)) → Below wr.heap.size wr W := fun W hW => hW.2.2.2.2.out
             go_region_held3 (fun W => W.cell? ⟨gm, k * 11, none⟩ = some (.int .i64 y.t) ∧ W.cell? ⟨gm, k * 11 + 1, none⟩ = some (.int .i64 y.n) ∧ W.cell? ⟨w1.heap.size, 0, none⟩ = some (.int .i64 z.t) ∧ W.cell? ⟨w1.heap.size, 1, none⟩ = some (.int .i64 z.n) ∧ Hid (Below wr.heap.size wr W))
               (first | exact S1 | exact S2 | assumption | exact HS _ _ (by assumption) (by assumption))
               (first | (go_at_call 15; refine Calls_new (hcall _) ?_; intro w3 HB3))
             have HB2 : Hid (Below wr.heap.size wr _) := HF _ (by assumption)
             go_wp2_with fail
             go_roundw
             case rel => exact ⟨k + 1, !q, rfl, by go_num, HKT.out, HN, below_thenH HB.out HB2.out⟩
             case measure => have := HKT.out; simp [RowKit.intOf]; omega
         · obtain rfl : k = M.length := by omega
           clear hkt
           cases b with
           | false =>
             clear kz
             go_wp2_with fail
             go_roundw
             case rel =>
               exact ⟨i + 1, M, p', c', rfl, by go_num, HLT.out, HI.out.1.below HBW.out, HI.out.2.1, HI.out.2.2.1, below_thenH HI.out.2.2.2 HBW.out⟩
             case measure => have := HLT.out; simp [RowKit.intOf]; omega
           | true =>
             obtain ⟨z0, z1, z2, z3, z4, z5, z6, z7, z8, z9, z10⟩ := op_cellsG kz
             clear kz
             go_wp2_with (at_builtin; refine wpList_appG rfl _ _ rfl w.heap.size _ M z rfl wr.heap.size rfl ⟨(HI.out.1.below HBW.out).below (below_new _ _).out, heap_alloc_new wr _, by omega, by have := HI.out.2.2.2.size; have := HBW.out.size; simp; omega⟩ ?_; intro p4 c4 w5 H5)
             go_roundw
             case rel =>
               refine ⟨i + 1, M ++ [z], p4, c4, ?_, by go_num, HLT.out, ?_⟩
               · rw [List.length_append]; rfl
               · have hap : ∀ y ∈ M, (y.t, y.n) ≠ (z.t, z.n) := fun y hy => by
                   obtain ⟨j, hj, e⟩ := List.getElem_of_mem hy
                   exact (HU.out rfl).2 j y hj (by rw [List.getElem?_eq_getElem hj, e])
                 have := HI.out.step HZ.out (by rw [HMAY.out]; exact (HU.out rfl).1) (Vc.cut_le ns) hap HML.out HBW.out H5.out.1 H5.out.2.1
                 show SmI u0 w w5 (.slice p4 (M ++ [z]).length c4) (M ++ [z]) most
                 rw [List.length_append]
                 exact this
             case measure => have := HLT.out; simp [RowKit.intOf]; omega
     · have hmlI : ¬ (M.length : Int) < most := by omega
       have hM9 : M.length ≤ 1000 := by have := HI.out.2.2.1; omega
       clear hml
       go_wp2
       go_ret
       exact ⟨_, M, rfl, HI.out⟩
   · obtain rfl : i = L.length := by omega
     go_wp2
     go_ret
     exact ⟨_, M, rfl, HI.out⟩
end Go.Proofs.YthhakekbffembaaGreatDoor.Ck.Y.L
