import Derived.Test.YthhakekbffembaaGreatDoorQPz6
import Derived.Test.YthhakekbffembaaGreatDoorQLk

namespace Go.Proofs.YthhakekbffembaaGreatDoor.Ck.Y
open Go.RowKit Go.Maps Go.Lib
abbrev okT (t : TypeId) : Prop := t = 77 ∨ t = 117 ∨ t = 152 ∨ t = 158 ∨ t = 161 ∨ t = 131 ∨ t = 125
abbrev okV (t : TypeId) : Prop := okT t ∨ t = 148 ∨ t = 92
def hardF (F : Nat → Prop) (w : World) (b : Nat) : Prop := F b ∧ ∀ cs t fr, w.heap[b]? = some (.cells cs t fr) → okT t
theorem hardF_at {F : Nat → Prop} {w : World} {b : Nat} {cs : Array Value} {t : TypeId} {fr : Nat × Nat} (h : F b) (hb : w.heap[b]? = some (.cells cs t fr)) (ht : okT t) : hardF F w b :=
 ⟨h, fun cs' t' fr' h' => by rw [hb] at h'; cases h'; exact ht⟩
theorem okV_hard {t : TypeId} (h : okV t) : t ≠ 2 ∧ t ≠ 5 := by
 rcases h with (h | h | h | h | h | h | h) | h | h <;> rw [h] <;> decide
theorem hardF_hard (F : Nat → Prop) (w : World) : L.Hard w (hardF F w) := fun _ hb cs t ht => okV_hard (.inl (hb.2 cs t _ ht))
def fixx (e : SR) : SR := ⟨e.o, e.sb, if mkK e.o = true ∨ e.o.kd = 3 then e.x else e.sb, e.did, e.fu, e.fn⟩
theorem doF_fix (e : SR) : doF e.o (fixx e).x = doF e.o e.x := by
 unfold doF fixx
 by_cases h1 : mkK e.o = true
 · simp [h1]
 · by_cases h3 : e.o.kd = 3
   · simp [h3]
   · simp [h1, h3]
theorem unF_fix (e : SR) : unF e.o (fixx e).x = unF e.o e.x := by
 unfold unF fixx
 by_cases h1 : mkK e.o = true
 · simp [h1]
 · by_cases h3 : e.o.kd = 3
   · simp [h3]
   · simp [h1, h3]
theorem fixx_mk {e : SR} (h : mkK e.o = true) : (fixx e).x = e.x := by unfold fixx; simp [h]
theorem fixx_mv {e : SR} (h : e.o.kd = 3) : (fixx e).x = e.x := by unfold fixx; simp [h]
theorem fixx_no {e : SR} (h : mkK e.o = false) (h3 : ¬ e.o.kd = 3) : (fixx e).x = e.sb := by unfold fixx; simp [h, h3]
section
variable {F FO : Nat → Prop} {w w' : World} {gt : Nat} {v : Value} {L : List SR} {U : List PI} {bl : PI → Nat} {kv : PI → Value} {dr : PI → Bool}
theorem SM.xtag (h : SM F FO w gt v L U bl dr) {e : SR} (he : e ∈ L) : ∃ cs t, w.heap[(fixx e).x]? = some (.cells cs t (0, 0)) ∧ (t = 158 ∨ t = 161 ∨ (t = 152 ∧ (fixx e).x = e.sb)) ∧ ((fixx e).x = e.x ∨ (fixx e).x = e.sb) := by
 have hs := h.st e he
 cases h1 : mkK e.o with
 | true => rw [fixx_mk h1]; exact ⟨_, _, hs.mkat h1, .inl rfl, .inl rfl⟩
 | false =>
   by_cases h3 : e.o.kd = 3
   · rw [fixx_mv h3]; exact ⟨_, _, hs.mvat h3, .inr (.inl rfl), .inl rfl⟩
   · rw [fixx_no h1 h3]; exact ⟨_, _, hs.blk, .inr (.inr ⟨rfl, rfl⟩), .inr rfl⟩
theorem SM.tight (h : SM F FO w gt v L U bl dr) {cs : Array Value} (hg : w.heap[gt]? = some (.cells cs 77 (0, 0))) : SM (hardF F w) (hardF FO w) w gt v (L.map fixx) U bl dr := by
 have mem : ∀ e ∈ L.map fixx, ∃ e0 ∈ L, e = fixx e0 := fun e he => by
   obtain ⟨e0, h0, rfl⟩ := List.mem_map.1 he
   exact ⟨e0, h0, rfl⟩
 refine ⟨?_, fun e he => ?_, ?_, ?_, fun e he => ?_, by rw [List.length_map]; exact h.len, fun b hb => ⟨h.sub b hb.1, hb.2⟩, ⟨hardF_at h.gtF.1 hg (by decide), fun hb => h.gtF.2 hb.1⟩, fun g hgo => ?_, fun e he => ?_, fun b hb => h.low b hb.1⟩
 · have : (L.map fixx).map (·.sb) = L.map (·.sb) := by rw [List.map_map]; rfl
   rw [this]; exact h.row
 · obtain ⟨e0, h0, rfl⟩ := mem e he
   have hs := h.st e0 h0
   refine ⟨?_, fun k => ?_, fun k => ?_⟩
   · have e1 : (fixx e0).o = e0.o := rfl
     have e2 : (fixx e0).sb = e0.sb := rfl
     have e3 : (fixx e0).did = e0.did := rfl
     rw [e1, e2, e3, doF_fix, unF_fix]
     exact hs.blk
   · rw [fixx_mk (e := e0) k]; exact hs.mkat k
   · rw [fixx_mv (e := e0) k]; exact hs.mvat k
 · rw [List.pairwise_map]
   refine List.Pairwise.imp_of_mem (fun {a b} ha hb hab => ⟨hab.1, ?_⟩) h.nd
   obtain ⟨c1, t1, a1, a2, a3⟩ := h.xtag ha
   obtain ⟨c2, t2, b1, b2, b3⟩ := h.xtag hb
   intro e
   rw [e] at a1
   rw [a1] at b1
   cases b1
   rcases a2 with a2 | a2 | a2 <;> rcases b2 with b2 | b2 | b2
   · rcases a3 with a3 | a3
     · rcases b3 with b3 | b3
       · exact hab.2 (by rw [← a3, ← b3, e])
       · have := h.st b hb; rw [← b3] at this; rw [this.blk] at a1; cases a1; exact absurd a2 (by decide)
     · have := h.st a ha; rw [← a3, e] at this; rw [this.blk] at a1; cases a1; exact absurd a2 (by decide)
   · exact absurd (a2.symm.trans b2) (by decide)
   · exact absurd (a2.symm.trans b2.1) (by decide)
   · exact absurd (a2.symm.trans b2) (by decide)
   · rcases a3 with a3 | a3
     · rcases b3 with b3 | b3
       · exact hab.2 (by rw [← a3, ← b3, e])
       · have := h.st b hb; rw [← b3] at this; rw [this.blk] at a1; cases a1; exact absurd a2 (by decide)
     · have := h.st a ha; rw [← a3, e] at this; rw [this.blk] at a1; cases a1; exact absurd a2 (by decide)
   · exact absurd (a2.symm.trans b2.1) (by decide)
   · exact absurd (b2.symm.trans a2.1) (by decide)
   · exact absurd (b2.symm.trans a2.1) (by decide)
   · exact hab.1 (by rw [← a2.2, ← b2.2, e])
 · rw [List.pairwise_map]
   exact h.rise
 · obtain ⟨e0, h0, rfl⟩ := mem e he
   exact h.ok e0 h0
 · obtain ⟨_, _, cur, ht⟩ := h.row.tag hgo
   exact ⟨hardF_at (h.rowF g hgo).1 ht (by decide), fun hb => (h.rowF g hgo).2 hb.1⟩
 · obtain ⟨e0, h0, rfl⟩ := mem e he
   have hF := h.stF e0 h0
   obtain ⟨cs, t, a1, a2, a3⟩ := h.xtag h0
   have ht : okT t := by rcases a2 with rfl | rfl | ⟨rfl, _⟩ <;> decide
   refine ⟨hardF_at hF.1 (h.st e0 h0).blk (by decide), fun hb => hF.2.1 hb.1, ?_, ?_⟩
   · refine hardF_at ?_ a1 ht
     rcases a3 with a3 | a3 <;> rw [a3]
     · exact hF.2.2.1
     · exact hF.1
   · intro hb
     rcases a3 with a3 | a3 <;> rw [a3] at hb
     · exact hF.2.2.2 hb.1
     · exact hF.2.1 hb.1
theorem ObjsM.tight {pf pk : PI → PL} (h : ObjsM F w U bl kv dr pf pk) : ObjsM (hardF F w) w U bl kv dr pf pk := by
 refine ⟨h.inj, h.obj, h.kid, h.apart, fun q hq => ⟨hardF_at (h.own q hq).1 (h.obj q hq) (by decide), fun g hg => ?_⟩, h.len⟩
 obtain ⟨m, _, hr⟩ := h.kid q hq
 obtain ⟨_, _, cur, ht⟩ := hr.tag hg
 exact hardF_at ((h.own q hq).2 g hg) ht (by decide)
theorem TreeM.tight {mb : Nat} {B : List PI} {T : List OB} (h : TreeM F w mb B U bl kv dr T) : TreeM (hardF F w) w mb B U bl kv dr T :=
 ⟨h.objs.tight.mono fun b hb => ⟨⟨hb.1.1, hb.2⟩, hb.1.2⟩, h.map, ⟨h.fmb, fun cs t fr hm => by obtain ⟨es, c, hb, _⟩ := h.map; rw [hb] at hm; cases hm⟩, h.bb, h.rt, h.ids, h.drs, h.wf⟩
theorem DoneT.fix {T : List OB} {s : Nat} (h : DoneT bl U L T s) : DoneT bl U (L.map fixx) T s := by
 induction h with
 | nil => exact .nil
 | snoc h1 h2 ih => rw [List.map_append]; exact .snoc (e := fixx _) ih h2
end
theorem TW.tight {F : Nat → Prop} {w : World} {gt : VB} {l : List OG} (h : TW F w gt l) : TW (hardF F w) w gt l := by
 rcases h with ⟨U, bl, dr, h⟩ | ⟨d, T, s, mb, B, U, bl, dr, h⟩
 · obtain ⟨FO, kv, L, v, h1, h2, h3, h4⟩ := h.out
   exact .inl ⟨U, bl, dr, ⟨hardF FO w, kv, L.map fixx, v, h1.tight h3, by rw [← h2, List.map_map]; rfl, h3, h4.tight⟩, h.uid, h.ul⟩
 · obtain ⟨FO, kv, L, v, h1, h2, h3, h4, h5⟩ := h.out
   exact .inr ⟨d, T, s, mb, B, U, bl, dr, ⟨hardF FO w, kv, L.map fixx, v, h1.tight h3, by rw [← h2, List.map_map]; rfl, h3, by rw [← List.map_take]; exact h4.fix, h5.tight⟩, h.dl, h.sd, h.uid, h.ul⟩
theorem TW.cells {F : Nat → Prop} {w : World} {gt : VB} {l : List OG} (h : TW F w gt l) : F gt.b ∧ w.cell? ⟨gt.b, 4, none⟩ = some gt.fv ∧ w.cell? ⟨gt.b, 5, none⟩ = some gt.cn ∧ (∀ k, w.frozen? ⟨gt.b, k, none⟩ = false) ∧ l.length ≤ 800 := by
 rcases h with ⟨U, bl, dr, h⟩ | ⟨d, T, s, mb, B, U, bl, dr, h⟩
 · obtain ⟨FO, kv, L, v, h1, h2, h3, h4⟩ := h.out
   exact ⟨h1.gtF.1, cellOf h3 4, cellOf h3 5, fun k => frozenOf h3 k, by rw [← h2, List.length_map]; exact h1.len⟩
 · obtain ⟨FO, kv, L, v, h1, h2, h3, h4, h5⟩ := h.out
   exact ⟨h1.gtF.1, cellOf h3 4, cellOf h3 5, fun k => frozenOf h3 k, by rw [← h2, List.length_map]; exact h1.len⟩
theorem set_only (w : World) (b k : Nat) (v : Value) : Only (· = b) w (w.setCell ⟨b, k, none⟩ v) := Only.setCell (S := (· = b)) _ _ _ rfl
theorem TW.setFiles {F : Nat → Prop} {w : World} {b : Nat} {fv cn : Value} {l : List OG} (h : TW F w ⟨b, fv, cn⟩ l) (fv' : Value) : TW F (w.setCell ⟨b, 4, none⟩ fv') ⟨b, fv', cn⟩ l := by
 have hO := set_only w b 4 fv'
 rcases h with ⟨U, bl, dr, h⟩ | ⟨d, T, s, mb, B, U, bl, dr, h⟩
 · obtain ⟨FO, kv, L, v, h1, h2, h3, h4⟩ := h.out
   exact .inl ⟨U, bl, dr, ⟨FO, kv, L, v, h1.kept hO (fun _ e => .inl e) ⟨_, h3⟩, h2, heap_set_same (k := 4) h3 fv', h4.kept hO fun c hc e => h1.gtF.2 (by rw [← show c = b from e]; exact hc)⟩, h.uid, h.ul⟩
 · obtain ⟨FO, kv, L, v, h1, h2, h3, h4, h5⟩ := h.out
   exact .inr ⟨d, T, s, mb, B, U, bl, dr, ⟨FO, kv, L, v, h1.kept hO (fun _ e => .inl e) ⟨_, h3⟩, h2, heap_set_same (k := 4) h3 fv', h4, h5.kept hO fun c hc e => h1.gtF.2 (by rw [← show c = b from e]; exact hc)⟩, h.dl, h.sd, h.uid, h.ul⟩
theorem TW.setCount {F : Nat → Prop} {w : World} {b : Nat} {fv cn : Value} {l : List OG} (h : TW F w ⟨b, fv, cn⟩ l) (cn' : Value) : TW F (w.setCell ⟨b, 5, none⟩ cn') ⟨b, fv, cn'⟩ l := by
 have hO := set_only w b 5 cn'
 rcases h with ⟨U, bl, dr, h⟩ | ⟨d, T, s, mb, B, U, bl, dr, h⟩
 · obtain ⟨FO, kv, L, v, h1, h2, h3, h4⟩ := h.out
   exact .inl ⟨U, bl, dr, ⟨FO, kv, L, v, h1.kept hO (fun _ e => .inl e) ⟨_, h3⟩, h2, heap_set_same (k := 5) h3 cn', h4.kept hO fun c hc e => h1.gtF.2 (by rw [← show c = b from e]; exact hc)⟩, h.uid, h.ul⟩
 · obtain ⟨FO, kv, L, v, h1, h2, h3, h4, h5⟩ := h.out
   exact .inr ⟨d, T, s, mb, B, U, bl, dr, ⟨FO, kv, L, v, h1.kept hO (fun _ e => .inl e) ⟨_, h3⟩, h2, heap_set_same (k := 5) h3 cn', h4, h5.kept hO fun c hc e => h1.gtF.2 (by rw [← show c = b from e]; exact hc)⟩, h.dl, h.sd, h.uid, h.ul⟩
theorem TW.fresh (w : World) : TW (· = w.heap.size) (w.alloc (.cells #[.map none, .slice none 0 0, .int .i64 0, .int .i64 0, .map none, .int .i64 0] 77)) ⟨w.heap.size, .map none, .int .i64 0⟩ [] := by
 refine .inl ⟨[], fun _ => 0, fun _ => false, ⟨fun _ => False, fun _ => .slice none 0 0, [], .slice none 0 0, ⟨RowP.nil _ _ _, (fun e he => by simp at he), List.Pairwise.nil, List.Pairwise.nil, (fun e he => by simp at he), Nat.zero_le _, (fun b hb => hb.elim), ⟨rfl, fun f => f⟩, (fun g hg => by cases hg), (fun e he => by simp at he), fun b hb => by rw [show b = w.heap.size from hb]; simp⟩, rfl, heap_alloc_new w _, ?_⟩, (fun q hq => by simp at hq), Nat.le_refl _⟩
 exact ⟨(fun q hq => by simp at hq), (fun q hq => by simp at hq), (fun q hq => by simp at hq), (fun q hq => by simp at hq), (fun q hq => by simp at hq), Nat.zero_le _⟩
end Go.Proofs.YthhakekbffembaaGreatDoor.Ck.Y

namespace Go.Proofs.YthhakekbffembaaGreatDoor.Ck.Y.L
open Go.RowKit Go.Maps Go.Lib
def nm2 : List UInt8 := [111, 108, 100]
def ob (t n : Int) (gb cc l : Nat) : OG := ⟨t, n, 1, 4, 1, 9, 0, 0, ⟨#[]⟩, some ⟨gb, 0, none⟩, l, cc, none, 0, 0⟩
end Go.Proofs.YthhakekbffembaaGreatDoor.Ck.Y.L

namespace Go.Proofs.YthhakekbffembaaGreatDoor.Ck.Y.L
open Go.RowKit Go.Maps Go.Lib
theorem zop_in (w : World) : WIn w ⟨0, 0, 0, 0, 0, 0, 0, 0, ⟨#[]⟩, none, 0, 0, none, 0, 0⟩ [] [] := ⟨fun h => absurd h (by simp), rfl, by simp, by simp, fun h => absurd h (by simp), rfl, by simp, by simp, Nat.zero_le _⟩
theorem heads_nil (w : World) : Calls Tryz.prog 56 #[.pointer none] w fun e w' => e = .returned (.slice none 0 0) ∧ Below w.heap.size w w' := by
 go_enter Tryz.func56, Tryz.ntmps56
 go_wp2
 go_ret
 exact ⟨rfl, Below.refl _ _⟩
theorem last_nil (w : World) : Calls Tryz.prog 95 #[.pointer none] w fun e w' => e = .returned (.agg #[.int .i64 0, .int .i64 0, .int .i64 0, .slice none 0 0, .slice none 0 0]) ∧ Below w.heap.size w w' := by
 go_enter Tryz.func95, Tryz.ntmps95
 go_wp2
 refine bodyPost_ret (v := .agg #[.int .i64 0, .int .i64 0, .int .i64 0, .slice none 0 0, .slice none 0 0]) (by simp [results, Tryz.results95, go_sem]) rfl ?_
 exact ⟨rfl, (below_new w _).out⟩
theorem value_nil (w : World) : Calls Tryz.prog 54 #[.pointer none] w fun e w' => e = .returned (.slice none 0 0) ∧ Below w.heap.size w w' := by
 have c1 := last_nil w
 have f3 := fld3
 have HC : Hid (∀ W, Calls Tryz.prog 94 #[.slice none 0 0] W fun e w' => e = .returned (.slice none 0 0) ∧ Below W.heap.size W w') := fun W => by
   have qT : ∀ (w : World) (a : Option Addr) (n c n' c' : Nat), (binOp .eql 29 (.slice a n c) (.slice none n' c')).run Tryz.prog w = .ok (.bool a.isNone) w := fun w a n c n' c' => Lib.run_eql_slice_nil w _ _ a n c n' c' Tryz.underlying29
   clear c1 f3
   go_enter Tryz.func94, Tryz.ntmps94
   go_wp2
   go_ret
   exact ⟨rfl, Below.refl _ _⟩
 go_enter Tryz.func54, Tryz.ntmps54
 go_wp2_with (first
   | (go_at_call 95; refine Calls_new c1 ?_; clear c1; intro w1 HB1)
   | (go_at_call 94; refine Calls_new (HC.out _) ?_; clear HC; intro w2 HB2))
 go_ret
 exact ⟨rfl, below_thenH HB1.out HB2.out⟩
theorem size_nil (w : World) : Calls Tryz.prog 55 #[.pointer none] w fun e w' => e = .returned (.int .i64 0) ∧ Below w.heap.size w w' := by
 have c1 := last_nil w
 have f3 := fld3
 go_enter Tryz.func55, Tryz.ntmps55
 go_wp2_with (go_at_call 95; refine Calls_new c1 ?_; clear c1; intro w1 HB1)
 go_ret
 exact ⟨rfl, HB1.out⟩
theorem hd_nil : IsHd [] [] := ⟨List.Pairwise.nil, fun x => by simp⟩
def zop : OG := ⟨0, 0, 0, 0, 0, 0, 0, 0, ⟨#[]⟩, none, 0, 0, none, 0, 0⟩
theorem zop_kd : zop.kd ≠ 4 := by unfold zop; simp
theorem add_zop (fb : Nat) (w : World) : Calls Tryz.prog 74 #[.pointer (some ⟨fb, 0, none⟩), opgv zop] w fun e w' => e = .returned (.int .i64 22) ∧ Below w.heap.size w w' := add_bad (o := zop) (ns := []) (bs := []) (zop_in w) (Or.inl zop_kd)
theorem add_zero (fb : Nat) (w : World) : Calls Tryz.prog 74 #[.pointer (some ⟨fb, 0, none⟩), .agg #[.int .i64 0, .int .i64 0, .int .i64 0, .int .i64 0, .int .i64 0, .int .i64 0, .int .i64 0, .int .i64 0, .string ⟨#[]⟩, .slice none 0 0, .slice none 0 0]] w fun e w' => e = .returned (.int .i64 22) ∧ Below w.heap.size w w' := add_zop fb w
end Go.Proofs.YthhakekbffembaaGreatDoor.Ck.Y.L
