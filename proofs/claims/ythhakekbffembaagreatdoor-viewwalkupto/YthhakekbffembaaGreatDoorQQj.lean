import Derived.Test.YthhakekbffembaaGreatDoorQQi
import Derived.Test.YthhakekbffembaaGreatDoorQQb

namespace Go.Proofs.YthhakekbffembaaGreatDoor.Ck.Y
open Go.RowKit Go.Maps
theorem ystep_any (base g s : Nat) (T : List OB) (o : OG) (w : World) (h : TreeY w base g T s) (hr : Ranked T) (hl : T.length < 999999) (hs : s < 1000000) : Calls Tryz.prog 76 #[.pointer (some ⟨g, 0, none⟩), opgv o] w (StepPost base g s T o w) := by
 obtain ⟨t, n, sq, kd, ot, on, pt, pn, nm, dp, dl, dc, sp, sl, sc⟩ := o
 by_cases h1 : kd = 1
 · subst h1
   exact ystep_mk1 base g s T t n sq ot on pt pn nm dp dl dc sp sl sc w h hl hs
 · by_cases h2 : kd = 2
   · subst h2
     exact ystep_mk2 base g s T t n sq ot on pt pn nm dp dl dc sp sl sc w h hl hs
   · by_cases h3 : kd = 3
     · subst h3
       exact ystep_mv base g s T t n sq ot on pt pn nm dp dl dc sp sl sc w h hr hs
     · exact ystep_ot kd h1 h2 h3 base g s T t n sq ot on pt pn nm dp dl dc sp sl sc w h
structure FoldI (w wr : World) (v : Value) (m : List OG) (g i : Nat) (T : List OB) (s : Nat) : Prop where
 fold : FoldT [] 0 (m.take i) T s
 tree : TreeY wr w.heap.size g T s
 row : RowG wr w.heap.size v m
 bel : Below w.heap.size w wr
 wf : WfT T
 small : T.length ≤ i ∧ s ≤ i
theorem FoldI.step {w wr w' : World} {v : Value} {m : List OG} {g i s : Nat} {T : List OB} {o : OG} {e : Ending} (h : FoldI w wr v m g i T s) (ho : m[i]? = some o) (h0 : ¬ o.ot = 0) (hp : StepPost w.heap.size g s T o wr e w') : e = .returned (.tuple #[]) ∧ ∃ T' s', FoldI w w' v m g (i + 1) T' s' := by
 obtain ⟨he, T', s', h1, h2, h3⟩ := hp
 have hlen := h1.length
 refine ⟨he, T', s', ?_, h2, h.row.fy h3, h.bel.trans (h3.toBelow h.bel.size), h.wf.step h1 h0, ?_⟩
 · rw [List.take_add_one, ho]
   exact h.fold.snoc h1
 · have := h.small
   omega
set_option maxRecDepth 8000 in
set_option maxHeartbeats 4000000 in
theorem yfold_any (base : Nat) (v : Value) (l : List OG) (w : World) (h : RowG w base v l) (hr : RngG l) (hl : l.length ≤ 1000) (h0 : ∀ o ∈ l, ¬ o.ot = 0) :
   Calls Tryz.prog 29 #[v] w fun e w' => ∃ g m T s, e = .returned (.pointer (some ⟨g, 0, none⟩)) ∧ IsSortedG l m ∧ FoldT [] 0 m T s ∧ WfT T ∧ TreeY w' w.heap.size g T s ∧ Below w.heap.size w w' := by
 have cS := rsorted_any base v l w h hr hl
 have H0 : Hid (∀ o ∈ l, ¬ o.ot = 0) := h0
 clear h hr h0
 go_enter Tryz.func29, Tryz.ntmps29
 go_wp2_with fail
 go_at_call 75
 refine cS.mono ?_
 rintro e w1 ⟨v', m, rfl, hrow, hsort, hB⟩
 clear cS
 obtain ⟨p, c, rfl⟩ := hrow.slice
 have hml : m.length ≤ 1000 := by rw [isSortedG_length hsort]; exact hl
 have HS : Hid (IsSortedG l m ∧ ∀ o ∈ m, ¬ o.ot = 0) := ⟨hsort, fun o ho => H0.out o ((isSortedG_perm hsort).mem_iff.1 ho)⟩
 have HI0 : Hid (FoldI w (w1.alloc (.cells #[.slice none 0 0, .int .i64 0] 51)) (.slice p m.length c) m w1.heap.size 0 [] 0) := by
   have hB1 := (below_new w1 (.cells #[.slice none 0 0, .int .i64 0] 51)).out
   exact ⟨by rw [List.take_zero]; exact .nil _ _, ⟨hB.size, ⟨_, heap_alloc_new w1 _, rfl, .inl ⟨rfl, rfl⟩⟩, by simp⟩, hrow.below hB1, hB.trans (hB1.mono hB.size), WfT.nil, by simp⟩
 obtain ⟨g, hg⟩ : ∃ g, w1.heap.size = g := ⟨_, rfl⟩
 obtain ⟨k, hk⟩ : ∃ k, m.length = k := ⟨_, rfl⟩
 have HM : Hid (m.length = k) := hk
 rw [hk] at hml HI0 ⊢
 clear hrow hsort hB hk
 go_wp2_with fail
 rw [hg] at HI0
 clear hg
 go_loopw [5] (fun vi wr => ∃ (i : Nat) (T : List OB) (s : Nat), vi = .int .i64 i ∧ i ≤ k ∧ Hid (FoldI w wr (.slice p k c) m g i T s)) (fun vi _ => k - (intOf vi).toNat)
 case atStart => exact ⟨0, [], 0, rfl, Nat.zero_le _, HI0⟩
 case round =>
   clear HI0
   obtain ⟨i, T, s, rfl, hi, HI⟩ := hrel
   by_cases hik : i = k
   · subst hik
     go_wp2_with fail
     go_ret
     have hf := HI.out.fold
     rw [← HM.out, List.take_length] at hf
     exact ⟨g, m, T, s, rfl, HS.out.1, hf, HI.out.wf, HI.out.tree, HI.out.bel⟩
   · have hlt : i < k := by omega
     obtain ⟨x, hx⟩ : ∃ x, m[i]? = some x := ⟨_, List.getElem?_eq_getElem (by rw [HM.out]; exact hlt)⟩
     have hW := HI.out.row
     obtain ⟨gl, cap, cur, ev, _⟩ := hW.form (by rw [HM.out]; omega)
     have ev2 : p = some ⟨gl, 0, none⟩ := by injection ev
     subst ev2
     clear ev
     obtain ⟨x0, x1, x2, x3, x4, x5, x6, x7, x8, x9, x10⟩ := hW.cells hx
     have HX : Hid (m[i]? = some x) := hx
     clear hW hx
     go_wp2_with fail
     go_at_call 76
     refine (ystep_any w.heap.size g s T x wr HI.out.tree HI.out.wf.rank (by have := HI.out.small; omega) (by have := HI.out.small; omega)).mono ?_
     intro e w2 hp
     obtain ⟨rfl, T', s', hI⟩ := HI.out.step HX.out (HS.out.2 x (List.mem_of_getElem? HX.out)) hp
     have HI2 : Hid (FoldI w w2 (.slice (some ⟨gl, 0, none⟩) k c) m g (i + 1) T' s') := hI
     clear hI hp x0 x1 x2 x3 x4 x5 x6 x7 x8 x9 x10
     go_wp2_with fail
     go_roundw
     case rel => exact ⟨i + 1, T', s', rfl, by omega, HI2⟩
     case measure => simp [intOf]; omega
end Go.Proofs.YthhakekbffembaaGreatDoor.Ck.Y

namespace Go.Proofs.YthhakekbffembaaGreatDoor.Ck.Y
open Go.RowKit Go.Maps
structure KidI (w wr : World) (T : List OB) (t n : Int) (i j : Nat) (v : Value) (m : List PI) : Prop where
 row : RowI wr w.heap.size v m
 kids : IsKids (T.take i) t n m
 len : m.length = j ∧ j ≤ i
 bel : Below w.heap.size w wr
theorem KidI.below {w wr W : World} {T : List OB} {t n : Int} {i j : Nat} {v : Value} {m : List PI} (h : KidI w wr T t n i j v m) (hb : Below wr.heap.size wr W) : KidI w W T t n i j v m := ⟨h.row.below hb, h.kids, h.len, h.bel.trans (hb.mono h.bel.size)⟩
theorem KidI.pass {w wr : World} {T : List OB} {t n : Int} {i j : Nat} {v : Value} {m : List PI} {o : OB} (h : KidI w wr T t n i j v m) (ho : T[i]? = some o) (hs : sameB o.pt o.pn t n = false) : KidI w wr T t n (i + 1) j v m := by
 refine ⟨h.row, ⟨?_, h.kids.rise⟩, ⟨h.len.1, Nat.le_succ_of_le h.len.2⟩, h.bel⟩
 rw [List.take_add_one, ho]
 show m.Perm (kidsL (T.take i ++ [o]) t n)
 rw [kidsL_snoc, hs]
 simpa using h.kids.perm
structure KidK (w wr : World) (m : List PI) (x : PI) (k j g c : Nat) : Prop where
 row : RowI wr w.heap.size (.slice (some ⟨g, 0, none⟩) (j + 1) c) (insI m k x)
 less : ∀ a ∈ m.drop k, lessP x a
 bel : Below w.heap.size w wr
theorem KidK.below {w wr W : World} {m : List PI} {x : PI} {k j g c : Nat} (h : KidK w wr m x k j g c) (hb : Below wr.heap.size wr W) : KidK w W m x k j g c := ⟨h.row.below hb, h.less, h.bel.trans (hb.mono h.bel.size)⟩
theorem grownI {w0 w w' : World} {v : Value} {l : List PI} {B : Nat} (hb : Below B w0 w) (hB : B ≤ w.heap.size) (hr : RowI w B v l) (hg : w.grownBy w' v.ownBlock) : Below B w0 w' :=
 ⟨hg.os.trans hb.os, hg.tape.trans hb.tape, hg.output.trans hb.output, Nat.le_trans hb.size hg.size, fun k hk => (hg.block k (by omega) (fun e => by
   obtain ⟨_, _, h⟩ := hr.tag e.symm
   omega)).trans (hb.block k hk)⟩
theorem KidK.done {w wr : World} {T : List OB} {t n : Int} {m : List PI} {k i j g c : Nat} {o : OB} (h : KidK w wr m (idp o) k j g c) (ha : ApartT T) (hk : IsKids (T.take i) t n m) (hl : m.length = j ∧ j ≤ i) (ho : T[i]? = some o) (hso : sameB o.pt o.pn t n = true) (hs : k = 0 ∨ ∃ b, m[k - 1]? = some b ∧ ¬ lessP (idp o) b) : KidI w wr T t n (i + 1) (j + 1) (.slice (some ⟨g, 0, none⟩) (j + 1) c) (insI m k (idp o)) := by
 have apart : ∀ a ∈ m, ¬ (a.1 = (idp o).1 ∧ a.2 = (idp o).2) := fun a hm => by
   have h1 := hk.perm.mem_iff.1 hm
   unfold kidsL at h1
   obtain ⟨q, hq, rfl⟩ := List.mem_map.1 h1
   have h2 := (List.mem_filter.1 hq).1
   obtain ⟨z, hz, e⟩ := List.getElem_of_mem h2
   rw [List.length_take] at hz
   rw [List.getElem_take] at e
   obtain ⟨hi, eo⟩ := List.getElem?_eq_some_iff.1 ho
   have h3 := (List.pairwise_iff_getElem.1 ha) z i (by omega) hi (by omega)
   rw [e, eo] at h3
   exact h3
 refine ⟨h.row, ⟨?_, insI_rise hk.rise (fun a hm => ?_) h.less⟩, ⟨by rw [insI_length]; omega, by omega⟩, h.bel⟩
 · rw [List.take_add_one, ho]
   show (insI m k (idp o)).Perm (kidsL (T.take i ++ [o]) t n)
   rw [kidsL_snoc, if_pos hso]
   exact (insI_perm m k (idp o)).trans (hk.perm.append_right _)
 · rcases hs with h0 | ⟨b, hb, hlb⟩
   · subst h0; simp at hm
   · have hbm := List.mem_of_getElem? hb
     have k1 : lessP b (idp o) := lessP_or hlb (fun e => apart b hbm ⟨e.1.symm, e.2.symm⟩)
     obtain ⟨z, hz, e⟩ := List.getElem_of_mem hm
     rw [List.length_take] at hz
     rw [List.getElem_take] at e
     obtain ⟨hkl, hbe⟩ := List.getElem?_eq_some_iff.1 hb
     by_cases hjk : z = k - 1
     · subst hjk
       rw [← e, hbe]
       exact k1
     · have := (List.pairwise_iff_getElem.1 hk.rise) z (k - 1) (by omega) hkl (by omega)
       rw [e, hbe] at this
       exact lessP_trans this k1
theorem insI_swap {T : List PI} {x b : PI} {kk : Nat} (hb : T[kk]? = some b) : (((insI T (kk + 1) x).set kk x).set (kk + 1) b) = insI T kk x := by
 have hk := (List.getElem?_eq_some_iff.1 hb).1
 have e0 : T.drop kk = b :: T.drop (kk + 1) := by
   rw [List.drop_eq_getElem_cons hk]
   have := (List.getElem?_eq_some_iff.1 hb).2
   rw [this]
 have e1 : T.take (kk + 1) = T.take kk ++ [b] := by rw [List.take_add_one, hb]; rfl
 have hl : (T.take kk).length = kk := by rw [List.length_take]; omega
 unfold insI
 rw [e0, e1, List.append_assoc]
 rw [List.set_append_right kk _ (by omega), hl, Nat.sub_self]
 rw [List.set_append_right (kk + 1) _ (by omega), hl, show kk + 1 - kk = 1 by omega]
 rfl
theorem KidK.swap {w W W2 W3 W4 : World} {m : List PI} {x b : PI} {kk j g c : Nat} (h : KidK w W m x (kk + 1) j g c) (hb : m[kk]? = some b) (hle : lessP x b) (hB2 : Below W.heap.size W W2) (ho3 : Only (· = g) W2 W3) (ho4 : Only (· = g) W3 W4) (hrow : RowI W4 w.heap.size (.slice (some ⟨g, 0, none⟩) (j + 1) c) (((insI m (kk + 1) x).set kk x).set (kk + 1) b)) : KidK w W4 m x kk j g c := by
 have hk := (List.getElem?_eq_some_iff.1 hb).1
 have hgb : w.heap.size ≤ g := by obtain ⟨_, _, _, hb, _⟩ := h.row.cur; exact hb
 rw [insI_swap hb] at hrow
 refine ⟨hrow, fun a ha => ?_, ?_⟩
 · rw [List.drop_eq_getElem_cons hk, (List.getElem?_eq_some_iff.1 hb).2, List.mem_cons] at ha
   rcases ha with rfl | ha
   · exact hle
   · exact h.less a ha
 · have h1 := h.bel.trans (hB2.mono h.bel.size)
   exact ⟨ho4.os.trans (ho3.os.trans h1.os), ho4.tape.trans (ho3.tape.trans h1.tape), ho4.output.trans (ho3.output.trans h1.output), Nat.le_trans h1.size (Nat.le_trans ho3.size ho4.size), fun k hk => by
     have s1 := h1.size
     have s2 := ho3.size
     rw [ho4.block k (by omega) (by omega), ho3.block k (by omega) (by omega)]
     exact h1.block k hk⟩
set_option maxRecDepth 8000 in
set_option maxHeartbeats 4000000 in
theorem kd_reg8_no {Q : Exit → Act → World → Prop} {base : Array Value} {dd : List Deferred} {ops : Array Oper} (hops : Tryz.f86.body.bind (regs 8) = some ops)  (w9 : World) (hsz : base.size = 78) (b7 : base.getD 7 undef = .int .i64 0) (hQ : ∀ W, Below w9.heap.size w9 W → Q .normal ⟨putAll base [(some 43, .int .i64 0), (some 44, .bool false), (some 45, .bool false), (some 46, undef), (some 47, undef), (some 48, undef), (some 49, undef), (some 50, undef), (some 51, undef), (some 52, undef), (some 53, undef), (some 54, undef), (some 55, undef), (some 56, .bool false)], dd⟩ W) :
   (Code.region 8 ops true).wp Tryz.prog Q ⟨base, dd⟩ w9 := by
 have hmix := hmx
 have h2 := (show Tryz.f86.body.bind (regs 8) = some _ from rfl).symm.trans hops
 obtain rfl := Option.some.inj h2
 clear h2 hops
 have below9 : Below w9.heap.size w9 w9.drew := (Below.refl _ _).drew
 obtain ⟨LL, hLe⟩ := qL hQ
 have vv0 : vals LL 0 = .int .i64 0 := vL hLe rfl
 have vv1 : vals LL 1 = .bool false := vL hLe rfl
 have vv2 : vals LL 2 = .bool false := vL hLe rfl
 have vv13 : vals LL 13 = .bool false := vL hLe rfl
 refine region_laid hmix (by kernel_rfl) 78 hsz (by kernel_rfl) LL (by rw [hLe]; rfl) (fun _ W => Below w9.heap.size w9 W) below9 ?_ ?_
 · intro b W i o a hS hcl ho hb hd ev kp yl
   match i with
   | 0 => simp only [qq] at ho; subst ho; have e7 := (kp 7 (by kernel_rfl)).trans b7; rw [vv0]; exact dV (by simp [execOp, go_sem, e7]) hS
   | 1 => simp only [qq] at ho; subst ho; have e43 := eD ev hd 0 43 vv0; rw [vv1]; exact dV (by simp [execOp, go_sem, e43]) hS
   | 2 => simp only [qq] at ho; subst ho; have e44 := eD ev hd 1 44 vv1; rw [vv2]; exact dV (by simp [execOp, go_sem, e44]) hS
   | 3 => simp only [qq] at ho; subst ho; exact does_pass rfl (yl 2 45 false rfl (hG hd 2) vv2) (by decide) (vL hLe rfl) (hS)
   | 4 => simp only [qq] at ho; subst ho; exact does_pass rfl (yl 2 45 false rfl (hG hd 2) vv2) (by decide) (vL hLe rfl) (hS)
   | 5 => simp only [qq] at ho; subst ho; exact does_pass rfl (yl 2 45 false rfl (hG hd 2) vv2) (by decide) (vL hLe rfl) (hS)
   | 6 => simp only [qq] at ho; subst ho; exact does_pass rfl (yl 2 45 false rfl (hG hd 2) vv2) (by decide) (vL hLe rfl) (hS)
   | 7 => simp only [qq] at ho; subst ho; exact does_pass rfl (yl 2 45 false rfl (hG hd 2) vv2) (by decide) (vL hLe rfl) (hS)
   | 8 => simp only [qq] at ho; subst ho; exact does_pass rfl (yl 2 45 false rfl (hG hd 2) vv2) (by decide) (vL hLe rfl) (hS)
   | 9 => simp only [qq] at ho; subst ho; exact does_pass rfl (yl 2 45 false rfl (hG hd 2) vv2) (by decide) (vL hLe rfl) (hS)
   | 10 => simp only [qq] at ho; subst ho; exact does_pass rfl (yl 2 45 false rfl (hG hd 2) vv2) (by decide) (vL hLe rfl) (hS)
   | 11 => simp only [qq] at ho; subst ho; exact does_pass rfl (yl 2 45 false rfl (hG hd 2) vv2) (by decide) (vL hLe rfl) (hS)
   | 12 => simp only [qq] at ho; subst ho; exact does_pass rfl (yl 2 45 false rfl (hG hd 2) vv2) (by decide) (vL hLe rfl) (hS)
   | 13 => simp only [qq] at ho; subst ho; have e45 := eD ev hd 2 45 vv2; rw [vv13]; exact dV (by simp [execOp, go_sem, e45]) hS
   | k + 14 => simp at ho
 · intro b' W hS _
   subst hLe
   exact hQ W hS
set_option maxRecDepth 8000 in
set_option maxHeartbeats 4000000 in
theorem kd_reg8 {Q : Exit → Act → World → Prop} {base : Array Value} {dd : List Deferred} {ops : Array Oper} (hops : Tryz.f86.body.bind (regs 8) = some ops) (gl m cl K kk : Nat) (xt xn yt yn : Int) (r : Bool) (w9 : World) (hsz : base.size = 78) (b5 : base.getD 5 undef = .slice (some ⟨gl, 0, none⟩) m cl) (b7 : base.getD 7 undef = .int .i64 (K : Nat)) (hK : 0 < K) (hKm : K < m) (hkm : kk < m) (hsub : (K : Int) - 1 = (kk : Nat)) (hwr : IntKind.i64.wrap (kk : Int) = (kk : Int)) (hx0 : w9.cell? ⟨gl, K * 2, none⟩ = some (.int .i64 xt)) (hx1 : w9.cell? ⟨gl, K * 2 + 1, none⟩ = some (.int .i64 xn)) (hy0 : w9.cell? ⟨gl, kk * 2, none⟩ = some (.int .i64 yt)) (hy1 : w9.cell? ⟨gl, kk * 2 + 1, none⟩ = some (.int .i64 yn)) (cK : ∀ W, Below w9.heap.size w9 W → Calls Tryz.prog 97 #[idv xt xn, idv yt yn] W fun e w' => e = .returned (.bool r) ∧ Below W.heap.size W w') (hQ : ∀ W, Below w9.heap.size w9 W → Q .normal ⟨putAll base [(some 43, .int .i64 (K : Nat)), (some 44, .bool true), (some 45, .bool true), (some 46, .slice (some ⟨gl, 0, none⟩) m cl), (some 47, .int .i64 (K : Nat)), (some 48, .pointer (some ⟨gl, K * 2, none⟩)), (some 49, .agg #[.int .i64 xt, .int .i64 xn]), (some 50, .slice (some ⟨gl, 0, none⟩) m cl), (some 51, .int .i64 (K : Nat)), (some 52, .int .i64 (kk : Nat)), (some 53, .pointer (some ⟨gl, kk * 2, none⟩)), (some 54, .agg #[.int .i64 yt, .int .i64 yn]), (some 55, .bool r), (some 56, .bool r)], dd⟩ W) :
   (Code.region 8 ops true).wp Tryz.prog Q ⟨base, dd⟩ w9 := by
 have hmix := hmx
 have h2 := (show Tryz.f86.body.bind (regs 8) = some _ from rfl).symm.trans hops
 obtain rfl := Option.some.inj h2
 clear h2 hops
 have below9 : Below w9.heap.size w9 w9.drew := (Below.refl _ _).drew
 obtain ⟨LL, hLe⟩ := qL hQ
 have vv0 : vals LL 0 = .int .i64 (K : Nat) := vL hLe rfl
 have vv1 : vals LL 1 = .bool true := vL hLe rfl
 have vv2 : vals LL 2 = .bool true := vL hLe rfl
 have vv3 : vals LL 3 = .slice (some ⟨gl, 0, none⟩) m cl := vL hLe rfl
 have vv4 : vals LL 4 = .int .i64 (K : Nat) := vL hLe rfl
 have vv5 : vals LL 5 = .pointer (some ⟨gl, K * 2, none⟩) := vL hLe rfl
 have vv6 : vals LL 6 = .agg #[.int .i64 xt, .int .i64 xn] := vL hLe rfl
 have vv7 : vals LL 7 = .slice (some ⟨gl, 0, none⟩) m cl := vL hLe rfl
 have vv8 : vals LL 8 = .int .i64 (K : Nat) := vL hLe rfl
 have vv9 : vals LL 9 = .int .i64 (kk : Nat) := vL hLe rfl
 have vv10 : vals LL 10 = .pointer (some ⟨gl, kk * 2, none⟩) := vL hLe rfl
 have vv11 : vals LL 11 = .agg #[.int .i64 yt, .int .i64 yn] := vL hLe rfl
 have vv12 : vals LL 12 = .bool r := vL hLe rfl
 have vv13 : vals LL 13 = .bool r := vL hLe rfl
 refine region_laid hmix (by kernel_rfl) 78 hsz (by kernel_rfl) LL (by rw [hLe]; rfl) (fun _ W => Below w9.heap.size w9 W) below9 ?_ ?_
 · intro b W i o a hS hcl ho hb hd ev kp yl
   match i with
   | 0 => simp only [qq] at ho; subst ho; have e7 := (kp 7 (by kernel_rfl)).trans b7; rw [vv0]; exact dV (by simp [execOp, go_sem, e7]) hS
   | 1 => simp only [qq] at ho; subst ho; have e43 := eD ev hd 0 43 vv0; rw [vv1]; exact dV (by simp [execOp, go_sem, e43, hK]) hS
   | 2 => simp only [qq] at ho; subst ho; have e44 := eD ev hd 1 44 vv1; rw [vv2]; exact dV (by simp [execOp, go_sem, e44]) hS
   | 3 => simp only [qq] at ho; subst ho; have e5 := (kp 5 (by kernel_rfl)).trans b5; rw [vv3]; exact dG (yl 2 45 true rfl (hG hd 2) vv2) (by simp [execOp, go_sem, e5]) hS
   | 4 => simp only [qq] at ho; subst ho; have e7 := (kp 7 (by kernel_rfl)).trans b7; rw [vv4]; exact dG (yl 2 45 true rfl (hG hd 2) vv2) (by simp [execOp, go_sem, e7]) hS
   | 5 => simp only [qq] at ho; subst ho; have e46 := eD ev hd 3 46 vv3; have e47 := eD ev hd 4 47 vv4; rw [vv5]; exact dG (yl 2 45 true rfl (hG hd 2) vv2) (by simp [execOp, go_sem, e46, e47, hKm]) hS
   | 6 => simp only [qq] at ho; subst ho; have e48 := eD ev hd 5 48 vv5; have d9_0 := (hS.cell (p := ⟨gl, K * 2, none⟩) (cell_lt hx0)).trans hx0; have d9_1 := (hS.cell (p := ⟨gl, K * 2 + 1, none⟩) (cell_lt hx1)).trans hx1; rw [vv6]; exact dG (yl 2 45 true rfl (hG hd 2) vv2) (by simp [execOp, go_sem, e48, d9_0, d9_1]) hS
   | 7 => simp only [qq] at ho; subst ho; have e5 := (kp 5 (by kernel_rfl)).trans b5; rw [vv7]; exact dG (yl 2 45 true rfl (hG hd 2) vv2) (by simp [execOp, go_sem, e5]) hS
   | 8 => simp only [qq] at ho; subst ho; have e7 := (kp 7 (by kernel_rfl)).trans b7; rw [vv8]; exact dG (yl 2 45 true rfl (hG hd 2) vv2) (by simp [execOp, go_sem, e7]) hS
   | 9 => simp only [qq] at ho; subst ho; have e51 := eD ev hd 8 51 vv8; rw [vv9]; exact dG (yl 2 45 true rfl (hG hd 2) vv2) (by simp [execOp, go_sem, e51, hsub, hwr]) hS
   | 10 => simp only [qq] at ho; subst ho; have e50 := eD ev hd 7 50 vv7; have e52 := eD ev hd 9 52 vv9; rw [vv10]; exact dG (yl 2 45 true rfl (hG hd 2) vv2) (by simp [execOp, go_sem, e50, e52, hkm]) hS
   | 11 => simp only [qq] at ho; subst ho; have e53 := eD ev hd 10 53 vv10; have d9_0 := (hS.cell (p := ⟨gl, kk * 2, none⟩) (cell_lt hy0)).trans hy0; have d9_1 := (hS.cell (p := ⟨gl, kk * 2 + 1, none⟩) (cell_lt hy1)).trans hy1; rw [vv11]; exact dG (yl 2 45 true rfl (hG hd 2) vv2) (by simp [execOp, go_sem, e53, d9_0, d9_1]) hS
   | 12 =>
     simp only [qq] at ho; subst ho; have e49 := eD ev hd 6 49 vv6; have e54 := eD ev hd 11 54 vv11; rw [vv12]
     refine does_call_g rfl (yl 2 45 true rfl (hG hd 2) vv2) nofun (f := 97) (args := #[.agg #[.int .i64 xt, .int .i64 xn], .agg #[.int .i64 yt, .int .i64 yn]]) ?_ ?_
     · simp [go_sem, e49, e54]
     · exact (cK W hS).mono (fun e w' h => ⟨h.1, hS.trans (h.2.mono hS.size)⟩)
   | 13 => simp only [qq] at ho; subst ho; have e45 := eD ev hd 2 45 vv2; have e55 := eD ev hd 12 55 vv12; rw [vv13]; exact dV (by simp [execOp, go_sem, e45, e55]) hS
   | k + 14 => simp at ho
 · intro b' W hS _
   subst hLe
   exact hQ W hS
set_option maxRecDepth 8000 in
set_option maxHeartbeats 4000000 in
theorem ykids_any (base g s : Nat) (T : List OB) (t n : Int) (w : World) (h : TreeY w base g T s) (ha : ApartT T) :
   Calls Tryz.prog 86 #[.pointer (some ⟨g, 0, none⟩), idv t n] w fun e w' => ∃ v m, e = .returned v ∧ RowI w' w.heap.size v m ∧ IsKids T t n m ∧ Below w.heap.size w w' := by
 obtain ⟨w1, hw1⟩ : ∃ w1, w1 = w.alloc (.cells #[.int .i64 t, .int .i64 n] 28) := ⟨_, rfl⟩
 have hB1 : Below w.heap.size w w1 := by rw [hw1]; exact (below_new w _).out
 have hx1 : w1.heap[w.heap.size]? = some (.cells #[.int .i64 t, .int .i64 n] 28 (0, 0)) := by rw [hw1]; exact heap_alloc_new w _
 have HT : Hid (TreeY w1 base g T s ∧ Below w.heap.size w w1 ∧ ApartT T) := ⟨h.below hB1, hB1, ha⟩
 have HW : Hid (w1 = w.alloc (.cells #[.int .i64 t, .int .i64 n] 28)) := hw1
 obtain ⟨bx, hbx⟩ : ∃ bx, w.heap.size = bx := ⟨_, rfl⟩
 have HBX : Hid (w.heap.size = bx) := hbx
 rw [hbx] at hx1
 have HX : Hid (w1.heap[bx]? = some (.cells #[.int .i64 t, .int .i64 n] 28 (0, 0))) := hx1
 obtain ⟨k, hk⟩ : ∃ k, T.length = k := ⟨_, rfl⟩
 have hkl : k < 1000000 := by rw [← hk]; exact h.len
 have HM : Hid (T.length = k) := hk
 clear hw1 hB1 hx1 h ha hbx hk
 go_enter Tryz.func86, Tryz.ntmps86
 go_wp2_with fail
 rw [← HW.out, HBX.out]
 clear HW
 go_loopw [5, 6] (fun vl vi wr => ∃ (i j : Nat) (p' : Option Addr) (c' : Nat) (m : List PI), vl = .slice p' j c' ∧ vi = .int .i64 i ∧ i ≤ k ∧ j ≤ i ∧ Hid (KidI w1 wr T t n i j (.slice p' j c') m)) (fun _ vi _ => k - (intOf vi).toNat)
 case atStart => exact ⟨0, 0, none, 0, [], rfl, rfl, Nat.zero_le _, Nat.le_refl _, RowI.nil _ _, ⟨by rw [List.take_zero]; exact List.Perm.refl _, List.Pairwise.nil⟩, ⟨rfl, Nat.le_refl _⟩, Below.refl _ _⟩
 case round =>
   obtain ⟨i, j, p', c', m, rfl, rfl, hi, hji, HI⟩ := hrel
   have hT := HT.out.1.below HI.out.bel
   obtain ⟨p, c, hc, _⟩ := hT.view
   rw [HM.out] at hc
   have c0 : wr.cell? ⟨g, 0, none⟩ = some (.slice p k c) := cellOf hc 0
   by_cases hik : i = k
   · subst hik
     clear hT hc
     go_wp2_with fail
     go_ret
     have hkk := HI.out.kids
     rw [← HM.out, List.take_length] at hkk
     refine ⟨_, m, rfl, ?_, hkk, HT.out.2.1.trans (HI.out.bel.mono HT.out.2.1.size)⟩
     have hr := HI.out.row
     refine ⟨hr.1, ?_⟩
     rcases hr.2 with e | ⟨g', cp, cur, hv, hbs, r⟩
     · exact .inl e
     · exact .inr ⟨g', cp, cur, hv, Nat.le_trans HT.out.2.1.size hbs, r⟩
   · have hlt : i < k := by omega
     obtain ⟨o, ho⟩ : ∃ o, T[i]? = some o := ⟨_, List.getElem?_eq_getElem (by rw [HM.out]; exact hlt)⟩
     obtain ⟨gl, cl, hcl, d0, d1, d2, d3, _, _⟩ := hT.ob ho
     rw [HM.out] at hcl
     have ep : p = some ⟨gl, 0, none⟩ ∧ c = cl := by
       rw [hc] at hcl
       simp only [Option.some.injEq, Obj.cells.injEq] at hcl
       have := hcl.1
       simp at this
       exact this
     obtain ⟨rfl, rfl⟩ := ep
     have hbx := (HI.out.bel.block _ (block_lt HX.out)).trans HX.out
     have HC : Hid (wr.heap[g]? = some (.cells #[.slice (some ⟨gl, 0, none⟩) k c, .int .i64 (s : Nat)] 51 (0, 0)) ∧ wr.heap[bx]? = some (.cells #[.int .i64 t, .int .i64 n] 28 (0, 0)) ∧ wr.cell? ⟨gl, i * 6 + 2, none⟩ = some (.int .i64 o.pt) ∧ wr.cell? ⟨gl, i * 6 + 3, none⟩ = some (.int .i64 o.pn) ∧ wr.cell? ⟨gl, i * 6, none⟩ = some (.int .i64 o.it) ∧ wr.cell? ⟨gl, i * 6 + 1, none⟩ = some (.int .i64 o.ii) ∧ T[i]? = some o) := ⟨hc, hbx, d2, d3, d0, d1, ho⟩
     clear hT hc hcl hbx d0 d1 d2 d3 ho
     go_wp2_with fail
     refine kids_reg5 (by kernel_rfl) g bx gl k c i s t n o.pt o.pn (sameB o.pt o.pn t n) _ rfl rfl rfl rfl hlt HC.out.1 HC.out.2.1 HC.out.2.2.1 HC.out.2.2.2.1 (fun W _ => same_any _ _ _ _ W) ?_
     intro W hS
     have HW : Hid (Below wr.heap.size wr W) := hS
     clear hS c0
     simp only [putAll, sA, sB, sC]
     cases hs : sameB o.pt o.pn t n
     · go_wp2_with fail
       go_roundw
       case rel => exact ⟨i + 1, j, p', c', m, rfl, rfl, by omega, by omega, (HI.out.below HW.out).pass HC.out.2.2.2.2.2.2 hs⟩
       case measure => simp [intOf]; omega
     · have HSO : Hid (sameB o.pt o.pn t n = true) := hs
       have c0 : W.cell? ⟨g, 0, none⟩ = some (.slice (some ⟨gl, 0, none⟩) k c) := cellOf ((HW.out.block _ (block_lt HC.out.1)).trans HC.out.1) 0
       have d0 : W.cell? ⟨gl, i * 6, none⟩ = some (.int .i64 o.it) := (HW.out.cell (p := ⟨gl, i * 6, none⟩) (cell_lt HC.out.2.2.2.2.1)).trans HC.out.2.2.2.2.1
       have d1 : W.cell? ⟨gl, i * 6 + 1, none⟩ = some (.int .i64 o.ii) := (HW.out.cell (p := ⟨gl, i * 6 + 1, none⟩) (cell_lt HC.out.2.2.2.2.2.1)).trans HC.out.2.2.2.2.2.1
       have HA : Hid (∀ x, RowI (W.alloc x) w1.heap.size (.slice p' j c') m) := fun x => (HI.out.row.below HW.out).below (below_new W x).out
       have HTl : Hid (m.length = j) := HI.out.len.1
       have hsz : w1.heap.size ≤ W.heap.size := Nat.le_trans HI.out.bel.size HW.out.size
       clear hs
       go_wp2_with (refine wpList_appI rfl _ _ rfl w1.heap.size (.slice p' j c') m (idp o) rfl W.heap.size rfl ⟨HA.out _, heap_alloc_new W _, by rw [HTl.out]; omega, by simp; omega⟩ ?_; intro p2 c2 w2 H2; refine Stop.out ?_)
       refine Stop.mk ?_
       have HK : ∃ g2, p2 = some ⟨g2, 0, none⟩ ∧ Hid (KidK w1 w2 m (idp o) j j g2 c2) := by
         obtain ⟨k1, k2, _⟩ := H2.out
         obtain ⟨g2, cap2, cur2, e2, _⟩ := k1.form (by simp)
         have e3 : p2 = some ⟨g2, 0, none⟩ := by injection e2
         subst e3
         refine ⟨g2, rfl, ?_, ?_, ?_⟩
         · have : insI m j (idp o) = m ++ [idp o] := by
             unfold insI
             rw [List.take_of_length_le (by rw [HTl.out]; exact Nat.le_refl _), List.drop_of_length_le (by rw [HTl.out]; exact Nat.le_refl _)]
           rw [this]
           rw [HTl.out] at k1
           exact k1
         · intro a ha
           rw [List.drop_of_length_le (by rw [HTl.out]; exact Nat.le_refl _)] at ha
           cases ha
         · have hbw := HI.out.bel.trans (HW.out.mono HI.out.bel.size)
           exact grownI (hbw.trans ((below_new W _).out.mono hbw.size)) (by simp; omega) (HA.out _) k2
       obtain ⟨g2, rfl, HK⟩ := HK
       rw [HTl.out]
       have eI : ((j + 1 : Nat) : Int) - 1 = (j : Int) := by omega
       have hj1 : j < 1000000 := by omega
       clear H2 c0 d0 d1 HA hsz
       go_wp2_with fail
       go_loopw [7] (fun vk wr2 => ∃ q : Nat, vk = .int .i64 q ∧ q ≤ j ∧ Hid (KidK w1 wr2 m (idp o) q j g2 c2)) (fun vk _ => (intOf vk).toNat)
       case atStart => exact ⟨j, rfl, Nat.le_refl _, HK⟩
       case round =>
         clear HK
         obtain ⟨q, rfl, hq, HK⟩ := hrel
         by_cases h0 : q = 0
         · subst h0
           go_wp2_with fail
           refine kd_reg8_no (by kernel_rfl) _ rfl rfl ?_
           intro W2 hS
           have HW2 : Hid (Below wr.heap.size wr W2) := hS
           clear hS
           simp only [putAll, sA, sB, sC]
           go_wp2_with fail
           go_roundw
           case rel => exact ⟨i + 1, j + 1, _, _, insI m 0 (idp o), rfl, rfl, by omega, by omega, (HK.out.below HW2.out).done HT.out.2.2 HI.out.kids HI.out.len HC.out.2.2.2.2.2.2 HSO.out (.inl rfl)⟩
           case measure => simp [intOf]; omega
         · obtain ⟨kk, rfl⟩ : ∃ kk, q = kk + 1 := ⟨q - 1, by omega⟩
           obtain ⟨b, hb⟩ : ∃ b, m[kk]? = some b := ⟨_, List.getElem?_eq_getElem (by have := HTl.out; omega)⟩
           have hkT : kk < m.length := by have := HTl.out; omega
           have e1 : (insI m (kk + 1) (idp o))[kk + 1]? = some (idp o) := by
             unfold insI
             rw [List.getElem?_append_right (by rw [List.length_take]; omega), List.length_take, show kk + 1 - min (kk + 1) m.length = 0 by omega]
             rfl
           have e2 : (insI m (kk + 1) (idp o))[kk]? = some b := by
             unfold insI
             rw [List.getElem?_append_left (by rw [List.length_take]; omega), List.getElem?_take, if_pos (by omega), hb]
           have HX2 : Hid (m[kk]? = some b ∧ kk < m.length ∧ (insI m (kk + 1) (idp o))[kk + 1]? = some (idp o) ∧ (insI m (kk + 1) (idp o))[kk]? = some b) := ⟨hb, hkT, e1, e2⟩
           obtain ⟨x0, x1⟩ := HK.out.row.cells e1
           obtain ⟨y0, y1⟩ := HK.out.row.cells e2
           have HXY : Hid (wr.cell? ⟨g2, (kk + 1) * 2, none⟩ = some (.int .i64 (idp o).1) ∧ wr.cell? ⟨g2, (kk + 1) * 2 + 1, none⟩ = some (.int .i64 (idp o).2) ∧ wr.cell? ⟨g2, kk * 2, none⟩ = some (.int .i64 b.1) ∧ wr.cell? ⟨g2, kk * 2 + 1, none⟩ = some (.int .i64 b.2)) := ⟨x0, x1, y0, y1⟩
           clear hb hkT e1 e2 x0 x1 y0 y1
           obtain ⟨K, hK⟩ : ∃ K, K = kk + 1 := ⟨_, rfl⟩
           rw [← hK] at HXY hq HK HX2 ⊢
           have HKk : Hid (K = kk + 1) := hK
           have hK0 : 0 < K := by omega
           have hKm : K < j + 1 := by omega
           have hkm : kk < j + 1 := by omega
           have hsub : (K : Int) - 1 = (kk : Nat) := by omega
           clear hK
           go_wp2_with fail
           refine kd_reg8 (by kernel_rfl) g2 (j + 1) c2 K kk (idp o).1 (idp o).2 b.1 b.2 (lessB (idp o).1 (idp o).2 b.1 b.2) _ rfl rfl rfl hK0 hKm hkm hsub (by rw [IntKind.wrap_i64]; omega) HXY.out.1 HXY.out.2.1 HXY.out.2.2.1 HXY.out.2.2.2 (fun W _ => rless_any _ _ _ _ W) ?_
           intro W2 hS
           have HW2 : Hid (Below wr.heap.size wr W2) := hS
           clear hS
           simp only [putAll, sA, sB, sC]
           cases hle : lessB (idp o).1 (idp o).2 b.1 b.2
           · have HNL : Hid (¬ lessP (idp o) b) := fun e => by unfold lessP at e; rw [hle] at e; cases e
             clear hle
             go_wp2_with fail
             go_roundw
             case rel => exact ⟨i + 1, j + 1, _, _, insI m K (idp o), rfl, rfl, by omega, by omega, (HK.out.below HW2.out).done HT.out.2.2 HI.out.kids HI.out.len HC.out.2.2.2.2.2.2 HSO.out (.inr ⟨b, by rw [HKk.out]; exact HX2.out.1, HNL.out⟩)⟩
             case measure => simp [intOf]; omega
           · have HLE : Hid (lessP (idp o) b) := hle
             have hWr := HK.out.row.below HW2.out
             obtain ⟨x0, x1⟩ := hWr.cells HX2.out.2.2.1
             obtain ⟨y0, y1⟩ := hWr.cells HX2.out.2.2.2
             have lg : g2 < W2.heap.size := by obtain ⟨cur, hcur, _⟩ := hWr.cur; exact block_lt hcur
             have n1 : ¬ g2 = W2.heap.size := by omega
             have n2 : ¬ g2 = W2.heap.size + 1 := by omega
             have n3 : ¬ W2.heap.size = g2 := by omega
             have n4 : ¬ W2.heap.size + 1 = g2 := by omega
             clear hle hWr
             go_wp2_with fail
             go_region
             · generalize hW2 : ((W2.alloc (.cells #[.int .i64 b.1, .int .i64 b.2] 28)).alloc (.cells #[.int .i64 (idp o).1, .int .i64 (idp o).2] 28)).drew = W3
               have hA : W3.heap[W2.heap.size]? = some (.cells (idC b) 28 (0, 0)) := by rw [← hW2]; exact heap_alloc2_old W2 _ _
               have hB : W3.heap[W2.heap.size + 1]? = some (.cells (idC (idp o)) 28 (0, 0)) := by rw [← hW2]; exact heap_alloc2_new W2 _ _
               have hB2 : Below W2.heap.size W2 W3 := by
                 rw [← hW2]
                 have := (below_two W2 (.cells #[.int .i64 b.1, .int .i64 b.2] 28) (.cells #[.int .i64 (idp o).1, .int .i64 (idp o).2] 28)).out
                 exact ⟨this.os, this.tape, this.output, this.size, this.block⟩
               have HR2 : Hid (RowI W3 w1.heap.size (.slice (some ⟨g2, 0, none⟩) (j + 1) c2) (insI m K (idp o)) ∧ kk < (insI m K (idp o)).length) := ⟨(HK.out.row.below HW2.out).below hB2, (List.getElem?_eq_some_iff.1 HX2.out.2.2.2).1⟩
               have HKl : Hid (K < (insI m K (idp o)).length) := (List.getElem?_eq_some_iff.1 HX2.out.2.2.1).1
               have z0 : W3.cell? ⟨W2.heap.size + 1, 0, none⟩ = some (.int .i64 (idp o).1) := cellOf hB 0
               have z1 : W3.cell? ⟨W2.heap.size + 1, 1, none⟩ = some (.int .i64 (idp o).2) := cellOf hB 1
               have H2 : Hid (Below W2.heap.size W2 W3 ∧ W3.heap[W2.heap.size]? = some (.cells (idC b) 28 (0, 0))) := ⟨hB2, hA⟩
               clear hW2 hA hB hB2 x0 x1 y0 y1
               go_wp2_with (refine wpList_setI rfl _ _ rfl w1.heap.size g2 (j + 1) c2 kk (insI m K (idp o)) (idp o) rfl rfl HR2 ?_; intro W4 H3; refine Stop.out ?_)
               refine Stop.mk ?_
               have hA3 := (H3.out.2.1.block _ (block_lt H2.out.2) (by omega)).trans H2.out.2
               have v0 : W4.cell? ⟨W2.heap.size, 0, none⟩ = some (.int .i64 b.1) := cellOf hA3 0
               have v1 : W4.cell? ⟨W2.heap.size, 1, none⟩ = some (.int .i64 b.2) := cellOf hA3 1
               have HR3 : Hid (RowI W4 w1.heap.size (.slice (some ⟨g2, 0, none⟩) (j + 1) c2) ((insI m K (idp o)).set kk (idp o)) ∧ K < ((insI m K (idp o)).set kk (idp o)).length) := ⟨H3.out.1, by rw [List.length_set]; exact HKl.out⟩
               clear hA3 z0 z1
               go_wp2_with (refine wpList_setI rfl _ _ rfl w1.heap.size g2 (j + 1) c2 K ((insI m K (idp o)).set kk (idp o)) b rfl rfl HR3 ?_; intro W5 H4; refine Stop.out ?_)
               refine Stop.mk ?_
               clear v0 v1
               go_wp2_with fail
               go_roundw
               case rel =>
                 refine ⟨kk, rfl, by omega, ?_⟩
                 obtain ⟨k1, k2, k3⟩ := H4.out
                 have hD := HK.out.below HW2.out
                 have e := HKk.out
                 subst e
                 exact hD.swap HX2.out.1 HLE.out H2.out.1 H3.out.2.1 k2 k1
               case measure => simp [intOf]; omega
             · generalize hW2 : ((W2.alloc (.cells #[.int .i64 (idp o).1, .int .i64 (idp o).2] 28)).alloc (.cells #[.int .i64 b.1, .int .i64 b.2] 28)).drew = W3
               have hA : W3.heap[W2.heap.size + 1]? = some (.cells (idC b) 28 (0, 0)) := by rw [← hW2]; exact heap_alloc2_new W2 _ _
               have hB : W3.heap[W2.heap.size]? = some (.cells (idC (idp o)) 28 (0, 0)) := by rw [← hW2]; exact heap_alloc2_old W2 _ _
               have hB2 : Below W2.heap.size W2 W3 := by
                 rw [← hW2]
                 have := (below_two W2 (.cells #[.int .i64 (idp o).1, .int .i64 (idp o).2] 28) (.cells #[.int .i64 b.1, .int .i64 b.2] 28)).out
                 exact ⟨this.os, this.tape, this.output, this.size, this.block⟩
               have HR2 : Hid (RowI W3 w1.heap.size (.slice (some ⟨g2, 0, none⟩) (j + 1) c2) (insI m K (idp o)) ∧ kk < (insI m K (idp o)).length) := ⟨(HK.out.row.below HW2.out).below hB2, (List.getElem?_eq_some_iff.1 HX2.out.2.2.2).1⟩
               have HKl : Hid (K < (insI m K (idp o)).length) := (List.getElem?_eq_some_iff.1 HX2.out.2.2.1).1
               have z0 : W3.cell? ⟨W2.heap.size, 0, none⟩ = some (.int .i64 (idp o).1) := cellOf hB 0
               have z1 : W3.cell? ⟨W2.heap.size, 1, none⟩ = some (.int .i64 (idp o).2) := cellOf hB 1
               have H2 : Hid (Below W2.heap.size W2 W3 ∧ W3.heap[W2.heap.size + 1]? = some (.cells (idC b) 28 (0, 0))) := ⟨hB2, hA⟩
               clear hW2 hA hB hB2 x0 x1 y0 y1
               go_wp2_with (refine wpList_setI rfl _ _ rfl w1.heap.size g2 (j + 1) c2 kk (insI m K (idp o)) (idp o) rfl rfl HR2 ?_; intro W4 H3; refine Stop.out ?_)
               refine Stop.mk ?_
               have hA3 := (H3.out.2.1.block _ (block_lt H2.out.2) (by omega)).trans H2.out.2
               have v0 : W4.cell? ⟨W2.heap.size + 1, 0, none⟩ = some (.int .i64 b.1) := cellOf hA3 0
               have v1 : W4.cell? ⟨W2.heap.size + 1, 1, none⟩ = some (.int .i64 b.2) := cellOf hA3 1
               have HR3 : Hid (RowI W4 w1.heap.size (.slice (some ⟨g2, 0, none⟩) (j + 1) c2) ((insI m K (idp o)).set kk (idp o)) ∧ K < ((insI m K (idp o)).set kk (idp o)).length) := ⟨H3.out.1, by rw [List.length_set]; exact HKl.out⟩
               clear hA3 z0 z1
               go_wp2_with (refine wpList_setI rfl _ _ rfl w1.heap.size g2 (j + 1) c2 K ((insI m K (idp o)).set kk (idp o)) b rfl rfl HR3 ?_; intro W5 H4; refine Stop.out ?_)
               refine Stop.mk ?_
               clear v0 v1
               go_wp2_with fail
               go_roundw
               case rel =>
                 refine ⟨kk, rfl, by omega, ?_⟩
                 obtain ⟨k1, k2, k3⟩ := H4.out
                 have hD := HK.out.below HW2.out
                 have e := HKk.out
                 subst e
                 exact hD.swap HX2.out.1 HLE.out H2.out.1 H3.out.2.1 k2 k1
               case measure => simp [intOf]; omega
end Go.Proofs.YthhakekbffembaaGreatDoor.Ck.Y
