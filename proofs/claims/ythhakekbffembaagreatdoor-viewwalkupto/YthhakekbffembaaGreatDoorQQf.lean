import Derived.Test.YthhakekbffembaaGreatDoorQQb

namespace Go.Proofs.YthhakekbffembaaGreatDoor.Ck.Y
open Go.RowKit Go.Maps
def obL (x : OB) : List Value := [.int .i64 x.it, .int .i64 x.ii, .int .i64 x.pt, .int .i64 x.pn, .string x.nm, .bool x.dir]
def flatB : List OB → List Value
 | [] => []
 | x :: l => obL x ++ flatB l
theorem flatB_length : ∀ l : List OB, (flatB l).length = l.length * 6
 | [] => rfl
 | x :: l => by rw [flatB, List.length_append, flatB_length l, List.length_cons]; simp [obL]; omega
theorem flatB_append : ∀ l m : List OB, flatB (l ++ m) = flatB l ++ flatB m
 | [], _ => rfl
 | x :: l, m => by rw [List.cons_append, flatB, flatB, flatB_append l m, List.append_assoc]
theorem flatB_at : ∀ (l : List OB) (i j : Nat) (x : OB), l[i]? = some x → j < 6 → (flatB l)[i * 6 + j]? = (obL x)[j]?
 | [], _, _, _, h, _ => by simp at h
 | y :: l, 0, j, x, h, hj => by
   have : y = x := by simpa using h
   subst this
   rw [flatB, Nat.zero_mul, Nat.zero_add, List.getElem?_append_left (by simp [obL]; exact hj)]
 | y :: l, i + 1, j, x, h, hj => by
   rw [flatB, List.getElem?_append_right (by simp [obL]; omega), show (i + 1) * 6 + j - (obL y).length = i * 6 + j by simp [obL]; omega]
   exact flatB_at l i j x (by simpa using h) hj
structure TreeY (w : World) (base g : Nat) (T : List OB) (s : Nat) : Prop where
 lo : base ≤ g
 cell : ∃ v, w.heap[g]? = some (.cells #[v, .int .i64 (s : Nat)] 51 (0, 0)) ∧ w.ownsRow base 48 6 v T.length (flatB T)
 len : T.length < 1000000
theorem TreeY.below {w w' : World} {base g s : Nat} {T : List OB} (h : TreeY w base g T s) (hb : Below w.heap.size w w') : TreeY w' base g T s := by
 obtain ⟨v, h1, h2⟩ := h.cell
 exact ⟨h.lo, ⟨v, (hb.block g (block_lt h1)).trans h1, own_below h2 hb⟩, h.len⟩
theorem TreeY.view {w : World} {base g s : Nat} {T : List OB} (h : TreeY w base g T s) : ∃ p c, w.heap[g]? = some (.cells #[.slice p T.length c, .int .i64 (s : Nat)] 51 (0, 0)) ∧ (T = [] ∨ ∃ gl, p = some ⟨gl, 0, none⟩ ∧ ∀ (k : Nat) (x : OB), T[k]? = some x →
   w.cell? ⟨gl, k * 6, none⟩ = some (.int .i64 x.it) ∧ w.cell? ⟨gl, k * 6 + 1, none⟩ = some (.int .i64 x.ii) ∧ w.cell? ⟨gl, k * 6 + 2, none⟩ = some (.int .i64 x.pt) ∧ w.cell? ⟨gl, k * 6 + 3, none⟩ = some (.int .i64 x.pn) ∧ w.cell? ⟨gl, k * 6 + 4, none⟩ = some (.string x.nm) ∧ w.cell? ⟨gl, k * 6 + 5, none⟩ = some (.bool x.dir)) := by
 obtain ⟨v, h1, h2⟩ := h.cell
 obtain ⟨p, c, rfl⟩ := own_slice h2
 refine ⟨p, c, h1, ?_⟩
 rcases h2.2 with ⟨e, h0⟩ | ⟨gl, cap, cur, e, _, hblk, _, _, _, htk⟩
 · exact .inl (List.length_eq_zero_iff.1 h0)
 · refine .inr ⟨gl, by injection e, fun k x hx => ?_⟩
   have hk := (List.getElem?_eq_some_iff.1 hx).1
   have key : ∀ j, j < 6 → w.cell? ⟨gl, k * 6 + j, none⟩ = (obL x)[j]? := fun j hj => by
     rw [cellOf hblk, ← flatB_at T k j x hx hj, ← htk, List.getElem?_take, if_pos (by omega), Array.getElem?_toList]
   exact ⟨key 0 (by omega), key 1 (by omega), key 2 (by omega), key 3 (by omega), key 4 (by omega), key 5 (by omega)⟩
theorem yroot_any (t n : Int) (w : World) : Calls Tryz.prog 77 #[idv t n] w fun e w' => e = .returned (.bool (rootB t n)) ∧ Below w.heap.size w w' := by
 have HB : Hid (∀ o, Below w.heap.size w (w.alloc o)) := fun o => (below_new w o).out
 by_cases h0 : t = 0
 · subst h0
   have HE : Hid (rootB 0 n = decide (n = 0)) := by show _ = _; simp [rootB]
   go_enter Tryz.func77, Tryz.ntmps77
   go_wp2
   go_ret
   rw [HE.out]
   exact ⟨by simp; rfl, HB.out _⟩
 · have HE : Hid (rootB t n = false) := by show _ = _; simp [rootB, h0]
   go_enter Tryz.func77, Tryz.ntmps77
   go_wp2
   go_ret
   rw [HE.out]
   exact ⟨by simp, HB.out _⟩
theorem ytrash_any (t n : Int) (w : World) : Calls Tryz.prog 78 #[idv t n] w fun e w' => e = .returned (.bool (trashB t n)) ∧ Below w.heap.size w w' := by
 have HB : Hid (∀ o, Below w.heap.size w (w.alloc o)) := fun o => (below_new w o).out
 by_cases h0 : t = 0
 · subst h0
   have HE : Hid (trashB 0 n = decide (n = 1)) := by show _ = _; simp [trashB]
   go_enter Tryz.func78, Tryz.ntmps78
   go_wp2
   go_ret
   rw [HE.out]
   exact ⟨by simp; rfl, HB.out _⟩
 · have HE : Hid (trashB t n = false) := by show _ = _; simp [trashB, h0]
   go_enter Tryz.func78, Tryz.ntmps78
   go_wp2
   go_ret
   rw [HE.out]
   exact ⟨by simp, HB.out _⟩
def fndZ (T : List OB) (t n : Int) : Int := match findT T t n with | some k => (k : Int) | none => -1
set_option maxRecDepth 8000 in
set_option maxHeartbeats 4000000 in
theorem find_reg4 {Q : Exit → Act → World → Prop} {base : Array Value} {dd : List Deferred} {ops : Array Oper} (hops : Tryz.f14.body.bind (regs 4) = some ops) (gt bx gl m cl K sk : Nat) (at_ an xt xn : Int) (r : Bool) (w9 : World) (hsz : base.size = 26) (b0 : base.getD 0 undef = .pointer (some ⟨gt, 0, none⟩)) (b3 : base.getD 3 undef = .pointer (some ⟨bx, 0, none⟩)) (b5 : base.getD 5 undef = .int .i64 (K : Nat)) (hKm : K < m) (hgt : w9.heap[gt]? = some (.cells #[.slice (some ⟨gl, 0, none⟩) m cl, .int .i64 (sk : Nat)] 51 (0, 0))) (hbx : w9.heap[bx]? = some (.cells #[.int .i64 at_, .int .i64 an] 28 (0, 0))) (hx0 : w9.cell? ⟨gl, K * 6, none⟩ = some (.int .i64 xt)) (hx1 : w9.cell? ⟨gl, K * 6 + 1, none⟩ = some (.int .i64 xn)) (cK : ∀ W, Below w9.heap.size w9 W → Calls Tryz.prog 15 #[idv xt xn, idv at_ an] W fun e w' => e = .returned (.bool r) ∧ Below W.heap.size W w') (hQ : ∀ W, Below w9.heap.size w9 W → Q .normal ⟨putAll base [(some 15, .pointer (some ⟨gt, 0, none⟩)), (some 16, .pointer (some ⟨gt, 0, none⟩)), (some 17, .pointer (some ⟨gt, 0, none⟩)), (some 18, .slice (some ⟨gl, 0, none⟩) m cl), (some 19, .int .i64 (K : Nat)), (some 20, .pointer (some ⟨gl, K * 6, none⟩)), (some 21, .pointer (some ⟨gl, K * 6, none⟩)), (some 22, .agg #[.int .i64 xt, .int .i64 xn]), (some 23, .agg #[.int .i64 at_, .int .i64 an]), (some 24, .bool r)], dd⟩ W) :
   (Code.region 4 ops true).wp Tryz.prog Q ⟨base, dd⟩ w9 := by
 have hmix := hmx
 have h2 := (show Tryz.f14.body.bind (regs 4) = some _ from rfl).symm.trans hops
 obtain rfl := Option.some.inj h2
 clear h2 hops
 have below9 : Below w9.heap.size w9 w9.drew := (Below.refl _ _).drew
 obtain ⟨LL, hLe⟩ := qL hQ
 have vv0 : vals LL 0 = .pointer (some ⟨gt, 0, none⟩) := vL hLe rfl
 have vv1 : vals LL 1 = .pointer (some ⟨gt, 0, none⟩) := vL hLe rfl
 have vv2 : vals LL 2 = .pointer (some ⟨gt, 0, none⟩) := vL hLe rfl
 have vv3 : vals LL 3 = .slice (some ⟨gl, 0, none⟩) m cl := vL hLe rfl
 have vv4 : vals LL 4 = .int .i64 (K : Nat) := vL hLe rfl
 have vv5 : vals LL 5 = .pointer (some ⟨gl, K * 6, none⟩) := vL hLe rfl
 have vv6 : vals LL 6 = .pointer (some ⟨gl, K * 6, none⟩) := vL hLe rfl
 have vv7 : vals LL 7 = .agg #[.int .i64 xt, .int .i64 xn] := vL hLe rfl
 have vv8 : vals LL 8 = .agg #[.int .i64 at_, .int .i64 an] := vL hLe rfl
 have vv9 : vals LL 9 = .bool r := vL hLe rfl
 refine region_laid hmix (by kernel_rfl) 26 hsz (by kernel_rfl) LL (by rw [hLe]; rfl) (fun _ W => Below w9.heap.size w9 W) below9 ?_ ?_
 · intro b W i o a hS hcl ho hb hd ev kp yl
   match i with
   | 0 => simp only [qq] at ho; subst ho; have e0 := (kp 0 (by kernel_rfl)).trans b0; rw [vv0]; exact dV (by simp [execOp, go_sem, e0]) hS
   | 1 => simp only [qq] at ho; subst ho; have e15 := eD ev hd 0 15 vv0; rw [vv1]; exact dV (by simp [execOp, go_sem, e15]) hS
   | 2 => simp only [qq] at ho; subst ho; have e16 := eD ev hd 1 16 vv1; rw [vv2]; exact dV (by simp [execOp, go_sem, e16]) hS
   | 3 => simp only [qq] at ho; subst ho; have e17 := eD ev hd 2 17 vv2; have hB9 := (hS.block _ (block_lt hgt)).trans hgt; have d0 : W.cell? ⟨gt, 0, none⟩ = some (.slice (some ⟨gl, 0, none⟩) m cl) := (cellOf hB9 0).trans rfl; rw [vv3]; exact dV (by simp [execOp, go_sem, e17, d0]) hS
   | 4 => simp only [qq] at ho; subst ho; have e5 := (kp 5 (by kernel_rfl)).trans b5; rw [vv4]; exact dV (by simp [execOp, go_sem, e5]) hS
   | 5 => simp only [qq] at ho; subst ho; have e18 := eD ev hd 3 18 vv3; have e19 := eD ev hd 4 19 vv4; rw [vv5]; exact dV (by simp [execOp, go_sem, e18, e19, hKm]) hS
   | 6 => simp only [qq] at ho; subst ho; have e20 := eD ev hd 5 20 vv5; rw [vv6]; exact dV (by simp [execOp, go_sem, e20]) hS
   | 7 => simp only [qq] at ho; subst ho; have e21 := eD ev hd 6 21 vv6; have d9_0 := (hS.cell (p := ⟨gl, K * 6, none⟩) (cell_lt hx0)).trans hx0; have d9_1 := (hS.cell (p := ⟨gl, K * 6 + 1, none⟩) (cell_lt hx1)).trans hx1; rw [vv7]; exact dV (by simp [execOp, go_sem, e21, d9_0, d9_1]) hS
   | 8 => simp only [qq] at ho; subst ho; have e3 := (kp 3 (by kernel_rfl)).trans b3; have hB9 := (hS.block _ (block_lt hbx)).trans hbx; have d0 : W.cell? ⟨bx, 0, none⟩ = some (.int .i64 at_) := (cellOf hB9 0).trans rfl; have d1 : W.cell? ⟨bx, 1, none⟩ = some (.int .i64 an) := (cellOf hB9 1).trans rfl; rw [vv8]; exact dV (by simp [execOp, go_sem, e3, d0, d1]) hS
   | 9 =>
     simp only [qq] at ho; subst ho; have e22 := eD ev hd 7 22 vv7; have e23 := eD ev hd 8 23 vv8; rw [vv9]
     refine does_call rfl nofun (f := 15) (args := #[.agg #[.int .i64 xt, .int .i64 xn], .agg #[.int .i64 at_, .int .i64 an]]) ?_ ?_
     · simp [go_sem, e22, e23]
     · exact (cK W hS).mono (fun e w' h => ⟨h.1, hS.trans (h.2.mono hS.size)⟩)
   | k + 10 => simp at ho
 · intro b' W hS _
   subst hLe
   exact hQ W hS
set_option maxRecDepth 8000 in
set_option maxHeartbeats 4000000 in
theorem below_reg4 {Q : Exit → Act → World → Prop} {base : Array Value} {dd : List Deferred} {ops : Array Oper} (hops : Tryz.f17.body.bind (regs 4) = some ops) (gt bx gl m cl K sk : Nat) (at_ an xt xn : Int) (r : Bool) (w9 : World) (hsz : base.size = 33) (b0 : base.getD 0 undef = .pointer (some ⟨gt, 0, none⟩)) (b5 : base.getD 5 undef = .pointer (some ⟨bx, 0, none⟩)) (b7 : base.getD 7 undef = .int .i64 (K : Nat)) (hKm : K < m) (hgt : w9.heap[gt]? = some (.cells #[.slice (some ⟨gl, 0, none⟩) m cl, .int .i64 (sk : Nat)] 51 (0, 0))) (hbx : w9.heap[bx]? = some (.cells #[.int .i64 at_, .int .i64 an] 28 (0, 0))) (hx0 : w9.cell? ⟨gl, K * 6 + 2, none⟩ = some (.int .i64 xt)) (hx1 : w9.cell? ⟨gl, K * 6 + 3, none⟩ = some (.int .i64 xn)) (cK : ∀ W, Below w9.heap.size w9 W → Calls Tryz.prog 15 #[idv xt xn, idv at_ an] W fun e w' => e = .returned (.bool r) ∧ Below W.heap.size W w') (hQ : ∀ W, Below w9.heap.size w9 W → Q .normal ⟨putAll base [(some 23, .pointer (some ⟨gt, 0, none⟩)), (some 24, .pointer (some ⟨gt, 0, none⟩)), (some 25, .pointer (some ⟨gt, 0, none⟩)), (some 26, .slice (some ⟨gl, 0, none⟩) m cl), (some 27, .int .i64 (K : Nat)), (some 28, .pointer (some ⟨gl, K * 6, none⟩)), (some 29, .pointer (some ⟨gl, K * 6 + 2, none⟩)), (some 30, .agg #[.int .i64 xt, .int .i64 xn]), (some 31, .agg #[.int .i64 at_, .int .i64 an]), (some 32, .bool r)], dd⟩ W) :
   (Code.region 4 ops true).wp Tryz.prog Q ⟨base, dd⟩ w9 := by
 have hmix := hmx
 have h2 := (show Tryz.f17.body.bind (regs 4) = some _ from rfl).symm.trans hops
 obtain rfl := Option.some.inj h2
 clear h2 hops
 have below9 : Below w9.heap.size w9 w9.drew := (Below.refl _ _).drew
 obtain ⟨LL, hLe⟩ := qL hQ
 have vv0 : vals LL 0 = .pointer (some ⟨gt, 0, none⟩) := vL hLe rfl
 have vv1 : vals LL 1 = .pointer (some ⟨gt, 0, none⟩) := vL hLe rfl
 have vv2 : vals LL 2 = .pointer (some ⟨gt, 0, none⟩) := vL hLe rfl
 have vv3 : vals LL 3 = .slice (some ⟨gl, 0, none⟩) m cl := vL hLe rfl
 have vv4 : vals LL 4 = .int .i64 (K : Nat) := vL hLe rfl
 have vv5 : vals LL 5 = .pointer (some ⟨gl, K * 6, none⟩) := vL hLe rfl
 have vv6 : vals LL 6 = .pointer (some ⟨gl, K * 6 + 2, none⟩) := vL hLe rfl
 have vv7 : vals LL 7 = .agg #[.int .i64 xt, .int .i64 xn] := vL hLe rfl
 have vv8 : vals LL 8 = .agg #[.int .i64 at_, .int .i64 an] := vL hLe rfl
 have vv9 : vals LL 9 = .bool r := vL hLe rfl
 refine region_laid hmix (by kernel_rfl) 33 hsz (by kernel_rfl) LL (by rw [hLe]; rfl) (fun _ W => Below w9.heap.size w9 W) below9 ?_ ?_
 · intro b W i o a hS hcl ho hb hd ev kp yl
   match i with
   | 0 => simp only [qq] at ho; subst ho; have e0 := (kp 0 (by kernel_rfl)).trans b0; rw [vv0]; exact dV (by simp [execOp, go_sem, e0]) hS
   | 1 => simp only [qq] at ho; subst ho; have e23 := eD ev hd 0 23 vv0; rw [vv1]; exact dV (by simp [execOp, go_sem, e23]) hS
   | 2 => simp only [qq] at ho; subst ho; have e24 := eD ev hd 1 24 vv1; rw [vv2]; exact dV (by simp [execOp, go_sem, e24]) hS
   | 3 => simp only [qq] at ho; subst ho; have e25 := eD ev hd 2 25 vv2; have hB9 := (hS.block _ (block_lt hgt)).trans hgt; have d0 : W.cell? ⟨gt, 0, none⟩ = some (.slice (some ⟨gl, 0, none⟩) m cl) := (cellOf hB9 0).trans rfl; rw [vv3]; exact dV (by simp [execOp, go_sem, e25, d0]) hS
   | 4 => simp only [qq] at ho; subst ho; have e7 := (kp 7 (by kernel_rfl)).trans b7; rw [vv4]; exact dV (by simp [execOp, go_sem, e7]) hS
   | 5 => simp only [qq] at ho; subst ho; have e26 := eD ev hd 3 26 vv3; have e27 := eD ev hd 4 27 vv4; rw [vv5]; exact dV (by simp [execOp, go_sem, e26, e27, hKm]) hS
   | 6 => simp only [qq] at ho; subst ho; have e28 := eD ev hd 5 28 vv5; rw [vv6]; exact dV (by simp [execOp, go_sem, e28]) hS
   | 7 => simp only [qq] at ho; subst ho; have e29 := eD ev hd 6 29 vv6; have d9_0 := (hS.cell (p := ⟨gl, K * 6 + 2, none⟩) (cell_lt hx0)).trans hx0; have d9_1 := (hS.cell (p := ⟨gl, K * 6 + 3, none⟩) (cell_lt hx1)).trans hx1; rw [vv7]; exact dV (by simp [execOp, go_sem, e29, d9_0, d9_1]) hS
   | 8 => simp only [qq] at ho; subst ho; have e5 := (kp 5 (by kernel_rfl)).trans b5; have hB9 := (hS.block _ (block_lt hbx)).trans hbx; have d0 : W.cell? ⟨bx, 0, none⟩ = some (.int .i64 at_) := (cellOf hB9 0).trans rfl; have d1 : W.cell? ⟨bx, 1, none⟩ = some (.int .i64 an) := (cellOf hB9 1).trans rfl; rw [vv8]; exact dV (by simp [execOp, go_sem, e5, d0, d1]) hS
   | 9 =>
     simp only [qq] at ho; subst ho; have e30 := eD ev hd 7 30 vv7; have e31 := eD ev hd 8 31 vv8; rw [vv9]
     refine does_call rfl nofun (f := 15) (args := #[.agg #[.int .i64 xt, .int .i64 xn], .agg #[.int .i64 at_, .int .i64 an]]) ?_ ?_
     · simp [go_sem, e30, e31]
     · exact (cK W hS).mono (fun e w' h => ⟨h.1, hS.trans (h.2.mono hS.size)⟩)
   | k + 10 => simp at ho
 · intro b' W hS _
   subst hLe
   exact hQ W hS
set_option maxRecDepth 8000 in
set_option maxHeartbeats 4000000 in
theorem kids_reg5 {Q : Exit → Act → World → Prop} {base : Array Value} {dd : List Deferred} {ops : Array Oper} (hops : Tryz.f86.body.bind (regs 5) = some ops) (gt bx gl m cl K sk : Nat) (at_ an xt xn : Int) (r : Bool) (w9 : World) (hsz : base.size = 78) (b0 : base.getD 0 undef = .pointer (some ⟨gt, 0, none⟩)) (b3 : base.getD 3 undef = .pointer (some ⟨bx, 0, none⟩)) (b6 : base.getD 6 undef = .int .i64 (K : Nat)) (hKm : K < m) (hgt : w9.heap[gt]? = some (.cells #[.slice (some ⟨gl, 0, none⟩) m cl, .int .i64 (sk : Nat)] 51 (0, 0))) (hbx : w9.heap[bx]? = some (.cells #[.int .i64 at_, .int .i64 an] 28 (0, 0))) (hx0 : w9.cell? ⟨gl, K * 6 + 2, none⟩ = some (.int .i64 xt)) (hx1 : w9.cell? ⟨gl, K * 6 + 3, none⟩ = some (.int .i64 xn)) (cK : ∀ W, Below w9.heap.size w9 W → Calls Tryz.prog 15 #[idv xt xn, idv at_ an] W fun e w' => e = .returned (.bool r) ∧ Below W.heap.size W w') (hQ : ∀ W, Below w9.heap.size w9 W → Q .normal ⟨putAll base [(some 19, .pointer (some ⟨gt, 0, none⟩)), (some 20, .pointer (some ⟨gt, 0, none⟩)), (some 21, .pointer (some ⟨gt, 0, none⟩)), (some 22, .slice (some ⟨gl, 0, none⟩) m cl), (some 23, .int .i64 (K : Nat)), (some 24, .pointer (some ⟨gl, K * 6, none⟩)), (some 25, .pointer (some ⟨gl, K * 6 + 2, none⟩)), (some 26, .agg #[.int .i64 xt, .int .i64 xn]), (some 27, .agg #[.int .i64 at_, .int .i64 an]), (some 28, .bool r)], dd⟩ W) :
   (Code.region 5 ops true).wp Tryz.prog Q ⟨base, dd⟩ w9 := by
 have hmix := hmx
 have h2 := (show Tryz.f86.body.bind (regs 5) = some _ from rfl).symm.trans hops
 obtain rfl := Option.some.inj h2
 clear h2 hops
 have below9 : Below w9.heap.size w9 w9.drew := (Below.refl _ _).drew
 obtain ⟨LL, hLe⟩ := qL hQ
 have vv0 : vals LL 0 = .pointer (some ⟨gt, 0, none⟩) := vL hLe rfl
 have vv1 : vals LL 1 = .pointer (some ⟨gt, 0, none⟩) := vL hLe rfl
 have vv2 : vals LL 2 = .pointer (some ⟨gt, 0, none⟩) := vL hLe rfl
 have vv3 : vals LL 3 = .slice (some ⟨gl, 0, none⟩) m cl := vL hLe rfl
 have vv4 : vals LL 4 = .int .i64 (K : Nat) := vL hLe rfl
 have vv5 : vals LL 5 = .pointer (some ⟨gl, K * 6, none⟩) := vL hLe rfl
 have vv6 : vals LL 6 = .pointer (some ⟨gl, K * 6 + 2, none⟩) := vL hLe rfl
 have vv7 : vals LL 7 = .agg #[.int .i64 xt, .int .i64 xn] := vL hLe rfl
 have vv8 : vals LL 8 = .agg #[.int .i64 at_, .int .i64 an] := vL hLe rfl
 have vv9 : vals LL 9 = .bool r := vL hLe rfl
 refine region_laid hmix (by kernel_rfl) 78 hsz (by kernel_rfl) LL (by rw [hLe]; rfl) (fun _ W => Below w9.heap.size w9 W) below9 ?_ ?_
 · intro b W i o a hS hcl ho hb hd ev kp yl
   match i with
   | 0 => simp only [qq] at ho; subst ho; have e0 := (kp 0 (by kernel_rfl)).trans b0; rw [vv0]; exact dV (by simp [execOp, go_sem, e0]) hS
   | 1 => simp only [qq] at ho; subst ho; have e19 := eD ev hd 0 19 vv0; rw [vv1]; exact dV (by simp [execOp, go_sem, e19]) hS
   | 2 => simp only [qq] at ho; subst ho; have e20 := eD ev hd 1 20 vv1; rw [vv2]; exact dV (by simp [execOp, go_sem, e20]) hS
   | 3 => simp only [qq] at ho; subst ho; have e21 := eD ev hd 2 21 vv2; have hB9 := (hS.block _ (block_lt hgt)).trans hgt; have d0 : W.cell? ⟨gt, 0, none⟩ = some (.slice (some ⟨gl, 0, none⟩) m cl) := (cellOf hB9 0).trans rfl; rw [vv3]; exact dV (by simp [execOp, go_sem, e21, d0]) hS
   | 4 => simp only [qq] at ho; subst ho; have e6 := (kp 6 (by kernel_rfl)).trans b6; rw [vv4]; exact dV (by simp [execOp, go_sem, e6]) hS
   | 5 => simp only [qq] at ho; subst ho; have e22 := eD ev hd 3 22 vv3; have e23 := eD ev hd 4 23 vv4; rw [vv5]; exact dV (by simp [execOp, go_sem, e22, e23, hKm]) hS
   | 6 => simp only [qq] at ho; subst ho; have e24 := eD ev hd 5 24 vv5; rw [vv6]; exact dV (by simp [execOp, go_sem, e24]) hS
   | 7 => simp only [qq] at ho; subst ho; have e25 := eD ev hd 6 25 vv6; have d9_0 := (hS.cell (p := ⟨gl, K * 6 + 2, none⟩) (cell_lt hx0)).trans hx0; have d9_1 := (hS.cell (p := ⟨gl, K * 6 + 3, none⟩) (cell_lt hx1)).trans hx1; rw [vv7]; exact dV (by simp [execOp, go_sem, e25, d9_0, d9_1]) hS
   | 8 => simp only [qq] at ho; subst ho; have e3 := (kp 3 (by kernel_rfl)).trans b3; have hB9 := (hS.block _ (block_lt hbx)).trans hbx; have d0 : W.cell? ⟨bx, 0, none⟩ = some (.int .i64 at_) := (cellOf hB9 0).trans rfl; have d1 : W.cell? ⟨bx, 1, none⟩ = some (.int .i64 an) := (cellOf hB9 1).trans rfl; rw [vv8]; exact dV (by simp [execOp, go_sem, e3, d0, d1]) hS
   | 9 =>
     simp only [qq] at ho; subst ho; have e26 := eD ev hd 7 26 vv7; have e27 := eD ev hd 8 27 vv8; rw [vv9]
     refine does_call rfl nofun (f := 15) (args := #[.agg #[.int .i64 xt, .int .i64 xn], .agg #[.int .i64 at_, .int .i64 an]]) ?_ ?_
     · simp [go_sem, e26, e27]
     · exact (cK W hS).mono (fun e w' h => ⟨h.1, hS.trans (h.2.mono hS.size)⟩)
   | k + 10 => simp at ho
 · intro b' W hS _
   subst hLe
   exact hQ W hS
set_option maxRecDepth 8000 in
set_option maxHeartbeats 2000000 in
theorem yfind_any (base g s : Nat) (T : List OB) (t n : Int) (w : World) (h : TreeY w base g T s) : Calls Tryz.prog 14 #[.pointer (some ⟨g, 0, none⟩), idv t n] w fun e w' => e = .returned (.int .i64 (fndZ T t n)) ∧ Below w.heap.size w w' := by
 obtain ⟨w1, hw1⟩ : ∃ w1, w1 = w.alloc (.cells #[.int .i64 t, .int .i64 n] 28) := ⟨_, rfl⟩
 have hB1 : Below w.heap.size w w1 := by rw [hw1]; exact (below_new w _).out
 have hx1 : w1.heap[w.heap.size]? = some (.cells #[.int .i64 t, .int .i64 n] 28 (0, 0)) := by rw [hw1]; exact heap_alloc_new w _
 have HT : Hid (TreeY w1 base g T s ∧ w1.heap[w.heap.size]? = some (.cells #[.int .i64 t, .int .i64 n] 28 (0, 0)) ∧ Below w.heap.size w w1) := ⟨h.below hB1, hx1, hB1⟩
 have HW : Hid (w1 = w.alloc (.cells #[.int .i64 t, .int .i64 n] 28)) := hw1
 have hlen := h.len
 obtain ⟨m, hm⟩ : ∃ m, T.length = m := ⟨_, rfl⟩
 have HM : Hid (T.length = m) := hm
 rw [hm] at hlen
 clear hw1 hB1 hx1 h hm
 go_enter Tryz.func14, Tryz.ntmps14
 go_wp2_with fail
 rw [← HW.out]
 go_loopw [5] (fun vi wr => ∃ i : Nat, vi = .int .i64 i ∧ i ≤ m ∧ Hid (Below w1.heap.size w1 wr ∧ ∀ j, j < i → ∀ o, T[j]? = some o → sameB o.it o.ii t n = false)) (fun vi _ => m - (intOf vi).toNat)
 case atStart => exact ⟨0, rfl, Nat.zero_le _, Below.refl _ _, fun j hj => absurd hj (by omega)⟩
 case round =>
   obtain ⟨i, rfl, him, HI⟩ := hrel
   have hT := HT.out.1.below HI.out.1
   obtain ⟨p, c, hc, hv⟩ := hT.view
   rw [HM.out] at hc
   have c0 : wr.cell? ⟨g, 0, none⟩ = some (.slice p m c) := cellOf hc 0
   by_cases hie : i = m
   · subst hie
     have HF : Hid (fndZ T t n = -1) := by
       show _ = _
       unfold fndZ
       have : findT T t n = none := List.findIdx?_eq_none_iff.2 (fun o ho => by
         obtain ⟨j, hj, e⟩ := List.getElem_of_mem ho
         exact HI.out.2 j (by have := HM.out; omega) o (by rw [List.getElem?_eq_getElem hj, e]))
       rw [this]
     clear hT hv hc
     go_wp2_with fail
     go_ret
     rw [HF.out]
     exact ⟨rfl, HT.out.2.2.trans (HI.out.1.mono HT.out.2.2.size)⟩
   · have hlt : i < m := by omega
     obtain ⟨o, ho⟩ : ∃ o, T[i]? = some o := ⟨_, List.getElem?_eq_getElem (by rw [HM.out]; exact hlt)⟩
     obtain ⟨gl, rfl, hcl⟩ : ∃ gl, p = some ⟨gl, 0, none⟩ ∧ (wr.cell? ⟨gl, i * 6, none⟩ = some (.int .i64 o.it) ∧ wr.cell? ⟨gl, i * 6 + 1, none⟩ = some (.int .i64 o.ii)) := by
       rcases hv with e | ⟨gl, e, hk⟩
       · rw [e] at ho; simp at ho
       · exact ⟨gl, e, (hk i o ho).1, (hk i o ho).2.1⟩
     have hbx := (HI.out.1.block _ (block_lt HT.out.2.1)).trans HT.out.2.1
     have HC : Hid (wr.heap[g]? = some (.cells #[.slice (some ⟨gl, 0, none⟩) m c, .int .i64 (s : Nat)] 51 (0, 0)) ∧ wr.heap[w.heap.size]? = some (.cells #[.int .i64 t, .int .i64 n] 28 (0, 0)) ∧ wr.cell? ⟨gl, i * 6, none⟩ = some (.int .i64 o.it) ∧ wr.cell? ⟨gl, i * 6 + 1, none⟩ = some (.int .i64 o.ii) ∧ T[i]? = some o) := ⟨hc, hbx, hcl.1, hcl.2, ho⟩
     clear hT hv hc hcl hbx ho
     go_wp2_with fail
     refine find_reg4 (by kernel_rfl) g w.heap.size gl m c i s t n o.it o.ii (sameB o.it o.ii t n) _ rfl rfl rfl rfl hlt HC.out.1 HC.out.2.1 HC.out.2.2.1 HC.out.2.2.2.1 (fun W _ => same_any _ _ _ _ W) ?_
     intro W hS
     have HWW : Hid (Below w1.heap.size w1 W) := HI.out.1.trans (hS.mono HI.out.1.size)
     clear hS
     simp only [putAll, sA, sB, sC]
     cases hs : sameB o.it o.ii t n
     · go_wp2_with fail
       go_roundw
       case rel =>
         refine ⟨i + 1, rfl, by omega, HWW.out, fun j hj x hx => ?_⟩
         by_cases hji : j < i
         · exact HI.out.2 j hji x hx
         · have : j = i := by omega
           subst this
           rw [HC.out.2.2.2.2] at hx
           cases hx
           exact hs
       case measure => simp [intOf]; omega
     · have HF : Hid (fndZ T t n = (i : Int)) := by
         show _ = _
         unfold fndZ
         obtain ⟨hi, e⟩ := List.getElem?_eq_some_iff.1 HC.out.2.2.2.2
         have : findT T t n = some i := List.findIdx?_eq_some_iff_getElem.2 ⟨hi, by rw [e]; exact hs, fun j hj => by
           have := HI.out.2 j hj T[j] (List.getElem?_eq_getElem (by omega))
           simpa using this⟩
         rw [this]
       go_wp2_with fail
       go_ret
       rw [HF.out]
       exact ⟨rfl, HT.out.2.2.trans (HWW.out.mono HT.out.2.2.size)⟩
end Go.Proofs.YthhakekbffembaaGreatDoor.Ck.Y

namespace Go.Proofs.YthhakekbffembaaGreatDoor.Ck.Y
open Go.RowKit Go.Maps
theorem fndZ_some {T : List OB} {t n : Int} {k : Nat} (h : findT T t n = some k) : fndZ T t n = (k : Int) := by unfold fndZ; rw [h]
theorem fndZ_none {T : List OB} {t n : Int} (h : findT T t n = none) : fndZ T t n = -1 := by unfold fndZ; rw [h]
theorem TreeY.ob {w : World} {base g s : Nat} {T : List OB} (h : TreeY w base g T s) {k : Nat} {o : OB} (hk : T[k]? = some o) : ∃ gl c, w.heap[g]? = some (.cells #[.slice (some ⟨gl, 0, none⟩) T.length c, .int .i64 (s : Nat)] 51 (0, 0)) ∧
   w.cell? ⟨gl, k * 6, none⟩ = some (.int .i64 o.it) ∧ w.cell? ⟨gl, k * 6 + 1, none⟩ = some (.int .i64 o.ii) ∧ w.cell? ⟨gl, k * 6 + 2, none⟩ = some (.int .i64 o.pt) ∧ w.cell? ⟨gl, k * 6 + 3, none⟩ = some (.int .i64 o.pn) ∧ w.cell? ⟨gl, k * 6 + 4, none⟩ = some (.string o.nm) ∧ w.cell? ⟨gl, k * 6 + 5, none⟩ = some (.bool o.dir) := by
 obtain ⟨p, c, hc, hv⟩ := h.view
 rcases hv with e | ⟨gl, rfl, hh⟩
 · rw [e] at hk; simp at hk
 · exact ⟨gl, c, hc, hh k o hk⟩
set_option maxRecDepth 8000 in
set_option maxHeartbeats 2000000 in
theorem ydir_any (base g s : Nat) (T : List OB) (t n : Int) (w : World) (h : TreeY w base g T s) : Calls Tryz.prog 37 #[.pointer (some ⟨g, 0, none⟩), idv t n] w fun e w' => e = .returned (.bool (dirT T t n)) ∧ Below w.heap.size w w' := by
 obtain ⟨w1, hw1⟩ : ∃ w1, w1 = w.alloc (.cells #[.int .i64 t, .int .i64 n] 28) := ⟨_, rfl⟩
 have hB1 : Below w.heap.size w w1 := by rw [hw1]; exact (below_new w _).out
 have hx1 : w1.heap[w.heap.size]? = some (.cells #[.int .i64 t, .int .i64 n] 28 (0, 0)) := by rw [hw1]; exact heap_alloc_new w _
 have HT : Hid (TreeY w1 base g T s ∧ w1.heap[w.heap.size]? = some (.cells #[.int .i64 t, .int .i64 n] 28 (0, 0)) ∧ Below w.heap.size w w1) := ⟨h.below hB1, hx1, hB1⟩
 have HW : Hid (w1 = w.alloc (.cells #[.int .i64 t, .int .i64 n] 28)) := hw1
 clear hw1 hB1 hx1 h
 go_enter Tryz.func37, Tryz.ntmps37
 go_wp2_with fail
 rw [← HW.out]
 go_at_call 77
 refine (yroot_any t n w1).mono ?_
 rintro e w2 ⟨rfl, hB2⟩
 have HB2 : Hid (Below w1.heap.size w1 w2) := hB2
 clear hB2
 cases hr : rootB t n
 · have hx2 := (HB2.out.block _ (block_lt HT.out.2.1)).trans HT.out.2.1
   have x20 : w2.cell? ⟨w.heap.size, 0, none⟩ = some (.int .i64 t) := cellOf hx2 0
   have x21 : w2.cell? ⟨w.heap.size, 1, none⟩ = some (.int .i64 n) := cellOf hx2 1
   go_wp2_with fail
   go_at_call 78
   refine (ytrash_any t n w2).mono ?_
   rintro e w3 ⟨rfl, hB3⟩
   have HB3 : Hid (Below w1.heap.size w1 w3) := HB2.out.trans (hB3.mono HB2.out.size)
   clear hB3 hx2 x20 x21 HB2
   cases ht : trashB t n
   · have hx3 := (HB3.out.block _ (block_lt HT.out.2.1)).trans HT.out.2.1
     have x30 : w3.cell? ⟨w.heap.size, 0, none⟩ = some (.int .i64 t) := cellOf hx3 0
     have x31 : w3.cell? ⟨w.heap.size, 1, none⟩ = some (.int .i64 n) := cellOf hx3 1
     go_wp2_with fail
     go_at_call 14
     refine (yfind_any base g s T t n w3 (HT.out.1.below HB3.out)).mono ?_
     rintro e w4 ⟨rfl, hB4⟩
     have HB4 : Hid (Below w1.heap.size w1 w4) := HB3.out.trans (hB4.mono HB3.out.size)
     clear hB4 hx3 x30 x31 HB3
     cases hf : findT T t n with
     | none =>
       rw [fndZ_none hf]
       go_wp2_with fail
       go_ret
       exact ⟨by simp [dirT, hr, ht, hf], HT.out.2.2.trans (HB4.out.mono HT.out.2.2.size)⟩
     | some k =>
       rw [fndZ_some hf]
       obtain ⟨o, ho, _⟩ := findT_some hf
       obtain ⟨gl, c, hc, _, _, _, _, _, c5⟩ := (HT.out.1.below HB4.out).ob ho
       have hl : T.length < 1000000 := HT.out.1.len
       obtain ⟨hk, _⟩ := List.getElem?_eq_some_iff.1 ho
       obtain ⟨m, hm⟩ : ∃ m, T.length = m := ⟨_, rfl⟩
       rw [hm] at hc hl hk
       have c0 : w4.cell? ⟨g, 0, none⟩ = some (.slice (some ⟨gl, 0, none⟩) m c) := cellOf hc 0
       have HE : Hid (dirT T t n = o.dir) := by show _ = _; simp [dirT, hr, ht, hf, ho]
       clear hm hc hf
       go_wp2_with fail
       go_ret
       exact ⟨by rw [HE.out]; rfl, HT.out.2.2.trans (HB4.out.mono HT.out.2.2.size)⟩
   · go_wp2_with fail
     go_ret
     exact ⟨by simp [dirT, ht], HT.out.2.2.trans (HB3.out.mono HT.out.2.2.size)⟩
 · go_wp2_with fail
   go_ret
   exact ⟨by simp [dirT, hr], HT.out.2.2.trans (HB2.out.mono HT.out.2.2.size)⟩
def mz (T : List OB) (r : Int × Int → Nat) (z : Int) : Nat := if z < 0 then 0 else match T[z.toNat]? with | some o => r (o.it, o.ii) + 1 | none => 0
theorem mz_some {T : List OB} {r : Int × Int → Nat} {a : Int × Int} {k : Nat} (h : findT T a.1 a.2 = some k) : mz T r (k : Int) = r a + 1 := by
 obtain ⟨o, ho, e1, e2⟩ := findT_some h
 unfold mz
 rw [if_neg (by omega), Int.toNat_natCast, ho]
 show r (o.it, o.ii) + 1 = _
 rw [e1, e2]
theorem mz_fnd {T : List OB} {r : Int × Int → Nat} (a : Int × Int) : mz T r (fndZ T a.1 a.2) ≤ r a + 1 := by
 cases h : findT T a.1 a.2 with
 | none => rw [fndZ_none h]; unfold mz; rw [if_pos (by omega)]; exact Nat.zero_le _
 | some k => rw [fndZ_some h, mz_some h]; exact Nat.le_refl _
set_option maxRecDepth 8000 in
set_option maxHeartbeats 2000000 in
theorem ybelow_any (base g s : Nat) (T : List OB) (t n t' n' : Int) (w : World) (h : TreeY w base g T s) (hr : Ranked T) : Calls Tryz.prog 17 #[.pointer (some ⟨g, 0, none⟩), idv t n, idv t' n'] w fun e w' => ∃ r : Bool, e = .returned (.bool r) ∧ (r = true ↔ Bel T (t, n) (t', n')) ∧ Below w.heap.size w w' := by
 obtain ⟨r, hr⟩ := hr
 obtain ⟨w0, hw0⟩ : ∃ w0, w0 = w.alloc (.cells #[.int .i64 t, .int .i64 n] 28) := ⟨_, rfl⟩
 obtain ⟨w1, hw1⟩ : ∃ w1, w1 = w0.alloc (.cells #[.int .i64 t', .int .i64 n'] 28) := ⟨_, rfl⟩
 have hB0 : Below w.heap.size w w0 := by rw [hw0]; exact (below_new w _).out
 have hs0 : w0.heap.size = w.heap.size + 1 := by rw [hw0]; simp
 have hB1 : Below w0.heap.size w0 w1 := by rw [hw1]; exact (below_new w0 _).out
 have hx1 : w1.heap[w0.heap.size]? = some (.cells #[.int .i64 t', .int .i64 n'] 28 (0, 0)) := by rw [hw1]; exact heap_alloc_new w0 _
 have HT : Hid (TreeY w1 base g T s ∧ w1.heap[w0.heap.size]? = some (.cells #[.int .i64 t', .int .i64 n'] 28 (0, 0)) ∧ Below w.heap.size w w1) := ⟨(h.below hB0).below hB1, hx1, hB0.trans (hB1.mono hB0.size)⟩
 have HW : Hid (w0 = w.alloc (.cells #[.int .i64 t, .int .i64 n] 28) ∧ w1 = w0.alloc (.cells #[.int .i64 t', .int .i64 n'] 28)) := ⟨hw0, hw1⟩
 have HR : Hid (∀ a b, upT T a = some b → r b < r a) := hr
 obtain ⟨m, hm⟩ : ∃ m, T.length = m := ⟨_, rfl⟩
 have hlen : m < 1000000 := by rw [← hm]; exact h.len
 have HM : Hid (T.length = m) := hm
 clear hw0 hw1 hB0 hB1 hx1 h hr hm
 go_enter Tryz.func17, Tryz.ntmps17
 go_wp2_with fail
 rw [← HW.out.1, ← HW.out.2]
 go_at_call 14
 refine (yfind_any base g s T t n w1 HT.out.1).mono ?_
 rintro e w2 ⟨rfl, hB2⟩
 have HB2 : Hid (Below w1.heap.size w1 w2) := hB2
 clear hB2
 obtain ⟨bx, hbx⟩ : ∃ bx, w.heap.size + 1 = bx := ⟨_, rfl⟩
 rw [hs0, hbx] at HT
 rw [hbx]
 clear hbx HW hs0
 go_wp2_with fail
 go_loopw [7] (fun vi wr => ∃ a : Int × Int, vi = .int .i64 (fndZ T a.1 a.2) ∧ Hid (Below w1.heap.size w1 wr ∧ (Bel T (t, n) (t', n') ↔ Bel T a (t', n')))) (fun vi _ => mz T r (intOf vi))
 case atStart => exact ⟨(t, n), rfl, HB2.out, Iff.rfl⟩
 case round =>
   clear HB2
   obtain ⟨a, rfl, HI⟩ := hrel
   cases hf : findT T a.1 a.2 with
   | none =>
     have HF : Hid (¬ Bel T (t, n) (t', n')) := fun hb => Bel.not (upT_none hf) (HI.out.2.1 hb)
     rw [fndZ_none hf]
     clear hf
     go_wp2_with fail
     go_ret
     exact ⟨false, rfl, ⟨fun e => (by cases e), fun hb => absurd hb HF.out⟩, HT.out.2.2.trans (HI.out.1.mono HT.out.2.2.size)⟩
   | some k =>
     rw [fndZ_some hf]
     obtain ⟨o, ho, _⟩ := findT_some hf
     have hu := upT_at hf ho
     have HK : Hid (findT T a.1 a.2 = some k ∧ T[k]? = some o ∧ upT T a = some (o.pt, o.pn)) := ⟨hf, ho, hu⟩
     have hk : k < m := by rw [← HM.out]; exact (List.getElem?_eq_some_iff.1 ho).1
     obtain ⟨gl, c, hc, _, _, c2, c3, _, _⟩ := (HT.out.1.below HI.out.1).ob ho
     rw [HM.out] at hc
     have hbx := (HI.out.1.block _ (block_lt HT.out.2.1)).trans HT.out.2.1
     have HC : Hid (wr.heap[g]? = some (.cells #[.slice (some ⟨gl, 0, none⟩) m c, .int .i64 (s : Nat)] 51 (0, 0)) ∧ wr.heap[bx]? = some (.cells #[.int .i64 t', .int .i64 n'] 28 (0, 0)) ∧ wr.cell? ⟨gl, k * 6 + 2, none⟩ = some (.int .i64 o.pt) ∧ wr.cell? ⟨gl, k * 6 + 3, none⟩ = some (.int .i64 o.pn)) := ⟨hc, hbx, c2, c3⟩
     clear hf ho hu hc hbx c2 c3
     go_wp2_with fail
     refine below_reg4 (by kernel_rfl) g bx gl m c k s t' n' o.pt o.pn (sameB o.pt o.pn t' n') _ rfl rfl rfl rfl hk HC.out.1 HC.out.2.1 HC.out.2.2.1 HC.out.2.2.2 (fun W _ => same_any _ _ _ _ W) ?_
     intro W hS
     have HWW : Hid (Below wr.heap.size wr W) := hS
     clear hS
     simp only [putAll, sA, sB, sC]
     cases hs : sameB o.pt o.pn t' n'
     · have c0 : W.cell? ⟨g, 0, none⟩ = some (.slice (some ⟨gl, 0, none⟩) m c) := cellOf ((HWW.out.block _ (block_lt HC.out.1)).trans HC.out.1) 0
       have c2 : W.cell? ⟨gl, k * 6 + 2, none⟩ = some (.int .i64 o.pt) := (HWW.out.cell (p := ⟨gl, k * 6 + 2, none⟩) (cell_lt HC.out.2.2.1)).trans HC.out.2.2.1
       have c3 : W.cell? ⟨gl, k * 6 + 3, none⟩ = some (.int .i64 o.pn) := (HWW.out.cell (p := ⟨gl, k * 6 + 3, none⟩) (cell_lt HC.out.2.2.2)).trans HC.out.2.2.2
       go_wp2_with fail
       go_at_call 14
       refine (yfind_any base g s T o.pt o.pn W (HT.out.1.below (HI.out.1.trans (HWW.out.mono HI.out.1.size)))).mono ?_
       rintro e W2 ⟨rfl, hB3⟩
       have HB3 : Hid (Below W.heap.size W W2) := hB3
       clear hB3 c0 c2 c3
       go_wp2_with fail
       go_roundw
       case rel =>
         have hWW := HI.out.1.trans (HWW.out.mono HI.out.1.size)
         refine ⟨(o.pt, o.pn), rfl, hWW.trans (HB3.out.mono hWW.size), HI.out.2.trans (Bel.next HK.out.2.2 ?_)⟩
         intro e
         cases e
         exact absurd hs (by simp [sameB])
       case measure =>
         show mz T r (fndZ T o.pt o.pn) < mz T r (k : Int)
         have h1 := mz_fnd (T := T) (r := r) (o.pt, o.pn)
         have h2 := HR.out _ _ HK.out.2.2
         rw [mz_some (r := r) HK.out.1]
         exact Nat.lt_of_le_of_lt h1 (by omega)
     · have HF : Hid (Bel T (t, n) (t', n')) := HI.out.2.2 (.one (by
         obtain ⟨e1, e2⟩ := sameB_iff.1 hs
         rw [HK.out.2.2, e1, e2]))
       go_wp2_with fail
       go_ret
       have hWW := HI.out.1.trans (HWW.out.mono HI.out.1.size)
       exact ⟨true, rfl, ⟨fun _ => HF.out, fun _ => rfl⟩, HT.out.2.2.trans (hWW.mono HT.out.2.2.size)⟩
end Go.Proofs.YthhakekbffembaaGreatDoor.Ck.Y

namespace Go.Proofs.YthhakekbffembaaGreatDoor.Ck.Y
open Go.RowKit Go.Maps
def MY (base : Nat) (w : World) (k : Nat) : Prop := base ≤ k ∧ ∃ cs t fr, w.heap[k]? = some (.cells cs t fr) ∧ (t = 51 ∨ t = 48)
def Fy (base : Nat) (w w' : World) : Prop := Only (MY base w) w w'
theorem Fy.next {base : Nat} {a b c : World} (h : Fy base a b) (k : Fy base b c) : Fy base a c := by
 refine ⟨k.os.trans h.os, k.tape.trans h.tape, k.output.trans h.output, Nat.le_trans h.size k.size, fun i hi hn => ?_⟩
 have e := h.block i hi hn
 refine (k.block i (Nat.lt_of_lt_of_le hi h.size) (fun hm => hn ?_)).trans e
 unfold MY at *
 rw [e] at hm
 exact hm
theorem Fy.of_below {base : Nat} {w w' : World} (h : Below w.heap.size w w') : Fy base w w' := Below.only h _
theorem Fy.toBelow {base : Nat} {w w' : World} (h : Fy base w w') (hb : base ≤ w.heap.size) : Below base w w' := Only.below h hb (fun _ h => h.1)
theorem Fy.keep {base : Nat} {w w' : World} (h : Fy base w w') {k : Nat} {cs : Array Value} {t : TypeId} {fr : Nat × Nat} (hk : w.heap[k]? = some (.cells cs t fr)) (h1 : t ≠ 51) (h2 : t ≠ 48) : w'.heap[k]? = some (.cells cs t fr) := by
 refine (h.block k (block_lt hk) ?_).trans hk
 rintro ⟨_, cs', t', fr', e, ht⟩
 rw [hk] at e
 simp only [Option.some.injEq, Obj.cells.injEq] at e
 rw [← e.2.1] at ht
 exact ht.elim h1 h2
theorem RowG.fy {w w' : World} {base base' : Nat} {v : Value} {l : List OG} (h : RowG w base v l) (hf : Fy base' w w') : RowG w' base v l := by
 refine ⟨h.1, ?_⟩
 rcases h.2 with e | ⟨g, cp, cur, hv, hbs, hblk, r⟩
 · exact .inl e
 · exact .inr ⟨g, cp, cur, hv, hbs, hf.keep hblk (by decide) (by decide), r⟩
theorem TreeY.skip {w : World} {base g s : Nat} {T : List OB} (h : TreeY w base g T s) : TreeY (w.setCell ⟨g, 1, none⟩ (.int .i64 ((s + 1 : Nat) : Int))) base g T (s + 1) ∧ Fy base w (w.setCell ⟨g, 1, none⟩ (.int .i64 ((s + 1 : Nat) : Int))) := by
 obtain ⟨v, h1, h2⟩ := h.cell
 have hO : Only (· = g) w (w.setCell ⟨g, 1, none⟩ (.int .i64 ((s + 1 : Nat) : Int))) := Only.setCell w ⟨g, 1, none⟩ _ rfl
 refine ⟨⟨h.lo, ⟨v, ?_, h2.1, ?_⟩, h.len⟩, Only.setCell w ⟨g, 1, none⟩ _ ⟨h.lo, _, _, _, h1, .inl rfl⟩⟩
 · rw [heap_set_same h1]
   rfl
 · rcases h2.2 with e | ⟨gl, cap, cur, hv, hb, hblk, r⟩
   · exact .inl e
   · exact .inr ⟨gl, cap, cur, hv, hb, (hO.block gl (block_lt hblk) (apart_tags hblk h1 (by decide))).trans hblk, r⟩
theorem obL_length (x : OB) : (obL x).length = 6 := rfl
theorem flatB_set3 : ∀ (T : List OB) (k : Nat) (b : OB) (pt pn : Int) (nm : ByteArray), T[k]? = some b →
   flatB (T.set k ⟨b.it, b.ii, pt, pn, nm, b.dir⟩) = (((flatB T).set (k * 6 + 2) (.int .i64 pt)).set (k * 6 + 3) (.int .i64 pn)).set (k * 6 + 4) (.string nm)
 | [], _, _, _, _, _, h => by simp at h
 | y :: T, 0, b, pt, pn, nm, h => by
   have : y = b := by simpa using h
   subst this
   rfl
 | y :: T, k + 1, b, pt, pn, nm, h => by
   have ih := flatB_set3 T k b pt pn nm (by simpa using h)
   rw [List.set_cons_succ, flatB, ih, flatB]
   rw [show (k + 1) * 6 + 2 = (obL y).length + (k * 6 + 2) by rw [obL_length]; omega, show (k + 1) * 6 + 3 = (obL y).length + (k * 6 + 3) by rw [obL_length]; omega, show (k + 1) * 6 + 4 = (obL y).length + (k * 6 + 4) by rw [obL_length]; omega]
   simp only [List.set_append_right _ _ (Nat.le_add_right _ _), Nat.add_sub_cancel_left]
theorem TreeY.moved {w : World} {base g s : Nat} {T : List OB} (h : TreeY w base g T s) {k : Nat} {b : OB} (hk : T[k]? = some b) {gl m c : Nat} (hc : w.heap[g]? = some (.cells #[.slice (some ⟨gl, 0, none⟩) m c, .int .i64 (s : Nat)] 51 (0, 0))) (pt pn : Int) (nm : ByteArray) :
   TreeY (((w.setCell ⟨gl, k * 6 + 2, none⟩ (.int .i64 pt)).setCell ⟨gl, k * 6 + 3, none⟩ (.int .i64 pn)).setCell ⟨gl, k * 6 + 4, none⟩ (.string nm)) base g (T.set k ⟨b.it, b.ii, pt, pn, nm, b.dir⟩) s ∧
   Fy base w (((w.setCell ⟨gl, k * 6 + 2, none⟩ (.int .i64 pt)).setCell ⟨gl, k * 6 + 3, none⟩ (.int .i64 pn)).setCell ⟨gl, k * 6 + 4, none⟩ (.string nm)) := by
 obtain ⟨v, h1, h2⟩ := h.cell
 rw [hc] at h1
 have ev : v = .slice (some ⟨gl, 0, none⟩) m c := by
   have h3 := h1
   simp only [Option.some.injEq, Obj.cells.injEq] at h3
   have := h3.1
   simp at this
   exact this.symm
 subst ev
 rcases h2.2 with ⟨e, _⟩ | ⟨g', cap, cur, hv, hb, hblk, h3, h4, h5, h6⟩
 · cases e
 · cases hv
   have k1 := heap_set_same hblk (k := k * 6 + 2) (.int .i64 pt)
   have k2 := heap_set_same k1 (k := k * 6 + 3) (.int .i64 pn)
   have k3 := heap_set_same k2 (k := k * 6 + 4) (.string nm)
   have hne := apart_tags hblk hc (by decide)
   have hO : Only (· = gl) w (((w.setCell ⟨gl, k * 6 + 2, none⟩ (.int .i64 pt)).setCell ⟨gl, k * 6 + 3, none⟩ (.int .i64 pn)).setCell ⟨gl, k * 6 + 4, none⟩ (.string nm)) :=
     ((Only.setCell (S := (· = gl)) w ⟨gl, k * 6 + 2, none⟩ _ rfl).next (Only.setCell (S := (· = gl)) _ ⟨gl, k * 6 + 3, none⟩ _ rfl)).next (Only.setCell (S := (· = gl)) _ ⟨gl, k * 6 + 4, none⟩ _ rfl)
   refine ⟨⟨h.lo, ⟨.slice (some ⟨gl, 0, none⟩) T.length c, ?_, ?_, .inr ⟨gl, c, _, by rw [List.length_set], hb, k3, by rw [List.length_set]; exact h3, h4, ?_, ?_⟩⟩, by rw [List.length_set]; exact h.len⟩, ?_⟩
   · exact (hO.block g (block_lt hc) (fun e => hne e.symm)).trans hc
   · rw [flatB_length]
   · simp only [Array.size_setIfInBounds]; exact h5
   · rw [flatB_set3 T k b pt pn nm hk, ← h6, List.length_set]
     simp only [Array.toList_setIfInBounds, List.take_set]
   · refine ⟨hO.os, hO.tape, hO.output, hO.size, fun i hi hn => hO.block i hi ?_⟩
     rintro rfl
     exact hn ⟨hb, _, _, _, hblk, .inr rfl⟩
theorem infoYO : ∃ i, Tryz.prog.info? 48 = some i ∧ i.zero = some (.agg #[.int .i64 0, .int .i64 0, .int .i64 0, .int .i64 0, .string ⟨#[]⟩, .bool false]) ∧ i.size = 6 ∧ i.bytes = 56 := by
 have e : (Tryz.prog.info? 48).map (fun i => (i.zero, i.size, i.bytes)) = some (some (.agg #[.int .i64 0, .int .i64 0, .int .i64 0, .int .i64 0, .string ⟨#[]⟩, .bool false]), 6, 56) := by kernel_rfl
 obtain ⟨i, hi, he⟩ := Option.map_eq_some_iff.1 e
 injection he with h1 h2
 injection h2 with h2 h3
 exact ⟨i, hi, h1, h2, h3⟩
theorem own_tagY {W : World} {base : Nat} {e : TypeId} {size : Nat} {v : Value} {n : Nat} {xs : List Value} (h : W.ownsRow base e size v n xs) {g : Nat} (hg : v.ownBlock = some g) : ∃ cs fr, W.heap[g]? = some (.cells cs e fr) ∧ base ≤ g := by
 rcases h.2 with ⟨rfl, _⟩ | ⟨g', cap, cur, rfl, hb, hblk, _⟩
 · simp [Value.ownBlock] at hg
 · have e' : g' = g := by simpa [Value.ownBlock] using hg
   subst e'
   exact ⟨cur, _, hblk, hb⟩
theorem obL_one (x : OB) : ∀ v ∈ obL x, v.oneCell' = true := by
 intro v hv
 simp only [obL, List.mem_cons, List.not_mem_nil, or_false] at hv
 rcases hv with rfl | rfl | rfl | rfl | rfl | rfl <;> rfl
theorem TreeY.more {w W1 : World} {base g s : Nat} {T : List OB} (h : TreeY w base g T s) (x : OB) (hl : T.length < 999999) {p : Option Addr} {m c : Nat} (hc : w.heap[g]? = some (.cells #[.slice p m c, .int .i64 (s : Nat)] 51 (0, 0))) (hW1 : W1 = w.drew.alloc (.cells (obL x).toArray 48)) :
   ∃ p1 k1 W2, (Builtin.append_ #[49, 49] 49 #[.slice p m c, .slice (some ⟨w.heap.size, 0, none⟩) 1 1]).run Tryz.prog W1 = .ok (.slice p1 (m + 1) k1) W2 ∧ W2.heap[g]? = some (.cells #[.slice p m c, .int .i64 (s : Nat)] 51 (0, 0)) ∧ (∀ (k : Nat) (cs : Array Value) (t : TypeId) (fr : Nat × Nat), w.heap[k]? = some (.cells cs t fr) → t ≠ 48 → W1.heap[k]? = some (.cells cs t fr) ∧ W2.heap[k]? = some (.cells cs t fr)) ∧
     TreeY (W2.setCell ⟨g, 0, none⟩ (.slice p1 (m + 1) k1)) base g (T ++ [x]) s ∧ Fy base w (W2.setCell ⟨g, 0, none⟩ (.slice p1 (m + 1) k1)) := by
 obtain ⟨v, h1, h2⟩ := h.cell
 rw [hc] at h1
 have ev : v = .slice p m c := by
   have h3 := h1
   simp only [Option.some.injEq, Obj.cells.injEq] at h3
   have := h3.1
   simp at this
   exact this.symm
 subst ev
 have hm : m = T.length := by
   obtain ⟨p', c', e⟩ := own_slice h2
   injection e
 subst hm
 obtain ⟨i0, hi0, hz0, hz1, hz2⟩ := infoYO
 have hbw : base ≤ w.heap.size := Nat.le_trans h.lo (Nat.le_of_lt (block_lt hc))
 have hb1 : Below w.heap.size w W1 := by
   rw [hW1]
   have := (below_new w.drew (.cells (obL x).toArray 48)).out
   exact ⟨this.os, this.tape, this.output, this.size, this.block⟩
 have hn1 : W1.heap[w.heap.size]? = some (.cells (obL x).toArray 48 (0, 0)) := by rw [hW1]; exact heap_alloc_new w.drew _
 have hs1 : W1.heap.size = w.heap.size + 1 := by rw [hW1]; simp
 have hr1 := own_below h2 hb1
 have hc1 := (hb1.block g (block_lt hc)).trans hc
 obtain ⟨v1, W2, hrun, hown, hgr, _, hpl⟩ := run_append_own_at (P := Tryz.prog) (w := W1) base 49 49 48 i0 _ 6 56 Tryz.underlying49 hi0 hz0 hz1 hz2 rfl (by decide) (.slice p T.length c) T.length (flatB T) hr1 ⟨w.heap.size, 0, none⟩ 1 1 (obL x) rfl
   (fun j u hj => by
     rw [Addr.add_lit, Nat.zero_add, cellOf hn1 j]
     simpa using hj) (obL_one x) (by unfold maxLen; omega) (by omega) (by omega)
 obtain ⟨p1, k1, rfl⟩ := own_slice hown
 have hgg : ∀ (k : Nat) (cs : Array Value) (t : TypeId) (fr : Nat × Nat), W1.heap[k]? = some (.cells cs t fr) → t ≠ 48 → W2.heap[k]? = some (.cells cs t fr) := fun k cs t fr hk ht => by
   refine (hgr.block k (block_lt hk) (fun e => ?_)).trans hk
   obtain ⟨cs', fr', e', _⟩ := own_tagY hr1 e.symm
   rw [hk] at e'
   simp only [Option.some.injEq, Obj.cells.injEq] at e'
   exact ht e'.2.1
 have hc2 := hgg _ _ _ _ hc1 (by decide)
 have hO3 : Only (· = g) W2 (W2.setCell ⟨g, 0, none⟩ (.slice p1 (T.length + 1) k1)) := Only.setCell (S := (· = g)) W2 ⟨g, 0, none⟩ _ rfl
 have hll : (T ++ [x]).length = T.length + 1 := by simp
 refine ⟨p1, k1, W2, hrun, hc2, fun k cs t fr hk ht => ⟨(hb1.block k (block_lt hk)).trans hk, hgg k cs t fr ((hb1.block k (block_lt hk)).trans hk) ht⟩, ⟨h.lo, ⟨.slice p1 (T.length + 1) k1, ?_, ?_⟩, by omega⟩, ?_⟩
 · rw [heap_set_same hc2]
   rfl
 · have e : flatB (T ++ [x]) = flatB T ++ obL x := by rw [flatB_append]; simp [flatB]
   rw [hll, e]
   refine ⟨hown.1, ?_⟩
   rcases hown.2 with e | ⟨g', cp, cur, hv, hbs, hblk, r⟩
   · exact .inl e
   · exact .inr ⟨g', cp, cur, hv, hbs, (hO3.block g' (block_lt hblk) (apart_tags hblk hc2 (by decide))).trans hblk, r⟩
 · refine ⟨hO3.os.trans (hgr.os.trans hb1.os), hO3.tape.trans (hgr.tape.trans hb1.tape), hO3.output.trans (hgr.output.trans hb1.output), Nat.le_trans (Nat.le_trans hb1.size hgr.size) hO3.size, fun k hk hn => ?_⟩
   have e1 := hb1.block k hk
   have hk1 : k < W1.heap.size := by omega
   have e2 := hgr.block k hk1 (fun e => by
     obtain ⟨cs, fr, hcs, hlo⟩ := own_tagY hr1 e.symm
     exact hn ⟨hlo, cs, _, fr, by rw [← e1]; exact hcs, .inr rfl⟩)
   have e3 := hO3.block k (Nat.lt_of_lt_of_le hk1 hgr.size) (fun e => hn (by subst e; exact ⟨h.lo, _, _, _, hc, .inl rfl⟩))
   exact e3.trans (e2.trans e1)
end Go.Proofs.YthhakekbffembaaGreatDoor.Ck.Y
