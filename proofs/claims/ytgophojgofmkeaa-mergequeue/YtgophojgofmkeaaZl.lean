/-
  The document's own Sorted.
-/
import Derived.Test.YtgophojgofmkeaaZk
namespace Go.Proofs.Ytgophojgofmkeaa.Ck
open Go.RowKit Go.Maps

def insT (T : List QE) (k : Nat) (x : QE) : List QE := T.take k ++ x :: T.drop k
/-- What the document's outer loop keeps. -/
structure DocI (w wr : World) (l : List OT) (i : Nat) (v : Value) (T : List QE) : Prop where
  row : RowO wr w.heap.size v (T.map strip)
  perm : T.Perm (enumO 0 (l.take i))
  rise : Rise (keyE false) T
  bel : Below w.heap.size w wr
theorem DocI.len {w wr : World} {l : List OT} {i : Nat} {v : Value} {T : List QE} (h : DocI w wr l i v T) (hi : i ≤ l.length) : T.length = i := by
  rw [h.perm.length_eq, enumO_length, List.length_take]; omega

/-- What the document's inner loop keeps. -/
structure DocK (w wr : World) (T : List QE) (xe : QE) (k i g c : Nat) : Prop where
  row : RowO wr w.heap.size (.slice (some ⟨g, 0, none⟩) (i + 1) c) ((insT T k xe).map strip)
  less : ∀ a ∈ T.drop k, lessB xe.t xe.n a.t a.n = true
  bel : Below w.heap.size w wr
theorem grown_below {w0 w w' : World} {v : Value} {l : List OT} {B : Nat} (hb : Below B w0 w) (hB : B ≤ w.heap.size) (hr : RowO w B v l) (hg : w.grownBy w' v.ownBlock) : Below B w0 w' :=
  ⟨hg.os.trans hb.os, hg.tape.trans hb.tape, hg.output.trans hb.output, Nat.le_trans hb.size hg.size, fun k hk => (hg.block k (by omega) (fun e => by
    obtain ⟨_, _, h⟩ := hr.tag e.symm
    omega)).trans (hb.block k hk)⟩

theorem insT_perm (T : List QE) (k : Nat) (x : QE) : (insT T k x).Perm (T ++ [x]) := by
  unfold insT
  have h1 : (T.take k ++ x :: T.drop k).Perm (x :: (T.take k ++ T.drop k)) := List.perm_middle
  rw [List.take_append_drop] at h1
  exact h1.trans (List.perm_append_comm (l₁ := [x]) (l₂ := T))
theorem DocK.done {w wr : World} {T : List QE} {xe : QE} {k i g c : Nat} {l : List OT} {x : OT} (h : DocK w wr T xe k i g c) (hp : T.Perm (enumO 0 (l.take i))) (hrise : Rise (keyE false) T) (hxe : xe = ⟨x.t, x.n, x.k, i⟩) (hx : l[i]? = some x) (hr : RngL l) (hl : l.length ≤ 1000)
    (hs : k = 0 ∨ ∃ b, T[k - 1]? = some b ∧ lessB xe.t xe.n b.t b.n = false) : DocI w wr l (i + 1) (.slice (some ⟨g, 0, none⟩) (i + 1) c) (insT T k xe) := by
  have hil := (List.getElem?_eq_some_iff.1 hx).1
  have hrt : RngL (l.take i) := fun y hy => hr y (List.mem_of_mem_take hy)
  have ok : ∀ a ∈ T, a.ok ∧ a.came < i := fun a ha => by
    have hm := hp.mem_iff.1 ha
    refine ⟨enumO_ok hrt (by rw [List.length_take]; omega) a hm, ?_⟩
    have := (enumO_came _ 0 a hm).2
    rw [List.length_take] at this
    omega
  have okx : xe.ok := by rw [hxe]; exact ⟨hr x (List.mem_of_getElem? hx), by show i < 1000000; omega⟩
  have hcx : xe.came = i := by rw [hxe]
  refine ⟨h.row, ?_, rise_ins hrise (fun a ha => ?_) (fun a ha => ?_), h.bel⟩
  · refine (insT_perm T k xe).trans ?_
    have e : l.take (i + 1) = l.take i ++ [x] := by rw [List.take_add_one, hx]; rfl
    rw [e, enumO_snoc, hxe, List.length_take, show 0 + min i l.length = i by omega]
    exact hp.append_right _
  · rcases hs with h0 | ⟨b, hb, hlb⟩
    · subst h0; simp at ha
    · have hbm := List.mem_of_getElem? hb
      have k1 : keyE false b < keyE false xe := by
        rw [keyE_lt (ok b hbm).1 okx]
        refine .inr ⟨hlb, ?_⟩
        have := (ok b hbm).2
        omega
      obtain ⟨j, hj, e⟩ := List.getElem_of_mem ha
      rw [List.length_take] at hj
      rw [List.getElem_take] at e
      have hbl := List.getElem?_eq_some_iff.1 hb
      obtain ⟨hkl, hbe⟩ := hbl
      by_cases hjk : j = k - 1
      · subst hjk
        rw [← e, hbe]
        exact k1
      · have := (List.pairwise_iff_getElem.1 hrise) j (k - 1) (by omega) hkl (by omega)
        rw [e, hbe] at this
        omega
  · rw [keyE_lt okx (ok a (List.mem_of_mem_drop ha)).1]
    exact .inl (h.less a ha)
theorem DocK.below {w wr W : World} {T : List QE} {xe : QE} {k i g c : Nat} (h : DocK w wr T xe k i g c) (hb : Below wr.heap.size wr W) : DocK w W T xe k i g c := ⟨h.row.below hb, h.less, h.bel.trans (hb.mono h.bel.size)⟩

theorem insT_swap {T : List QE} {xe b : QE} {kk : Nat} (hb : T[kk]? = some b) : ((((insT T (kk + 1) xe).map strip).set kk (strip xe)).set (kk + 1) (strip b)) = (insT T kk xe).map strip := by
  have hk := (List.getElem?_eq_some_iff.1 hb).1
  have e0 : T.drop kk = b :: T.drop (kk + 1) := by
    rw [List.drop_eq_getElem_cons hk]
    have := (List.getElem?_eq_some_iff.1 hb).2
    rw [this]
  have e1 : T.take (kk + 1) = T.take kk ++ [b] := by rw [List.take_add_one, hb]; rfl
  have hl : (T.take kk).length = kk := by rw [List.length_take]; omega
  rw [← List.map_set, ← List.map_set]
  congr 1
  unfold insT
  rw [e0, e1, List.append_assoc]
  rw [List.set_append_right kk _ (by omega), hl, Nat.sub_self]
  rw [List.set_append_right (kk + 1) _ (by omega), hl, show kk + 1 - kk = 1 by omega]
  rfl
theorem DocK.swap {w W W2 W3 W4 : World} {T : List QE} {xe b : QE} {kk i g c : Nat} (h : DocK w W T xe (kk + 1) i g c) (hb : T[kk]? = some b) (hle : lessB xe.t xe.n b.t b.n = true) (hB2 : Below W.heap.size W W2) (ho3 : Only (· = g) W2 W3) (ho4 : Only (· = g) W3 W4)
    (hrow : RowO W4 w.heap.size (.slice (some ⟨g, 0, none⟩) (i + 1) c) ((((insT T (kk + 1) xe).map strip).set kk (strip xe)).set (kk + 1) (strip b))) : DocK w W4 T xe kk i g c := by
  have hk := (List.getElem?_eq_some_iff.1 hb).1
  have hgb : w.heap.size ≤ g := by obtain ⟨_, _, _, hb, _⟩ := h.row.cur; exact hb
  rw [insT_swap hb] at hrow
  refine ⟨hrow, fun a ha => ?_, ?_⟩
  · rw [List.drop_eq_getElem_cons hk, (List.getElem?_eq_some_iff.1 hb).2, List.mem_cons] at ha
    rcases ha with rfl | ha
    · exact hle
    · exact h.less a ha
  · have h1 := h.bel.trans (hB2.mono h.bel.size)
    exact ⟨ho4.os.trans (ho3.os.trans h1.os), ho4.tape.trans (ho3.tape.trans h1.tape), ho4.output.trans (ho3.output.trans h1.output), Nat.le_trans h1.size (Nat.le_trans ho3.size ho4.size), fun k hk => by
      have s1 := h1.size
      have s2 := ho3.size
      rw [ho4.block k (by omega) (by omega), ho3.block k (by omega) (by omega)]
      exact h1.block k hk⟩

set_option maxRecDepth 8000 in
set_option maxHeartbeats 4000000 in
theorem rs_reg7_no {Q : Exit → Act → World → Prop} {base : Array Value} {dd : List Deferred} {ops : Array Oper} (hops : Try.f8.body.bind (regs 7) = some ops)  (w9 : World) (hsz : base.size = 61)
    (b5 : base.getD 5 undef = .int .i64 0)
    (hQ : ∀ W, Below w9.heap.size w9 W → Q .normal ⟨putAll base [(some 24, .int .i64 0), (some 25, .bool false), (some 26, .bool false), (some 27, undef), (some 28, undef), (some 29, undef), (some 30, undef), (some 31, undef), (some 32, undef), (some 33, undef), (some 34, undef), (some 35, undef), (some 36, undef), (some 37, undef), (some 38, undef), (some 39, .bool false)], dd⟩ W) :
    (Code.region 7 ops true).wp Try.prog Q ⟨base, dd⟩ w9 := by
  have hmix : Try.prog.follows .mixedOrders = true := by kernel_rfl
  have h2 := (show Try.f8.body.bind (regs 7) = some _ from rfl).symm.trans hops
  obtain rfl := Option.some.inj h2
  clear h2 hops
  have below9 : Below w9.heap.size w9 w9.drew := (Below.refl _ _).drew
  obtain ⟨LL, hLe⟩ : ∃ LL : List (Option Tmp × Value), LL = [(some 24, .int .i64 0), (some 25, .bool false), (some 26, .bool false), (some 27, undef), (some 28, undef), (some 29, undef), (some 30, undef), (some 31, undef), (some 32, undef), (some 33, undef), (some 34, undef), (some 35, undef), (some 36, undef), (some 37, undef), (some 38, undef), (some 39, .bool false)] := ⟨_, rfl⟩
  have vv0 : vals LL 0 = .int .i64 0 := by rw [hLe]; rfl
  have vv1 : vals LL 1 = .bool false := by rw [hLe]; rfl
  have vv2 : vals LL 2 = .bool false := by rw [hLe]; rfl
  have vv3 : vals LL 3 = undef := by rw [hLe]; rfl
  have vv4 : vals LL 4 = undef := by rw [hLe]; rfl
  have vv5 : vals LL 5 = undef := by rw [hLe]; rfl
  have vv6 : vals LL 6 = undef := by rw [hLe]; rfl
  have vv7 : vals LL 7 = undef := by rw [hLe]; rfl
  have vv8 : vals LL 8 = undef := by rw [hLe]; rfl
  have vv9 : vals LL 9 = undef := by rw [hLe]; rfl
  have vv10 : vals LL 10 = undef := by rw [hLe]; rfl
  have vv11 : vals LL 11 = undef := by rw [hLe]; rfl
  have vv12 : vals LL 12 = undef := by rw [hLe]; rfl
  have vv13 : vals LL 13 = undef := by rw [hLe]; rfl
  have vv14 : vals LL 14 = undef := by rw [hLe]; rfl
  have vv15 : vals LL 15 = .bool false := by rw [hLe]; rfl
  refine region_laid hmix (by kernel_rfl) 61 hsz (by kernel_rfl) LL (by rw [hLe]; rfl) (fun _ W => Below w9.heap.size w9 W) below9 ?_ ?_
  · intro b W i o a hS hcl ho hb hd ev kp yl
    match i with
    | 0 =>
      simp only [List.getElem?_toArray, List.getElem?_cons_zero, Option.some.injEq] at ho
      subst ho
      have e5 : a.tmps[5]?.getD undef = .int .i64 0 := (kp 5 (by kernel_rfl)).trans b5
      rw [vv0]
      refine does_value rfl (by intro c h; cases h) (w' := W) ?_ (hS)
      · simp [execOp, go_sem, e5]
    | 1 =>
      simp only [List.getElem?_toArray, List.getElem?_cons_zero, List.getElem?_cons_succ, Option.some.injEq] at ho
      subst ho
      have p0 : b 0 = true := hd ⟨0, .data⟩ (by simp) rfl
      have e24 := (ev 0 24 rfl p0).trans vv0
      rw [vv1]
      refine does_value rfl (by intro c h; cases h) (w' := W) ?_ (hS)
      · simp [execOp, go_sem, e24]
    | 2 =>
      simp only [List.getElem?_toArray, List.getElem?_cons_zero, List.getElem?_cons_succ, Option.some.injEq] at ho
      subst ho
      have p1 : b 1 = true := hd ⟨1, .data⟩ (by simp) rfl
      have e25 := (ev 1 25 rfl p1).trans vv1
      rw [vv2]
      refine does_value rfl (by intro c h; cases h) (w' := W) ?_ (hS)
      · simp [execOp, go_sem, e25]
    | 3 =>
      simp only [List.getElem?_toArray, List.getElem?_cons_zero, List.getElem?_cons_succ, Option.some.injEq] at ho
      subst ho
      have p2 : b 2 = true := hd ⟨2, .guard⟩ (by simp) rfl
      exact does_pass rfl (yl 2 26 false rfl p2 vv2) (by decide) vv3 (hS)
    | 4 =>
      simp only [List.getElem?_toArray, List.getElem?_cons_zero, List.getElem?_cons_succ, Option.some.injEq] at ho
      subst ho
      have p2 : b 2 = true := hd ⟨2, .guard⟩ (by simp) rfl
      exact does_pass rfl (yl 2 26 false rfl p2 vv2) (by decide) vv4 (hS)
    | 5 =>
      simp only [List.getElem?_toArray, List.getElem?_cons_zero, List.getElem?_cons_succ, Option.some.injEq] at ho
      subst ho
      have p3 : b 3 = true := hd ⟨3, .data⟩ (by simp) rfl
      have p4 : b 4 = true := hd ⟨4, .data⟩ (by simp) rfl
      have p2 : b 2 = true := hd ⟨2, .guard⟩ (by simp) rfl
      exact does_pass rfl (yl 2 26 false rfl p2 vv2) (by decide) vv5 (hS)
    | 6 =>
      simp only [List.getElem?_toArray, List.getElem?_cons_zero, List.getElem?_cons_succ, Option.some.injEq] at ho
      subst ho
      have p5 : b 5 = true := hd ⟨5, .data⟩ (by simp) rfl
      have p2 : b 2 = true := hd ⟨2, .guard⟩ (by simp) rfl
      exact does_pass rfl (yl 2 26 false rfl p2 vv2) (by decide) vv6 (hS)
    | 7 =>
      simp only [List.getElem?_toArray, List.getElem?_cons_zero, List.getElem?_cons_succ, Option.some.injEq] at ho
      subst ho
      have p6 : b 6 = true := hd ⟨6, .data⟩ (by simp) rfl
      have p2 : b 2 = true := hd ⟨2, .guard⟩ (by simp) rfl
      exact does_pass rfl (yl 2 26 false rfl p2 vv2) (by decide) vv7 (hS)
    | 8 =>
      simp only [List.getElem?_toArray, List.getElem?_cons_zero, List.getElem?_cons_succ, Option.some.injEq] at ho
      subst ho
      have p2 : b 2 = true := hd ⟨2, .guard⟩ (by simp) rfl
      exact does_pass rfl (yl 2 26 false rfl p2 vv2) (by decide) vv8 (hS)
    | 9 =>
      simp only [List.getElem?_toArray, List.getElem?_cons_zero, List.getElem?_cons_succ, Option.some.injEq] at ho
      subst ho
      have p2 : b 2 = true := hd ⟨2, .guard⟩ (by simp) rfl
      exact does_pass rfl (yl 2 26 false rfl p2 vv2) (by decide) vv9 (hS)
    | 10 =>
      simp only [List.getElem?_toArray, List.getElem?_cons_zero, List.getElem?_cons_succ, Option.some.injEq] at ho
      subst ho
      have p9 : b 9 = true := hd ⟨9, .data⟩ (by simp) rfl
      have p2 : b 2 = true := hd ⟨2, .guard⟩ (by simp) rfl
      exact does_pass rfl (yl 2 26 false rfl p2 vv2) (by decide) vv10 (hS)
    | 11 =>
      simp only [List.getElem?_toArray, List.getElem?_cons_zero, List.getElem?_cons_succ, Option.some.injEq] at ho
      subst ho
      have p8 : b 8 = true := hd ⟨8, .data⟩ (by simp) rfl
      have p10 : b 10 = true := hd ⟨10, .data⟩ (by simp) rfl
      have p2 : b 2 = true := hd ⟨2, .guard⟩ (by simp) rfl
      exact does_pass rfl (yl 2 26 false rfl p2 vv2) (by decide) vv11 (hS)
    | 12 =>
      simp only [List.getElem?_toArray, List.getElem?_cons_zero, List.getElem?_cons_succ, Option.some.injEq] at ho
      subst ho
      have p11 : b 11 = true := hd ⟨11, .data⟩ (by simp) rfl
      have p2 : b 2 = true := hd ⟨2, .guard⟩ (by simp) rfl
      exact does_pass rfl (yl 2 26 false rfl p2 vv2) (by decide) vv12 (hS)
    | 13 =>
      simp only [List.getElem?_toArray, List.getElem?_cons_zero, List.getElem?_cons_succ, Option.some.injEq] at ho
      subst ho
      have p12 : b 12 = true := hd ⟨12, .data⟩ (by simp) rfl
      have p2 : b 2 = true := hd ⟨2, .guard⟩ (by simp) rfl
      exact does_pass rfl (yl 2 26 false rfl p2 vv2) (by decide) vv13 (hS)
    | 14 =>
      simp only [List.getElem?_toArray, List.getElem?_cons_zero, List.getElem?_cons_succ, Option.some.injEq] at ho
      subst ho
      have p7 : b 7 = true := hd ⟨7, .data⟩ (by simp) rfl
      have p13 : b 13 = true := hd ⟨13, .data⟩ (by simp) rfl
      have p2 : b 2 = true := hd ⟨2, .guard⟩ (by simp) rfl
      exact does_pass rfl (yl 2 26 false rfl p2 vv2) (by decide) vv14 (hS)
    | 15 =>
      simp only [List.getElem?_toArray, List.getElem?_cons_zero, List.getElem?_cons_succ, Option.some.injEq] at ho
      subst ho
      have p2 : b 2 = true := hd ⟨2, .data⟩ (by simp) rfl
      have p14 : b 14 = true := hd ⟨14, .data⟩ (by simp) rfl
      have e26 := (ev 2 26 rfl p2).trans vv2
      rw [vv15]
      refine does_value rfl (by intro c h; cases h) (w' := W) ?_ (hS)
      · simp [execOp, go_sem, e26]
    | k + 16 => simp at ho
  · intro b' W hS _
    subst hLe
    exact hQ W hS

set_option maxRecDepth 8000 in
set_option maxHeartbeats 4000000 in
theorem rs_reg7 {Q : Exit → Act → World → Prop} {base : Array Value} {dd : List Deferred} {ops : Array Oper} (hops : Try.f8.body.bind (regs 7) = some ops) (gl m cl K kk : Nat) (xt xn yt yn : Int) (r : Bool) (w9 : World) (hsz : base.size = 61)
    (b3 : base.getD 3 undef = .slice (some ⟨gl, 0, none⟩) m cl)
    (b5 : base.getD 5 undef = .int .i64 (K : Nat))
    (hK : 0 < K) (hKm : K < m) (hkm : kk < m) (hsub : (K : Int) - 1 = (kk : Nat)) (hwr : IntKind.i64.wrap (kk : Int) = (kk : Int))
    (hx0 : w9.cell? ⟨gl, K * 11, none⟩ = some (.int .i64 xt)) (hx1 : w9.cell? ⟨gl, K * 11 + 1, none⟩ = some (.int .i64 xn)) (hy0 : w9.cell? ⟨gl, kk * 11, none⟩ = some (.int .i64 yt)) (hy1 : w9.cell? ⟨gl, kk * 11 + 1, none⟩ = some (.int .i64 yn))
    (cK : ∀ W, Below w9.heap.size w9 W → Calls Try.prog 10 #[idv xt xn, idv yt yn] W fun e w' => e = .returned (.bool r) ∧ Below W.heap.size W w')
    (hQ : ∀ W, Below w9.heap.size w9 W → Q .normal ⟨putAll base [(some 24, .int .i64 (K : Nat)), (some 25, .bool true), (some 26, .bool true), (some 27, .slice (some ⟨gl, 0, none⟩) m cl), (some 28, .int .i64 (K : Nat)), (some 29, .pointer (some ⟨gl, K * 11, none⟩)), (some 30, .pointer (some ⟨gl, K * 11, none⟩)), (some 31, .agg #[.int .i64 xt, .int .i64 xn]), (some 32, .slice (some ⟨gl, 0, none⟩) m cl), (some 33, .int .i64 (K : Nat)), (some 34, .int .i64 (kk : Nat)), (some 35, .pointer (some ⟨gl, kk * 11, none⟩)), (some 36, .pointer (some ⟨gl, kk * 11, none⟩)), (some 37, .agg #[.int .i64 yt, .int .i64 yn]), (some 38, .bool r), (some 39, .bool r)], dd⟩ W) :
    (Code.region 7 ops true).wp Try.prog Q ⟨base, dd⟩ w9 := by
  have hmix : Try.prog.follows .mixedOrders = true := by kernel_rfl
  have h2 := (show Try.f8.body.bind (regs 7) = some _ from rfl).symm.trans hops
  obtain rfl := Option.some.inj h2
  clear h2 hops
  have below9 : Below w9.heap.size w9 w9.drew := (Below.refl _ _).drew
  obtain ⟨LL, hLe⟩ : ∃ LL : List (Option Tmp × Value), LL = [(some 24, .int .i64 (K : Nat)), (some 25, .bool true), (some 26, .bool true), (some 27, .slice (some ⟨gl, 0, none⟩) m cl), (some 28, .int .i64 (K : Nat)), (some 29, .pointer (some ⟨gl, K * 11, none⟩)), (some 30, .pointer (some ⟨gl, K * 11, none⟩)), (some 31, .agg #[.int .i64 xt, .int .i64 xn]), (some 32, .slice (some ⟨gl, 0, none⟩) m cl), (some 33, .int .i64 (K : Nat)), (some 34, .int .i64 (kk : Nat)), (some 35, .pointer (some ⟨gl, kk * 11, none⟩)), (some 36, .pointer (some ⟨gl, kk * 11, none⟩)), (some 37, .agg #[.int .i64 yt, .int .i64 yn]), (some 38, .bool r), (some 39, .bool r)] := ⟨_, rfl⟩
  have vv0 : vals LL 0 = .int .i64 (K : Nat) := by rw [hLe]; rfl
  have vv1 : vals LL 1 = .bool true := by rw [hLe]; rfl
  have vv2 : vals LL 2 = .bool true := by rw [hLe]; rfl
  have vv3 : vals LL 3 = .slice (some ⟨gl, 0, none⟩) m cl := by rw [hLe]; rfl
  have vv4 : vals LL 4 = .int .i64 (K : Nat) := by rw [hLe]; rfl
  have vv5 : vals LL 5 = .pointer (some ⟨gl, K * 11, none⟩) := by rw [hLe]; rfl
  have vv6 : vals LL 6 = .pointer (some ⟨gl, K * 11, none⟩) := by rw [hLe]; rfl
  have vv7 : vals LL 7 = .agg #[.int .i64 xt, .int .i64 xn] := by rw [hLe]; rfl
  have vv8 : vals LL 8 = .slice (some ⟨gl, 0, none⟩) m cl := by rw [hLe]; rfl
  have vv9 : vals LL 9 = .int .i64 (K : Nat) := by rw [hLe]; rfl
  have vv10 : vals LL 10 = .int .i64 (kk : Nat) := by rw [hLe]; rfl
  have vv11 : vals LL 11 = .pointer (some ⟨gl, kk * 11, none⟩) := by rw [hLe]; rfl
  have vv12 : vals LL 12 = .pointer (some ⟨gl, kk * 11, none⟩) := by rw [hLe]; rfl
  have vv13 : vals LL 13 = .agg #[.int .i64 yt, .int .i64 yn] := by rw [hLe]; rfl
  have vv14 : vals LL 14 = .bool r := by rw [hLe]; rfl
  have vv15 : vals LL 15 = .bool r := by rw [hLe]; rfl
  refine region_laid hmix (by kernel_rfl) 61 hsz (by kernel_rfl) LL (by rw [hLe]; rfl) (fun _ W => Below w9.heap.size w9 W) below9 ?_ ?_
  · intro b W i o a hS hcl ho hb hd ev kp yl
    match i with
    | 0 =>
      simp only [List.getElem?_toArray, List.getElem?_cons_zero, Option.some.injEq] at ho
      subst ho
      have e5 : a.tmps[5]?.getD undef = .int .i64 (K : Nat) := (kp 5 (by kernel_rfl)).trans b5
      rw [vv0]
      refine does_value rfl (by intro c h; cases h) (w' := W) ?_ (hS)
      · simp [execOp, go_sem, e5]
    | 1 =>
      simp only [List.getElem?_toArray, List.getElem?_cons_zero, List.getElem?_cons_succ, Option.some.injEq] at ho
      subst ho
      have p0 : b 0 = true := hd ⟨0, .data⟩ (by simp) rfl
      have e24 := (ev 0 24 rfl p0).trans vv0
      rw [vv1]
      refine does_value rfl (by intro c h; cases h) (w' := W) ?_ (hS)
      · simp [execOp, go_sem, e24, hK]
    | 2 =>
      simp only [List.getElem?_toArray, List.getElem?_cons_zero, List.getElem?_cons_succ, Option.some.injEq] at ho
      subst ho
      have p1 : b 1 = true := hd ⟨1, .data⟩ (by simp) rfl
      have e25 := (ev 1 25 rfl p1).trans vv1
      rw [vv2]
      refine does_value rfl (by intro c h; cases h) (w' := W) ?_ (hS)
      · simp [execOp, go_sem, e25]
    | 3 =>
      simp only [List.getElem?_toArray, List.getElem?_cons_zero, List.getElem?_cons_succ, Option.some.injEq] at ho
      subst ho
      have p2 : b 2 = true := hd ⟨2, .guard⟩ (by simp) rfl
      have e3 : a.tmps[3]?.getD undef = .slice (some ⟨gl, 0, none⟩) m cl := (kp 3 (by kernel_rfl)).trans b3
      rw [vv3]
      refine does_value_g rfl (yl 2 26 true rfl p2 vv2) (by intro c h; cases h) (w' := W) ?_ (hS)
      · simp [execOp, go_sem, e3]
    | 4 =>
      simp only [List.getElem?_toArray, List.getElem?_cons_zero, List.getElem?_cons_succ, Option.some.injEq] at ho
      subst ho
      have p2 : b 2 = true := hd ⟨2, .guard⟩ (by simp) rfl
      have e5 : a.tmps[5]?.getD undef = .int .i64 (K : Nat) := (kp 5 (by kernel_rfl)).trans b5
      rw [vv4]
      refine does_value_g rfl (yl 2 26 true rfl p2 vv2) (by intro c h; cases h) (w' := W) ?_ (hS)
      · simp [execOp, go_sem, e5]
    | 5 =>
      simp only [List.getElem?_toArray, List.getElem?_cons_zero, List.getElem?_cons_succ, Option.some.injEq] at ho
      subst ho
      have p3 : b 3 = true := hd ⟨3, .data⟩ (by simp) rfl
      have p4 : b 4 = true := hd ⟨4, .data⟩ (by simp) rfl
      have p2 : b 2 = true := hd ⟨2, .guard⟩ (by simp) rfl
      have e27 := (ev 3 27 rfl p3).trans vv3
      have e28 := (ev 4 28 rfl p4).trans vv4
      rw [vv5]
      refine does_value_g rfl (yl 2 26 true rfl p2 vv2) (by intro c h; cases h) (w' := W) ?_ (hS)
      · simp [execOp, go_sem, e27, e28, hKm]
    | 6 =>
      simp only [List.getElem?_toArray, List.getElem?_cons_zero, List.getElem?_cons_succ, Option.some.injEq] at ho
      subst ho
      have p5 : b 5 = true := hd ⟨5, .data⟩ (by simp) rfl
      have p2 : b 2 = true := hd ⟨2, .guard⟩ (by simp) rfl
      have e29 := (ev 5 29 rfl p5).trans vv5
      rw [vv6]
      refine does_value_g rfl (yl 2 26 true rfl p2 vv2) (by intro c h; cases h) (w' := W) ?_ (hS)
      · simp [execOp, go_sem, e29]
    | 7 =>
      simp only [List.getElem?_toArray, List.getElem?_cons_zero, List.getElem?_cons_succ, Option.some.injEq] at ho
      subst ho
      have p6 : b 6 = true := hd ⟨6, .data⟩ (by simp) rfl
      have p2 : b 2 = true := hd ⟨2, .guard⟩ (by simp) rfl
      have e30 := (ev 6 30 rfl p6).trans vv6
      have d9_0 := (hS.cell (p := ⟨gl, K * 11, none⟩) (cell_lt hx0)).trans hx0
      have d9_1 := (hS.cell (p := ⟨gl, K * 11 + 1, none⟩) (cell_lt hx1)).trans hx1
      rw [vv7]
      refine does_value_g rfl (yl 2 26 true rfl p2 vv2) (by intro c h; cases h) (w' := W) ?_ (hS)
      · simp [execOp, go_sem, e30, d9_0, d9_1]
    | 8 =>
      simp only [List.getElem?_toArray, List.getElem?_cons_zero, List.getElem?_cons_succ, Option.some.injEq] at ho
      subst ho
      have p2 : b 2 = true := hd ⟨2, .guard⟩ (by simp) rfl
      have e3 : a.tmps[3]?.getD undef = .slice (some ⟨gl, 0, none⟩) m cl := (kp 3 (by kernel_rfl)).trans b3
      rw [vv8]
      refine does_value_g rfl (yl 2 26 true rfl p2 vv2) (by intro c h; cases h) (w' := W) ?_ (hS)
      · simp [execOp, go_sem, e3]
    | 9 =>
      simp only [List.getElem?_toArray, List.getElem?_cons_zero, List.getElem?_cons_succ, Option.some.injEq] at ho
      subst ho
      have p2 : b 2 = true := hd ⟨2, .guard⟩ (by simp) rfl
      have e5 : a.tmps[5]?.getD undef = .int .i64 (K : Nat) := (kp 5 (by kernel_rfl)).trans b5
      rw [vv9]
      refine does_value_g rfl (yl 2 26 true rfl p2 vv2) (by intro c h; cases h) (w' := W) ?_ (hS)
      · simp [execOp, go_sem, e5]
    | 10 =>
      simp only [List.getElem?_toArray, List.getElem?_cons_zero, List.getElem?_cons_succ, Option.some.injEq] at ho
      subst ho
      have p9 : b 9 = true := hd ⟨9, .data⟩ (by simp) rfl
      have p2 : b 2 = true := hd ⟨2, .guard⟩ (by simp) rfl
      have e33 := (ev 9 33 rfl p9).trans vv9
      rw [vv10]
      refine does_value_g rfl (yl 2 26 true rfl p2 vv2) (by intro c h; cases h) (w' := W) ?_ (hS)
      · simp [execOp, go_sem, e33, hsub, hwr]
    | 11 =>
      simp only [List.getElem?_toArray, List.getElem?_cons_zero, List.getElem?_cons_succ, Option.some.injEq] at ho
      subst ho
      have p8 : b 8 = true := hd ⟨8, .data⟩ (by simp) rfl
      have p10 : b 10 = true := hd ⟨10, .data⟩ (by simp) rfl
      have p2 : b 2 = true := hd ⟨2, .guard⟩ (by simp) rfl
      have e32 := (ev 8 32 rfl p8).trans vv8
      have e34 := (ev 10 34 rfl p10).trans vv10
      rw [vv11]
      refine does_value_g rfl (yl 2 26 true rfl p2 vv2) (by intro c h; cases h) (w' := W) ?_ (hS)
      · simp [execOp, go_sem, e32, e34, hkm]
    | 12 =>
      simp only [List.getElem?_toArray, List.getElem?_cons_zero, List.getElem?_cons_succ, Option.some.injEq] at ho
      subst ho
      have p11 : b 11 = true := hd ⟨11, .data⟩ (by simp) rfl
      have p2 : b 2 = true := hd ⟨2, .guard⟩ (by simp) rfl
      have e35 := (ev 11 35 rfl p11).trans vv11
      rw [vv12]
      refine does_value_g rfl (yl 2 26 true rfl p2 vv2) (by intro c h; cases h) (w' := W) ?_ (hS)
      · simp [execOp, go_sem, e35]
    | 13 =>
      simp only [List.getElem?_toArray, List.getElem?_cons_zero, List.getElem?_cons_succ, Option.some.injEq] at ho
      subst ho
      have p12 : b 12 = true := hd ⟨12, .data⟩ (by simp) rfl
      have p2 : b 2 = true := hd ⟨2, .guard⟩ (by simp) rfl
      have e36 := (ev 12 36 rfl p12).trans vv12
      have d9_0 := (hS.cell (p := ⟨gl, kk * 11, none⟩) (cell_lt hy0)).trans hy0
      have d9_1 := (hS.cell (p := ⟨gl, kk * 11 + 1, none⟩) (cell_lt hy1)).trans hy1
      rw [vv13]
      refine does_value_g rfl (yl 2 26 true rfl p2 vv2) (by intro c h; cases h) (w' := W) ?_ (hS)
      · simp [execOp, go_sem, e36, d9_0, d9_1]
    | 14 =>
      simp only [List.getElem?_toArray, List.getElem?_cons_zero, List.getElem?_cons_succ, Option.some.injEq] at ho
      subst ho
      have p7 : b 7 = true := hd ⟨7, .data⟩ (by simp) rfl
      have p13 : b 13 = true := hd ⟨13, .data⟩ (by simp) rfl
      have p2 : b 2 = true := hd ⟨2, .guard⟩ (by simp) rfl
      have e31 := (ev 7 31 rfl p7).trans vv7
      have e37 := (ev 13 37 rfl p13).trans vv13
      rw [vv14]
      refine does_call_g rfl (yl 2 26 true rfl p2 vv2) (by intro c h; cases h) (f := 10) (args := #[.agg #[.int .i64 xt, .int .i64 xn], .agg #[.int .i64 yt, .int .i64 yn]]) ?_ ?_
      · simp [go_sem, e31, e37]
      · exact (cK W hS).mono (fun e w' h => ⟨h.1, hS.trans (h.2.mono hS.size)⟩)
    | 15 =>
      simp only [List.getElem?_toArray, List.getElem?_cons_zero, List.getElem?_cons_succ, Option.some.injEq] at ho
      subst ho
      have p2 : b 2 = true := hd ⟨2, .data⟩ (by simp) rfl
      have p14 : b 14 = true := hd ⟨14, .data⟩ (by simp) rfl
      have e26 := (ev 2 26 rfl p2).trans vv2
      have e38 := (ev 14 38 rfl p14).trans vv14
      rw [vv15]
      refine does_value rfl (by intro c h; cases h) (w' := W) ?_ (hS)
      · simp [execOp, go_sem, e26, e38]
    | k + 16 => simp at ho
  · intro b' W hS _
    subst hLe
    exact hQ W hS

set_option maxRecDepth 8000 in
set_option maxHeartbeats 4000000 in
theorem rsorted_any (base : Nat) (v : Value) (l : List OT) (w : World) (h : RowO w base v l) (hr : RngL l) (hl : l.length ≤ 1000) :
    Calls Try.prog 8 #[v] w fun e w' => ∃ v' m, e = .returned v' ∧ RowO w' w.heap.size v' m ∧ IsSorted l m ∧ Below w.heap.size w w' := by
  obtain ⟨p, c, rfl⟩ := h.slice
  have H0 : Hid (RowO w base (.slice p l.length c) l ∧ RngL l) := ⟨h, hr⟩
  have HS : Hid (DocI w w l 0 (.slice none 0 0) []) := ⟨RowO.nil _ _, by simp [enumO], List.Pairwise.nil, Below.refl _ _⟩
  clear h hr
  go_enter Try.func8, Try.ntmps8
  go_wp2_with fail
  go_loopw [3, 4] (fun vl vi wr => ∃ (i : Nat) (p' : Option Addr) (c' : Nat) (T : List QE), vl = .slice p' i c' ∧ vi = .int .i64 i ∧ i ≤ l.length ∧ Hid (DocI w wr l i (.slice p' i c') T)) (fun _ vi _ => l.length - (intOf vi).toNat)
  case atStart => exact ⟨0, none, 0, [], rfl, rfl, Nat.zero_le _, HS⟩
  case round =>
    clear HS
    obtain ⟨i, p', c', T, rfl, rfl, hi, HI⟩ := hrel
    by_cases hil : i = l.length
    · subst hil
      go_wp2_with fail
      go_ret
      refine ⟨_, T.map strip, rfl, HI.out.row, ⟨T, rfl, ?_, HI.out.rise⟩, HI.out.bel⟩
      have := HI.out.perm
      rwa [List.take_length] at this
    · have hlt : i < l.length := by omega
      have hlI : (i : Int) < (l.length : Int) := by omega
      obtain ⟨x, hx⟩ : ∃ x, l[i]? = some x := ⟨_, List.getElem?_eq_getElem hlt⟩
      have hW := H0.out.1.below HI.out.bel
      obtain ⟨g, cap, cur, ev, _⟩ := hW.form (by omega)
      cases ev
      obtain ⟨x0, x1, x2, x3, x4, x5, x6, x7, x8, x9, x10⟩ := hW.cells hx
      have HA : Hid (∀ o, RowO (wr.alloc o) w.heap.size (.slice p' i c') (T.map strip)) := fun o => HI.out.row.below (below_new wr o).out
      have hTl := HI.out.len hi
      have HT : Hid (T.length = i ∧ (T.map strip).length = i) := ⟨hTl, by rw [List.length_map, hTl]⟩
      have hsz : w.heap.size ≤ wr.heap.size := HI.out.bel.size
      clear hW
      go_wp2_with (refine wpList_appOp rfl _ _ rfl w.heap.size (.slice p' i c') (T.map strip) x rfl wr.heap.size rfl ⟨HA.out _, heap_alloc_new wr _, by rw [HT.out.2]; omega, by simp; omega⟩ ?_; intro p2 c2 w2 H2; refine Stop.out ?_)
      refine Stop.mk ?_
      obtain ⟨xe, hxe⟩ : ∃ xe : QE, xe = ⟨x.t, x.n, x.k, i⟩ := ⟨_, rfl⟩
      have HK : ∃ g2, p2 = some ⟨g2, 0, none⟩ ∧ Hid (DocK w w2 T xe i i g2 c2) := by
        obtain ⟨k1, k2, _⟩ := H2.out
        rw [HT.out.2] at k1
        obtain ⟨g2, cap2, cur2, e2, _⟩ := k1.form (by simp)
        have e3 : p2 = some ⟨g2, 0, none⟩ := by injection e2
        subst e3
        refine ⟨g2, rfl, ?_, ?_, grown_below (HI.out.bel.trans ((below_new wr _).out.mono hsz)) (by simp; omega) (HA.out _) k2⟩
        · have : (insT T i xe).map strip = T.map strip ++ [x] := by
            unfold insT
            rw [List.take_of_length_le (by rw [HT.out.1]; exact Nat.le_refl _), List.drop_of_length_le (by rw [HT.out.1]; exact Nat.le_refl _), List.map_append, hxe]
            rfl
          rw [this]
          exact k1
        · intro a ha
          rw [List.drop_of_length_le (by rw [HT.out.1]; exact Nat.le_refl _)] at ha
          cases ha
      obtain ⟨g2, rfl, HK⟩ := HK
      have HX : Hid (xe = ⟨x.t, x.n, x.k, i⟩ ∧ l[i]? = some x) := ⟨hxe, hx⟩
      have eI : ((i + 1 : Nat) : Int) - 1 = (i : Int) := by omega
      have hi1000 : i < 1000 := by omega
      clear H2 hxe hx x0 x1 x2 x3 x4 x5 x6 x7 x8 x9 x10 HA hsz
      go_wp2_with fail
      go_loopw [5] (fun vk wr2 => ∃ k : Nat, vk = .int .i64 k ∧ k ≤ i ∧ Hid (DocK w wr2 T xe k i g2 c2)) (fun vk _ => (intOf vk).toNat)
      case atStart => exact ⟨i, rfl, Nat.le_refl _, HK⟩
      case round =>
        clear HK
        obtain ⟨k, rfl, hk, HK⟩ := hrel
        by_cases h0 : k = 0
        · subst h0
          go_wp2_with fail
          refine rs_reg7_no (by kernel_rfl) _ rfl rfl ?_
          intro W hS
          have HW : Hid (Below wr.heap.size wr W) := hS
          clear hS
          simp only [putAll, List.setIfInBounds_toArray, List.set_cons_zero, List.set_cons_succ]
          go_wp2_with fail
          go_roundw
          case rel => exact ⟨i + 1, _, _, insT T 0 xe, rfl, rfl, by omega, (HK.out.below HW.out).done HI.out.perm HI.out.rise HX.out.1 HX.out.2 H0.out.2 hl (.inl rfl)⟩
          case measure => simp [intOf]; omega
        · obtain ⟨kk, rfl⟩ : ∃ kk, k = kk + 1 := ⟨k - 1, by omega⟩
          obtain ⟨b, hb⟩ : ∃ b, T[kk]? = some b := ⟨_, List.getElem?_eq_getElem (by have := HT.out.1; omega)⟩
          have hkT : kk < T.length := by have := HT.out.1; omega
          have e1 : ((insT T (kk + 1) xe).map strip)[kk + 1]? = some (strip xe) := by
            unfold insT
            rw [List.getElem?_map, List.getElem?_append_right (by rw [List.length_take]; omega), List.length_take, show kk + 1 - min (kk + 1) T.length = 0 by omega]
            rfl
          have e2 : ((insT T (kk + 1) xe).map strip)[kk]? = some (strip b) := by
            unfold insT
            rw [List.getElem?_map, List.getElem?_append_left (by rw [List.length_take]; omega), List.getElem?_take, if_pos (by omega), hb]
            rfl
          have HX2 : Hid (T[kk]? = some b ∧ kk < T.length ∧ ((insT T (kk + 1) xe).map strip)[kk + 1]? = some (strip xe) ∧ ((insT T (kk + 1) xe).map strip)[kk]? = some (strip b)) := ⟨hb, hkT, e1, e2⟩
          obtain ⟨x0, x1, x2, x3, x4, x5, x6, x7, x8, x9, x10⟩ := HK.out.row.cells e1
          obtain ⟨y0, y1, y2, y3, y4, y5, y6, y7, y8, y9, y10⟩ := HK.out.row.cells e2
          have HXY : Hid (wr.cell? ⟨g2, (kk + 1) * 11, none⟩ = some (.int .i64 xe.t) ∧ wr.cell? ⟨g2, (kk + 1) * 11 + 1, none⟩ = some (.int .i64 xe.n) ∧ wr.cell? ⟨g2, kk * 11, none⟩ = some (.int .i64 b.t) ∧ wr.cell? ⟨g2, kk * 11 + 1, none⟩ = some (.int .i64 b.n)) := ⟨x0, x1, y0, y1⟩
          clear hb hkT e1 e2 x0 x1 x2 x3 x4 x5 x6 x7 x8 x9 x10 y0 y1 y2 y3 y4 y5 y6 y7 y8 y9 y10
          obtain ⟨K, hK⟩ : ∃ K, K = kk + 1 := ⟨_, rfl⟩
          rw [← hK] at HXY hk HK HX2 ⊢
          have HKk : Hid (K = kk + 1) := hK
          have hK0 : 0 < K := by omega
          have hKm : K < i + 1 := by omega
          have hkm : kk < i + 1 := by omega
          have hsub : (K : Int) - 1 = (kk : Nat) := by omega
          clear hK
          go_wp2_with fail
          refine rs_reg7 (by kernel_rfl) g2 (i + 1) c2 K kk xe.t xe.n b.t b.n (lessB xe.t xe.n b.t b.n) _ rfl rfl rfl hK0 hKm hkm hsub (by rw [IntKind.wrap_i64]; omega) HXY.out.1 HXY.out.2.1 HXY.out.2.2.1 HXY.out.2.2.2 (fun W _ => rless_any _ _ _ _ W) ?_
          intro W hS
          have HW : Hid (Below wr.heap.size wr W) := hS
          clear hS
          simp only [putAll, List.setIfInBounds_toArray, List.set_cons_zero, List.set_cons_succ]
          cases hle : lessB xe.t xe.n b.t b.n
          · go_wp2_with fail
            go_roundw
            case rel => exact ⟨i + 1, _, _, insT T K xe, rfl, rfl, by omega, (HK.out.below HW.out).done HI.out.perm HI.out.rise HX.out.1 HX.out.2 H0.out.2 hl (.inr ⟨b, by rw [HKk.out]; exact HX2.out.1, hle⟩)⟩
            case measure => simp [intOf]; omega
          · have HLE : Hid (lessB xe.t xe.n b.t b.n = true) := hle
            have hWr := HK.out.row.below HW.out
            obtain ⟨x0, x1, x2, x3, x4, x5, x6, x7, x8, x9, x10⟩ := hWr.cells HX2.out.2.2.1
            obtain ⟨y0, y1, y2, y3, y4, y5, y6, y7, y8, y9, y10⟩ := hWr.cells HX2.out.2.2.2
            have lg : g2 < W.heap.size := by obtain ⟨cur, hcur, _⟩ := hWr.cur; exact block_lt hcur
            have n1 : ¬ g2 = W.heap.size := by omega
            have n2 : ¬ g2 = W.heap.size + 1 := by omega
            have n3 : ¬ W.heap.size = g2 := by omega
            have n4 : ¬ W.heap.size + 1 = g2 := by omega
            clear hle hWr
            go_wp2_with fail
            go_region
            · generalize hW2 : ((W.alloc (.cells #[.int .i64 (strip b).t, .int .i64 (strip b).n, .int .i64 0, .int .i64 (strip b).k, .int .i64 0, .int .i64 0, .int .i64 0, .int .i64 0, .string ⟨#[]⟩, .slice none 0 0, .slice none 0 0] 33)).alloc (.cells #[.int .i64 (strip xe).t, .int .i64 (strip xe).n, .int .i64 0, .int .i64 (strip xe).k, .int .i64 0, .int .i64 0, .int .i64 0, .int .i64 0, .string ⟨#[]⟩, .slice none 0 0, .slice none 0 0] 33)).drew = W2
              have hA : W2.heap[W.heap.size]? = some (.cells (opC (strip b).t (strip b).n (strip b).k) 33 (0, 0)) := by rw [← hW2]; exact heap_alloc2_old W _ _
              have hB : W2.heap[W.heap.size + 1]? = some (.cells (opC (strip xe).t (strip xe).n (strip xe).k) 33 (0, 0)) := by rw [← hW2]; exact heap_alloc2_new W _ _
              have hB2 : Below W.heap.size W W2 := by
                rw [← hW2]
                have := (below_two W (.cells #[.int .i64 (strip b).t, .int .i64 (strip b).n, .int .i64 0, .int .i64 (strip b).k, .int .i64 0, .int .i64 0, .int .i64 0, .int .i64 0, .string ⟨#[]⟩, .slice none 0 0, .slice none 0 0] 33) (.cells #[.int .i64 (strip xe).t, .int .i64 (strip xe).n, .int .i64 0, .int .i64 (strip xe).k, .int .i64 0, .int .i64 0, .int .i64 0, .int .i64 0, .string ⟨#[]⟩, .slice none 0 0, .slice none 0 0] 33)).out
                exact ⟨this.os, this.tape, this.output, this.size, this.block⟩
              have HR2 : Hid (RowO W2 w.heap.size (.slice (some ⟨g2, 0, none⟩) (i + 1) c2) ((insT T K xe).map strip) ∧ kk < ((insT T K xe).map strip).length) := ⟨(HK.out.row.below HW.out).below hB2, (List.getElem?_eq_some_iff.1 HX2.out.2.2.2).1⟩
              have HKl : Hid (K < ((insT T K xe).map strip).length) := (List.getElem?_eq_some_iff.1 HX2.out.2.2.1).1
              obtain ⟨z0, z1, z2, z3, z4, z5, z6, z7, z8, z9, z10⟩ := op_cells hB
              have H2 : Hid (Below W.heap.size W W2 ∧ W2.heap[W.heap.size]? = some (.cells (opC (strip b).t (strip b).n (strip b).k) 33 (0, 0))) := ⟨hB2, hA⟩
              clear hW2 hA hB hB2 x0 x1 x2 x3 x4 x5 x6 x7 x8 x9 x10 y0 y1 y2 y3 y4 y5 y6 y7 y8 y9 y10
              go_wp2_with (refine wpList_setOp rfl _ _ rfl w.heap.size g2 (i + 1) c2 kk ((insT T K xe).map strip) (strip xe) rfl rfl HR2 ?_; intro W3 H3; refine Stop.out ?_)
              refine Stop.mk ?_
              have hA3 := (H3.out.2.1.block _ (block_lt H2.out.2) (by omega)).trans H2.out.2
              obtain ⟨v0, v1, v2, v3, v4, v5, v6, v7, v8, v9, v10⟩ := op_cells hA3
              have HR3 : Hid (RowO W3 w.heap.size (.slice (some ⟨g2, 0, none⟩) (i + 1) c2) (((insT T K xe).map strip).set kk (strip xe)) ∧ K < (((insT T K xe).map strip).set kk (strip xe)).length) := ⟨H3.out.1, by rw [List.length_set]; exact HKl.out⟩
              clear hA3 z0 z1 z2 z3 z4 z5 z6 z7 z8 z9 z10
              go_wp2_with (refine wpList_setOp rfl _ _ rfl w.heap.size g2 (i + 1) c2 K (((insT T K xe).map strip).set kk (strip xe)) (strip b) rfl rfl HR3 ?_; intro W4 H4; refine Stop.out ?_)
              refine Stop.mk ?_
              clear v0 v1 v2 v3 v4 v5 v6 v7 v8 v9 v10
              go_wp2_with fail
              go_roundw
              case rel =>
                refine ⟨kk, rfl, by omega, ?_⟩
                obtain ⟨k1, k2, k3⟩ := H4.out
                have hD := HK.out.below HW.out
                have e := HKk.out
                subst e
                exact hD.swap HX2.out.1 HLE.out H2.out.1 H3.out.2.1 k2 k1
              case measure => simp [intOf]; omega
            · generalize hW2 : ((W.alloc (.cells #[.int .i64 (strip xe).t, .int .i64 (strip xe).n, .int .i64 0, .int .i64 (strip xe).k, .int .i64 0, .int .i64 0, .int .i64 0, .int .i64 0, .string ⟨#[]⟩, .slice none 0 0, .slice none 0 0] 33)).alloc (.cells #[.int .i64 (strip b).t, .int .i64 (strip b).n, .int .i64 0, .int .i64 (strip b).k, .int .i64 0, .int .i64 0, .int .i64 0, .int .i64 0, .string ⟨#[]⟩, .slice none 0 0, .slice none 0 0] 33)).drew = W2
              have hA : W2.heap[W.heap.size + 1]? = some (.cells (opC (strip b).t (strip b).n (strip b).k) 33 (0, 0)) := by rw [← hW2]; exact heap_alloc2_new W _ _
              have hB : W2.heap[W.heap.size]? = some (.cells (opC (strip xe).t (strip xe).n (strip xe).k) 33 (0, 0)) := by rw [← hW2]; exact heap_alloc2_old W _ _
              have hB2 : Below W.heap.size W W2 := by
                rw [← hW2]
                have := (below_two W (.cells #[.int .i64 (strip xe).t, .int .i64 (strip xe).n, .int .i64 0, .int .i64 (strip xe).k, .int .i64 0, .int .i64 0, .int .i64 0, .int .i64 0, .string ⟨#[]⟩, .slice none 0 0, .slice none 0 0] 33) (.cells #[.int .i64 (strip b).t, .int .i64 (strip b).n, .int .i64 0, .int .i64 (strip b).k, .int .i64 0, .int .i64 0, .int .i64 0, .int .i64 0, .string ⟨#[]⟩, .slice none 0 0, .slice none 0 0] 33)).out
                exact ⟨this.os, this.tape, this.output, this.size, this.block⟩
              have HR2 : Hid (RowO W2 w.heap.size (.slice (some ⟨g2, 0, none⟩) (i + 1) c2) ((insT T K xe).map strip) ∧ kk < ((insT T K xe).map strip).length) := ⟨(HK.out.row.below HW.out).below hB2, (List.getElem?_eq_some_iff.1 HX2.out.2.2.2).1⟩
              have HKl : Hid (K < ((insT T K xe).map strip).length) := (List.getElem?_eq_some_iff.1 HX2.out.2.2.1).1
              obtain ⟨z0, z1, z2, z3, z4, z5, z6, z7, z8, z9, z10⟩ := op_cells hB
              have H2 : Hid (Below W.heap.size W W2 ∧ W2.heap[W.heap.size + 1]? = some (.cells (opC (strip b).t (strip b).n (strip b).k) 33 (0, 0))) := ⟨hB2, hA⟩
              clear hW2 hA hB hB2 x0 x1 x2 x3 x4 x5 x6 x7 x8 x9 x10 y0 y1 y2 y3 y4 y5 y6 y7 y8 y9 y10
              go_wp2_with (refine wpList_setOp rfl _ _ rfl w.heap.size g2 (i + 1) c2 kk ((insT T K xe).map strip) (strip xe) rfl rfl HR2 ?_; intro W3 H3; refine Stop.out ?_)
              refine Stop.mk ?_
              have hA3 := (H3.out.2.1.block _ (block_lt H2.out.2) (by omega)).trans H2.out.2
              obtain ⟨v0, v1, v2, v3, v4, v5, v6, v7, v8, v9, v10⟩ := op_cells hA3
              have HR3 : Hid (RowO W3 w.heap.size (.slice (some ⟨g2, 0, none⟩) (i + 1) c2) (((insT T K xe).map strip).set kk (strip xe)) ∧ K < (((insT T K xe).map strip).set kk (strip xe)).length) := ⟨H3.out.1, by rw [List.length_set]; exact HKl.out⟩
              clear hA3 z0 z1 z2 z3 z4 z5 z6 z7 z8 z9 z10
              go_wp2_with (refine wpList_setOp rfl _ _ rfl w.heap.size g2 (i + 1) c2 K (((insT T K xe).map strip).set kk (strip xe)) (strip b) rfl rfl HR3 ?_; intro W4 H4; refine Stop.out ?_)
              refine Stop.mk ?_
              clear v0 v1 v2 v3 v4 v5 v6 v7 v8 v9 v10
              go_wp2_with fail
              go_roundw
              case rel =>
                refine ⟨kk, rfl, by omega, ?_⟩
                obtain ⟨k1, k2, k3⟩ := H4.out
                have hD := HK.out.below HW.out
                have e := HKk.out
                subst e
                exact hD.swap HX2.out.1 HLE.out H2.out.1 H3.out.2.1 k2 k1
              case measure => simp [intOf]; omega
end Go.Proofs.Ytgophojgofmkeaa.Ck
