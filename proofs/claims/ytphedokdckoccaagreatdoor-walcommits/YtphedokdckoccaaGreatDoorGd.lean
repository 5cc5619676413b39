/-
  WalCommits, for all its arguments, whatever the memory and the order that Go leaves open, returns true and leaves its arguments and all memory that was there as it was. The table of package crc starts as the program's text lays it (the card ties it).
-/
import Derived.Test.YtphedokdckoccaaGreatDoorGc
import Derived.Test.YtphedokdckoccaaGreatDoorGa
import Derived.Lib.SlBytesConst
import Derived.Test.YtphedokdckoccaaGreatDoorCopen
import Derived.Deep.Grids
import Derived.SizedLaws

/-
  act of the law's package: a sync.
-/
namespace Go.Proofs.YtphedokdckoccaaGreatDoor
open Go.RowKit Go.Maps Go.Sort Go.Shelf

/-- The volume and its model, behind t commits. -/
structure MS (W : World) (a v n nb mB base B0 t b : Nat) : Prop where
  st : ∃ (s : VS) (p : Option Addr) (c : Nat) (bs : Nat → By), VI W s ∧ Bud s b ∧ s.v = v ∧ s.d.a = a ∧ s.d.n = n ∧ s.commits = t ∧ (∀ i, i < nb → s.cont i = bs i) ∧ ModelAt W base mB t p nb c ∧ RowsAt W p nb bs ∧ (∀ k, (s.mine k ∨ k = mB) → B0 ≤ k)
theorem Bud.more {s : VS} {b : Nat} (h : Bud s b) : Bud s (b + 1) := by
  obtain ⟨z1, z2, z3, z4⟩ := h
  exact ⟨by omega, by omega, by omega, by omega⟩
theorem MS.below {W W' : World} {a v n nb mB base B0 t b : Nat} (h : MS W a v n nb mB base B0 t b) (hB : Below W.heap.size W W') : MS W' a v n nb mB base B0 t b := by
  obtain ⟨s, p, c, bs, h1, h2, h3, h4, h5, h6, h7, h8, h9, h10⟩ := h.st
  exact ⟨s, p, c, bs, h1.below hB, h2, h3, h4, h5, h6, h7, h8.below hB, h9.below hB, h10⟩
theorem MS.more {W : World} {a v n nb mB base B0 t b : Nat} (h : MS W a v n nb mB base B0 t b) : MS W a v n nb mB base B0 t (b + 1) := by
  obtain ⟨s, p, c, bs, h1, h2, h3, h4, h5, h6, h7, h8, h9, h10⟩ := h.st
  exact ⟨s, p, c, bs, h1, h2.more, h3, h4, h5, h6, h7, h8, h9, h10⟩
theorem ModelAt.mark {W : World} {base mB k : Nat} {p : Option Addr} {nb c : Nat} (h : ModelAt W base mB k p nb c) (y : Value) : ModelAt (W.setCell ⟨mB, 1, none⟩ y) base mB k p nb c := by
  obtain ⟨v, y0, cs, h1, h2, h3⟩ := h.at_
  refine ⟨v, y, cs, by simp [World.setCell, Array.getElem?_modify, h1], ⟨h2.1, ?_⟩, h3⟩
  rcases h2.2 with h0 | ⟨g, cap, cur, e, hg, hblk, r⟩
  · exact .inl h0
  · refine .inr ⟨g, cap, cur, e, hg, ?_, r⟩
    have hne : mB ≠ g := by
      rintro rfl
      rw [h1] at hblk
      simp at hblk
    simp [World.setCell, Array.getElem?_modify, hne, hblk]

/-- What a later state of a volume may turn is new, or was its own. -/
theorem Step.lowly {w w' : World} {s s' : VS} (h : Step w w' s s') {B : Nat} (hB : B ≤ w.heap.size) (hs : ∀ k, s.mine k → B ≤ k) : ∀ k, s'.mine k → B ≤ k := by
  rintro k (e | e | e | e | e)
  · exact hs k (.inl (e.trans h.v))
  · rcases h.f with x | x
    · exact hs k (.inr (.inl (e.trans x)))
    · omega
  · exact hs k (.inr (.inr (.inl (e.trans h.near.a))))
  · exact hs k (.inr (.inr (.inr (.inl (e.trans h.near.s)))))
  · rcases h.near.m with x | x
    · exact hs k (.inr (.inr (.inr (.inr (e.trans x)))))
    · omega

set_option maxRecDepth 8000 in
set_option maxHeartbeats 4000000 in
theorem act_sync (q : Option Addr) (l cq : Nat) (a v n nb mB base B0 t b : Nat) (w : World) (h : MS w a v n nb mB base B0 t b) (hb : b ≤ 900) (ht : t ≤ 900) (hB0 : B0 ≤ w.heap.size) :
    Calls Tryz.prog 14 #[dp mB, dp v, .agg #[.bool true, .slice q l cq]] w fun e w' => e = .returned (.bool true) ∧ MS w' a v n nb mB base B0 t (b + 1) ∧ Below B0 w w' := by
  have hBa : Below w.heap.size w (w.alloc (.cells #[.bool true, .slice q l cq] 33)) := below_new' _ _
  obtain ⟨s, p, c, bs, hI, hz, rfl, hsa, hsn, hsc, hcont, hM, hR, hlo⟩ := h.st
  have cS := vSync_any s b _ (hI.below hBa) hz (by omega)
  have HS : Hid (VI w s ∧ s.d.a = a ∧ s.d.n = n ∧ s.commits = t ∧ (∀ i, i < nb → s.cont i = bs i) ∧ ModelAt w base mB t p nb c ∧ RowsAt w p nb bs ∧ (∀ k, (s.mine k ∨ k = mB) → B0 ≤ k)) := ⟨hI, hsa, hsn, hsc, hcont, hM, hR, hlo⟩
  have HB : Hid (Below w.heap.size w (w.alloc (.cells #[.bool true, .slice q l cq] 33))) := hBa
  clear h hI hz hsa hsn hsc hcont hM hR hlo hBa
  go_enter Tryz.func14, Tryz.ntmps14
  go_wp2_with (go_at_call 18; refine cS.mono ?_; rintro e w2 ⟨rfl, s2, hI2, hS2, hz2, hc2, hcont2, hD2⟩; clear cS; refine Stop.out ?_)
  refine Stop.mk ?_
  obtain ⟨hI, hsa, hsn, hsc, hcont, hM, hR, hlo⟩ := HS.out
  have hIa := hI.below HB.out
  have hMe : ModelAt w2 base mB t p nb c := (hM.below HB.out).but hS2.but (fun g cs t' fr hk ht => by rcases ht with rfl | rfl <;> exact hIa.other hk (by decide) (by decide) (by decide))
  have hRe : RowsAt w2 p nb bs := (hR.below HB.out).but hS2.but (fun g cs t' fr hk ht => by rcases ht with rfl | rfl <;> exact hIa.other hk (by decide) (by decide) (by decide))
  obtain ⟨vA, yA, csA, h1A, h2A, h3A⟩ := hMe.at_
  obtain ⟨gA2, cA2, rfl, _, _⟩ := h2A.form (Nat.succ_pos _)
  have m0 := cellOf h1A 0
  have m1 := cellOf h1A 1
  have f1 := frozenOf h1A 1
  simp at m0 m1
  have hb9 : But (fun k => k = mB) w2 (w2.setCell ⟨mB, 1, none⟩ (.int .i64 (t : Nat))) := (But.refl (fun k => k = mB) w2).setCell _ rfl _
  have hIf := hI2.but hb9 (fun k hk e => by subst e; exact hI2.other h1A (by decide) (by decide) (by decide) hk) (fun g cs t' fr hk ht e => by
    subst e
    rw [h1A] at hk
    simp only [Option.some.injEq, Obj.cells.injEq] at hk
    rcases ht with rfl | rfl <;> exact absurd hk.2.1 (by decide))
  have hRf := hRe.but hb9 (fun g cs t' fr hk ht e => by
    subst e
    rw [h1A] at hk
    simp only [Option.some.injEq, Obj.cells.injEq] at hk
    rcases ht with rfl | rfl <;> exact absurd hk.2.1 (by decide))
  have low0 : ∀ k, s.mine k → B0 ≤ k := fun k hk => hlo k (.inl hk)
  have hsz := HB.out.size
  have low2 := hS2.lowly (B := B0) (by omega) low0
  have Bf : Below B0 w (w2.setCell ⟨mB, 1, none⟩ (.int .i64 (t : Nat))) := ((HB.out.mono hB0).trans (hS2.but.below (by omega) low0)).trans (hb9.below (by have := hS2.but.size; omega) (fun k e => by subst e; exact hlo _ (.inr rfl)))
  have HF : Hid (MS (w2.setCell ⟨mB, 1, none⟩ (.int .i64 (t : Nat))) a s.v n nb mB base B0 t (b + 1) ∧ Below B0 w (w2.setCell ⟨mB, 1, none⟩ (.int .i64 (t : Nat)))) := by
    refine ⟨⟨s2, p, c, bs, hIf, hz2, hS2.v, by rw [hS2.near.a]; exact hsa, by rw [hS2.n]; exact hsn, by rw [hc2, hsc], fun i hi => by rw [hcont2]; exact hcont i hi, hMe.mark _, hRf, ?_⟩, Bf⟩
    rintro k (hk | rfl)
    · exact low2 k hk
    · exact hlo _ (.inr rfl)
  clear hI hsa hsn hsc hcont hM hR hlo hIa hMe hRe h2A h3A hb9 hIf hRf low0 low2 Bf hS2 hI2 hz2 hc2 hcont2 hD2 h1A
  go_wp2
  go_ret
  exact ⟨rfl, HF.out⟩

end Go.Proofs.YtphedokdckoccaaGreatDoor

/-
  act of the law's package: a model's blocks are copied, and some are laid anew.
-/
namespace Go.Proofs.YtphedokdckoccaaGreatDoor
open Go.RowKit Go.Maps Go.Sort Go.Shelf

theorem RowsAt.vals {w : World} {p : Option Addr} {nb : Nat} {bs : Nat → By} (h : RowsAt w p nb bs) (hn : 0 < nb) : ∃ g o, ∃ vs : List Value, p = some ⟨g, o, none⟩ ∧ vs.length = nb ∧ (∀ (j : Nat) (u : Value), vs[j]? = some u → w.cell? ⟨g, o + j, none⟩ = some u) ∧ (∀ u ∈ vs, u.oneCell' = true) ∧
    (∀ i, i < nb → ∃ gi oi ci, vs[i]? = some (.slice (some ⟨gi, oi, none⟩) 512 ci) ∧ Bytes w (some ⟨gi, oi, none⟩) (bs i) ∧ (bs i).length = 512 ∧ ∃ cs fr, w.heap[gi]? = some (.cells cs 5 fr)) := by
  obtain ⟨g, o, e, _, hr⟩ := h hn
  have key : ∀ (j : Nat) (u : Value), ((List.range nb).map fun i => (w.cell? ⟨g, o + i, none⟩).getD undef)[j]? = some u → j < nb ∧ u = (w.cell? ⟨g, o + j, none⟩).getD undef := by
    intro j u hj
    rw [List.getElem?_map] at hj
    obtain ⟨k, hk, rfl⟩ := Option.map_eq_some_iff.1 hj
    have hlt := (List.getElem?_eq_some_iff.1 hk).1
    rw [List.length_range] at hlt
    rw [List.getElem?_range hlt] at hk
    cases hk
    exact ⟨hlt, rfl⟩
  refine ⟨g, o, (List.range nb).map fun i => (w.cell? ⟨g, o + i, none⟩).getD undef, e, by simp, fun j u hj => ?_, fun u hu => ?_, fun i hi => ?_⟩
  · obtain ⟨hlt, rfl⟩ := key j u hj
    obtain ⟨gi, oi, ci, hc, _⟩ := hr j hlt
    rw [hc]
    rfl
  · obtain ⟨j, hj⟩ := List.getElem?_of_mem hu
    obtain ⟨hlt, rfl⟩ := key j u hj
    obtain ⟨gi, oi, ci, hc, _⟩ := hr j hlt
    rw [hc]
    rfl
  · obtain ⟨gi, oi, ci, hc, r⟩ := hr i hi
    refine ⟨gi, oi, ci, ?_, r⟩
    rw [List.getElem?_map, List.getElem?_range hi]
    simp [hc]

/-- The copy's block: its rows' bytes lie in the world w3. -/
def XI (w3 wr : World) (gx nb : Nat) (f : Nat → By) : Prop := ∃ cs, wr.heap[gx]? = some (.cells cs 55 (0, 0)) ∧ ∀ j, j < nb → ∃ gi oi ci, cs[j]? = some (.slice (some ⟨gi, oi, none⟩) 512 ci) ∧ Bytes w3 (some ⟨gi, oi, none⟩) (f j) ∧ (f j).length = 512 ∧ ∃ cs' fr, w3.heap[gi]? = some (.cells cs' 5 fr)
theorem XI.of_own {w w3 : World} {base gx nb cx : Nat} {vs : List Value} {bs : Nat → By} (hown : w3.ownsRow base 55 1 (.slice (some ⟨gx, 0, none⟩) nb cx) nb vs) (hB : Below w.heap.size w w3)
    (h : ∀ i, i < nb → ∃ gi oi ci, vs[i]? = some (.slice (some ⟨gi, oi, none⟩) 512 ci) ∧ Bytes w (some ⟨gi, oi, none⟩) (bs i) ∧ (bs i).length = 512 ∧ ∃ cs fr, w.heap[gi]? = some (.cells cs 5 fr)) : XI w3 w3 gx nb bs := by
  rcases hown.2 with ⟨e, _⟩ | ⟨g, cap, cur, e, hg, hblk, hcap, _, hcs, htk⟩
  · cases e
  · cases e
    refine ⟨cur, hblk, fun i hi => ?_⟩
    obtain ⟨gi, oi, ci, hv, hby, hl, cs', fr', hk⟩ := h i hi
    refine ⟨gi, oi, ci, ?_, below_bytes hB hby, hl, cs', fr', below_block hk hB⟩
    have : (cur.toList.take (nb * 1))[i]? = some (.slice (some ⟨gi, oi, none⟩) 512 ci) := by rw [htk]; exact hv
    rw [List.getElem?_take, if_pos (by omega)] at this
    simpa using this
theorem XI.set {w3 wr : World} {gx nb : Nat} {f : Nat → By} (h : XI w3 wr gx nb f) (k : Nat) (hk : k < nb) (ga : Nat) (b' : By) (hby : Bytes w3 (some ⟨ga, 0, none⟩) b') (hl : b'.length = 512) (htag : ∃ cs' fr, w3.heap[ga]? = some (.cells cs' 5 fr)) :
    XI w3 (wr.setCell ⟨gx, k, none⟩ (.slice (some ⟨ga, 0, none⟩) 512 512)) gx nb (fun j => if j = k then b' else f j) := by
  obtain ⟨cs, hb, hr⟩ := h
  refine ⟨cs.setIfInBounds k (.slice (some ⟨ga, 0, none⟩) 512 512), by simp [World.setCell, Array.getElem?_modify, hb], fun j hj => ?_⟩
  obtain ⟨gi, oi, ci, hc, r⟩ := hr j hj
  by_cases e : j = k
  · subst e
    have hlt := (Array.getElem?_eq_some_iff.1 hc).1
    refine ⟨ga, 0, 512, by simp [hlt], ?_, ?_, htag⟩
    · simpa using hby
    · simpa using hl
  · refine ⟨gi, oi, ci, ?_, by simpa [e] using r⟩
    rw [Array.getElem?_setIfInBounds, if_neg (fun x => e x.symm)]
    exact hc
theorem XI.rows {w3 wr : World} {gx nb : Nat} {f : Nat → By} (h : XI w3 wr gx nb f) (hb : But (fun k => k = gx) w3 wr) (ht : ∃ cs, w3.heap[gx]? = some (.cells cs 55 (0, 0))) : RowsAt wr (some ⟨gx, 0, none⟩) nb f := by
  intro _
  obtain ⟨cs, hbk, hr⟩ := h
  obtain ⟨c3, h3⟩ := ht
  refine ⟨gx, 0, rfl, ⟨cs, _, hbk⟩, fun i hi => ?_⟩
  obtain ⟨gi, oi, ci, hc, hby, hl, cs', fr', hgi⟩ := hr i hi
  have hne : gi ≠ gx := by
    rintro rfl
    rw [h3] at hgi
    simp only [Option.some.injEq, Obj.cells.injEq] at hgi
    exact absurd hgi.2.1 (by decide)
  have ki := hb.block gi (Array.getElem?_eq_some_iff.1 hgi).1 hne
  refine ⟨gi, oi, ci, ?_, fun hp => ?_, hl, cs', fr', ki.trans hgi⟩
  · rw [Nat.zero_add, cellOf hbk]
    exact hc
  · obtain ⟨b, o', e', hx⟩ := hby hp
    cases e'
    exact ⟨gi, oi, rfl, fun j x hj => (World.cell?_of_block (w := w3) ki).trans (hx j x hj)⟩

theorem wpList_append_run {W W' : World} {ops : Array Oper} {rest : List Oper} {o : Oper} {a : Act} {Q : Exit → Act → World → Prop} (hgd : o.guard = none) (s x : Operand) (t t' ty : TypeId)
    (ho : o.op = .call { callee := .builtin .append, args := #[s, x], argTypes := #[t, t'] }) (hty : o.type = ty) (v u v' : Value) (hs : a.eval s = v) (hx : a.eval x = u)
    (hr : (Builtin.append_ #[t, t'] ty #[v, u]).run Tryz.prog W = .ok v' W') (h : wpList Tryz.prog ops Q rest (a.put o.dst v') W') : wpList Tryz.prog ops Q (o :: rest) a W := by
  refine wpList_plain hgd fun K hK => ?_
  subst hty
  unfold Oper.wp execOp
  simp only [ho, resolve, invoke, builtin, Sem.run_bind, Sem.run_pure, Result.andThen_ok, List.map_toArray, List.map_cons, List.map_nil, hs, hx, hr]
  exact hK _ _ h

theorem Tryz.infoRowsA : (Tryz.prog.info? 35).map (fun i => (i.zero, i.size, i.bytes)) = some (some (.slice none 0 0), 1, 24) := by kernel_rfl
/-- The blocks behind the first i puts. -/
def laidB (pm : List PutM) (bs : Nat → By) (i : Nat) : Nat → By := fun j => (laidOn (fun _ => none) (recOf (pm.take i)) j).getD (bs j)
theorem laidB_step (pm : List PutM) (bs : Nat → By) (i : Nat) (x : PutM) (hx : pm[i]? = some x) : laidB pm bs (i + 1) = fun j => if j = x.block.toNat then x.bytes else laidB pm bs i j := by
  funext j
  unfold laidB
  rw [laidOn_step _ _ _ _ hx]
  by_cases e : j = x.block.toNat
  · simp [e]
  · simp [e]

end Go.Proofs.YtphedokdckoccaaGreatDoor

/-
  A drawn region whose values show on the way, with the orders of text and compiler that do not bind.
-/
namespace Go.Proofs.YtphedokdckoccaaGreatDoor
open Go.RowKit Go.Maps Go.Sort Go.Shelf

theorem region_fixedb {F : Fence} {n : Nat} {P : Program} {id : Nat} {ops : Array Oper} {Q : Exit → Act → World → Prop} {a0 : Act} {w0 : World} (hm : P.follows .mixedOrders = true)
    (hdep : ∀ (i : Nat) (o : Oper), ops[i]? = some o → ∀ e ∈ o.after, Region.binds .any e = true → e.on < i) (Adm : Array Bool → Act → World → Prop)
    (h0 : Adm (Array.replicate ops.size false) a0 w0.drew)
    (hstep : ∀ listed a w (i : Nat) (o : Oper), listed.size = ops.size → Adm listed a w → ops[i]? = some o → listed.getD i true = false → (∀ e ∈ o.after, Region.binds .any e = true → listed.getD e.on false = true) →
      wpOpIn F n P ops Q i (fun a' w' => Adm (listed.setIfInBounds i true) a' w') a w)
    (hend : ∀ listed a w, listed.size = ops.size → Adm listed a w → (∀ i, i < ops.size → listed.getD i false = true) → Q .normal a w) :
    (Code.region id ops true).wpIn F n P Q a0 w0 := by
  refine wpIn_region_any hm ?_
  have noReady : ∀ listed : Array Bool, listed.size = ops.size → Region.ready .any ops listed = [] → ∀ i, i < ops.size → listed.getD i false = true := by
    intro listed hs hr i
    induction i using Nat.strongRecOn with
    | ind i ih =>
      intro hi
      cases hx : listed.getD i false
      · exfalso
        have hlt : i < listed.size := by omega
        have hx' : listed.getD i true = false := by simp [hlt] at hx ⊢; exact hx
        obtain ⟨o, ho⟩ : ∃ o, ops[i]? = some o := ⟨_, Array.getElem?_eq_getElem hi⟩
        have : i ∈ Region.ready .any ops listed := mem_ready.2 ⟨hx', o, ho, fun e he hbe => by
          have := hdep i o ho e he hbe
          exact ih e.on this (by omega)⟩
        rw [hr] at this
        cases this
      · rfl
  have main : ∀ (fuel : Nat) (listed : Array Bool) (a : Act) (w : World), listed.size = ops.size → toCome ops.size listed = fuel → Adm listed a w → wpAnyIn F n P .any ops Q fuel listed a w := by
    intro fuel
    induction fuel with
    | zero =>
      intro listed a w hs ht hA
      have hall := toCome_zero hs ht
      refine ⟨?_, hend listed a w hs hA hall⟩
      rw [List.eq_nil_iff_forall_not_mem]
      intro i hi
      obtain ⟨h1, o, ho, _⟩ := mem_ready.1 hi
      have hlt := (Array.getElem?_eq_some_iff.1 ho).1
      have h2 := hall i hlt
      have hlt' : i < listed.size := by omega
      simp [hlt'] at h1 h2
      rw [h1] at h2
      cases h2
    | succ fuel ih =>
      intro listed a w hs ht hA
      refine ⟨fun hr => hend listed a w hs hA (noReady listed hs hr), fun i hi => ?_⟩
      obtain ⟨h1, o, ho, hd⟩ := mem_ready.1 hi
      have hlt := (Array.getElem?_eq_some_iff.1 ho).1
      have h2 := toCome_set hlt hs h1
      exact wpOpIn_mono (fun a' w' h => ih _ a' w' (by simpa using hs) (by omega) h) (hstep listed a w i o hs hA ho h1 hd)
  refine main _ _ _ _ (by simp) ?_ h0
  unfold toCome
  rw [List.filter_eq_self.2]
  · simp
  · intro i hi
    have := List.mem_range.1 hi
    simp [this]

/-- Each operation stands behind those that it waits for, whatever else the orders of text and compiler say. -/
def inRowB (ops : Array Oper) : Bool := (List.range ops.size).all fun i => match ops[i]? with | some o => o.after.toList.all fun e => !Region.binds .any e || decide (e.on < i) | none => true
theorem inRowB_spec {ops : Array Oper} (h : inRowB ops = true) : ∀ (i : Nat) (o : Oper), ops[i]? = some o → ∀ e ∈ o.after, Region.binds .any e = true → e.on < i := by
  intro i o ho e he hbe
  have hlt := (Array.getElem?_eq_some_iff.1 ho).1
  have := (List.all_eq_true.1 h) i (List.mem_range.2 hlt)
  rw [ho] at this
  have := (List.all_eq_true.1 this) e (by simpa using he)
  simpa [hbe] using this

theorem region_doneb {F : Fence} {n : Nat} {P : Program} {id : Nat} {ops : Array Oper} {Q : Exit → Act → World → Prop} {a0 : Act} {w0 : World} (hm : P.follows .mixedOrders = true)
    (hdep : inRowB ops = true) (Adm : (Nat → Bool) → Act → World → Prop)
    (h0 : Adm (fun _ => false) a0 w0.drew)
    (hstep : ∀ b a w (i : Nat) (o : Oper), Adm b a w → (∀ (j : Nat) (u : Oper), ops[j]? = some u → b j = true → ∀ e ∈ u.after.toList, Region.binds .any e = true → b e.on = true) → ops[i]? = some o → b i = false →
      (∀ e ∈ o.after.toList, Region.binds .any e = true → b e.on = true) → wpOpIn F n P ops Q i (fun a' w' => Adm (did b i) a' w') a w)
    (hend : ∀ b a w, Adm b a w → (∀ i, i < ops.size → b i = true) → Q .normal a w) :
    (Code.region id ops true).wpIn F n P Q a0 w0 := by
  refine region_fixedb hm (inRowB_spec hdep) (fun ls a w => Adm (fun j => ls.getD j false) a w ∧ ∀ (j : Nat) (u : Oper), ops[j]? = some u → ls.getD j false = true → ∀ e ∈ u.after.toList, Region.binds .any e = true → ls.getD e.on false = true) ?_ ?_ ?_
  · have e : (fun j => (Array.replicate ops.size false).getD j false) = fun _ => false := by
      funext j
      by_cases hj : j < ops.size <;> simp [hj]
    refine ⟨by rw [e]; exact h0, fun j u _ hj => ?_⟩
    have ej : (Array.replicate ops.size false).getD j false = false := congrFun e j
    rw [ej] at hj
    cases hj
  · rintro ls a w i o hs ⟨hA, hcl⟩ ho hl hd
    have hlt := (Array.getElem?_eq_some_iff.1 ho).1
    have hb : ls.getD i false = false := by
      have : i < ls.size := by omega
      simp [this] at hl ⊢; exact hl
    refine wpOpIn_mono (fun a' w' h => ?_) (hstep _ a w i o hA hcl ho hb (fun e he => hd e (by simpa using he)))
    have e : (fun j => (ls.setIfInBounds i true).getD j false) = did (fun j => ls.getD j false) i := by
      funext j
      unfold did
      by_cases hj : j = i
      · subst hj
        have : j < ls.size := by omega
        simp [this]
      · rw [if_neg hj, getD_set_ne false (fun e => hj e.symm)]
    refine ⟨by rw [e]; exact h, fun j u hu hj x hx hbx => ?_⟩
    have ej := congrFun e j
    have ex := congrFun e x.on
    simp only [did] at ej ex
    rw [ej] at hj
    rw [ex]
    by_cases hxi : x.on = i
    · rw [if_pos hxi]
    · rw [if_neg hxi]
      by_cases hji : j = i
      · subst hji
        rw [ho] at hu
        cases hu
        exact hd x (by simpa using hx) hbx
      · rw [if_neg hji] at hj
        exact hcl j u hu hj x hx hbx
  · rintro ls a w hs ⟨hA, _⟩ hall
    exact hend _ a w hA hall

variable {l n : Nat} {P : Program} {ops : Array Oper} {Q : Exit → Act → World → Prop} {i : Nat} {o : Oper} {K : Act → World → Prop} {a : Act} {w w' : World}

theorem region_laidb {P : Program} {id : Nat} {ops : Array Oper} {Q : Exit → Act → World → Prop} {base : Array Value} {d : List Deferred} {w0 : World} (hm : P.follows .mixedOrders = true)
    (hdep : inRowB ops = true) (m : Nat) (hsz : base.size = m) (hap : apartB ops m = true) {G : Type} (g0 : G) (L : G → List (Option Tmp × Value)) (hL : ∀ g, (L g).map (·.1) = ops.toList.map (·.dst)) (St : G → (Nat → Bool) → World → Prop)
    (h0 : St g0 (fun _ => false) w0.drew)
    (hstep : ∀ g b w (i : Nat) (o : Oper) (a : Act), St g b w → (∀ (j : Nat) (u : Oper), ops[j]? = some u → b j = true → ∀ e ∈ u.after.toList, Region.binds .any e = true → b e.on = true) → ops[i]? = some o → b i = false →
      (∀ e ∈ o.after.toList, Region.binds .any e = true → b e.on = true) →
      (∀ j s, slotOf ops j = some s → b j = true → a.tmps[s]?.getD undef = vals (L g) j) → (∀ s, (∀ j, slotOf ops j = some s → b j = false) → a.tmps[s]?.getD undef = base.getD s undef) → (∀ j s x, slotOf ops j = some s → b j = true → vals (L g) j = .bool x → yielded ops a.tmps j = some x) →
      Doesg P ops a w o (fun v w' => ∃ g', (∀ j, b j = true → vals (L g') j = vals (L g) j) ∧ v = vals (L g') i ∧ St g' (did b i) w'))
    (hend : ∀ g b w, St g b w → (∀ i, i < ops.size → b i = true) → Q .normal ⟨putAll base (L g), d⟩ w) :
    (Code.region id ops true).wp P Q ⟨base, d⟩ w0 := by
  subst hsz
  refine (wpIn_wide (n := 6)).1 ?_
  refine region_doneb hm hdep (fun b a w => ∃ g, a = ⟨lay base ops (vals (L g)) b ops.size, d⟩ ∧ St g b w) ⟨g0, ?_, h0⟩ ?_ ?_
  · have : ∀ n, lay base ops (vals (L g0)) (fun _ => false) n = base := by
      intro n
      induction n with
      | zero => rfl
      | succ k ih => unfold lay; split <;> simp [ih]
    rw [this]
  · rintro b a w i o ⟨g, rfl, hS⟩ hcl ho hb hd
    have hlt := (Array.getElem?_eq_some_iff.1 ho).1
    have hput : ∀ v w', (∃ g', (∀ j, b j = true → vals (L g') j = vals (L g) j) ∧ v = vals (L g') i ∧ St g' (did b i) w') → ∃ g', (Act.put ⟨lay base ops (vals (L g)) b ops.size, d⟩ o.dst v) = ⟨lay base ops (vals (L g')) (did b i) ops.size, d⟩ ∧ St g' (did b i) w' := by
      rintro v w' ⟨g', hc, rfl, h⟩
      refine ⟨g', ?_, h⟩
      rw [← lay_congr hc]
      cases hdst : o.dst with
      | none =>
        have hsl : slotOf ops i = none := by unfold slotOf; rw [ho]; exact hdst
        rw [lay_none ops.size hsl]
        rfl
      | some s =>
        have hsl : slotOf ops i = some s := by unfold slotOf; rw [ho]; exact hdst
        obtain ⟨_, h2⟩ := apart_lt hap hsl
        rw [lay_did ops.size hsl hlt h2 hb]
        rfl
    unfold wpOpIn
    rw [ho]
    cases hstep g b w i o _ hS hcl ho hb hd (fun j s h1 h2 => by rw [← Array.getD_eq_getD_getElem?]; exact lay_eval (d := d) rfl hap j s h1 h2) (fun s h => by rw [lay_till h ops.size, Array.getD_eq_getD_getElem?]) (fun j s x h1 h2 h3 => lay_yield rfl hap j s x h1 h2 h3) with
    | value v w' hw hnd hrun hK =>
      simp only [hw, if_true]
      refine ⟨fun _ _ => trivial, ?_⟩
      rw [Oper.semAt_plain _ _ _ hnd, hrun]
      exact hput _ _ hK
    | call f args hw hnd hrun hc =>
      simp only [hw, if_true]
      refine ⟨fun _ _ => trivial, ?_⟩
      rw [Oper.semAt_plain _ _ _ hnd, hrun]
      refine ⟨fun h => by simp [Fence.wide] at h, ?_⟩
      refine callsIn_wide.2 (hc.mono ?_)
      rintro e w'' ⟨v, rfl, hK⟩
      exact hput _ _ hK
    | skip w' hw hnd hrun hK =>
      simp only [hw, if_true]
      refine ⟨fun _ _ => trivial, ?_⟩
      rw [Oper.semAt_plain _ _ _ hnd, hrun]
      exact hput _ _ hK
    | pass hw hK =>
      simp only [hw, Bool.false_eq_true, if_false]
      refine ⟨fun _ _ => trivial, ?_⟩
      exact hput _ _ hK
  · rintro b a w ⟨g, rfl, hS⟩ hall
    have e : lay base ops (vals (L g)) b ops.size = putAll base (L g) := by
      rw [← lay_all (hL g)]
      have : ∀ n, n ≤ ops.size → lay base ops (vals (L g)) b n = lay base ops (vals (L g)) (fun _ => true) n := by
        intro n
        induction n with
        | zero => intro _; rfl
        | succ k ih => intro hk; unfold lay; rw [ih (by omega), hall k (by omega)]
      exact this _ (Nat.le_refl _)
    rw [e]
    exact hend g b w hS hall

end Go.Proofs.YtphedokdckoccaaGreatDoor

/-
  act of the law's package: a commit.
-/
namespace Go.Proofs.YtphedokdckoccaaGreatDoor
open Go.RowKit Go.Maps Go.Sort Go.Shelf

set_option maxRecDepth 8000 in
set_option maxHeartbeats 1000000 in
/-- Commit of puts that may not be, however many. -/
theorem vCommit_refused (q : Option Addr) (pm : List PutM) (c : Nat) (s : VS) (w : World) (h : VI w s) (hps : PutsAt w q pm) (hq : pm.length = 0 → q = none ∧ c = 0) (hl : pm.length ≤ 9223372036854775807) (htk : takesB (nbOf s.d.n) pm = false) :
    Calls Tryz.prog 54 #[dp s.v, .slice q pm.length c] w fun e w' => e = .returned (.int .i64 22) ∧ Below w.heap.size w w' := by
  have c46 := takes_any q pm c s.v s.commits s.turn s.next (some s.f) s.d.count s.d w h.vol h.dev h.n16 hps hq hl
  rw [htk] at c46
  clear h hps
  go_enter Tryz.func54, Tryz.ntmps54
  go_wp2_with (go_at_call 103; refine c46.mono ?_; rintro e w1 ⟨rfl, hB1⟩; clear c46)
  go_ret
  exact ⟨rfl, hB1⟩

/-- The puts, as a list. -/
def pms (ps : List LP) (gs : List Nat) : List PutM := (List.range ps.length).map (pmL ps gs)
theorem pms_length (ps : List LP) (gs : List Nat) : (pms ps gs).length = ps.length := by simp [pms]
theorem pms_get (ps : List LP) (gs : List Nat) (j : Nat) (x : LP) (h : ps[j]? = some x) : (pms ps gs)[j]? = some ⟨x.block, some ⟨gs.getD j 0, 0, none⟩, x.n, x.full⟩ := by
  have hlt := (List.getElem?_eq_some_iff.1 h).1
  unfold pms
  rw [List.getElem?_map, List.getElem?_range hlt]
  simp [pmL, h]
theorem pms_takes (ps : List LP) (gs : List Nat) (nb : Nat) : takesB nb (pms ps gs) = okL ps nb ps.length := by
  unfold takesB okL
  rw [pms_length, List.take_length]
  congr 1
  rw [Bool.eq_iff_iff, List.all_eq_true, List.all_eq_true]
  constructor
  · intro h x hx
    obtain ⟨j, hj⟩ := List.getElem?_of_mem hx
    have := h _ (List.mem_of_getElem? (pms_get ps gs j x hj))
    simpa [goodPut, LP.full_length] using this
  · intro h y hy
    unfold pms at hy
    obtain ⟨j, hj, rfl⟩ := List.mem_map.1 hy
    have hlt := List.mem_range.1 hj
    have e := List.getElem?_eq_getElem hlt
    have := h _ (List.mem_of_getElem? e)
    unfold pmL
    rw [e]
    simpa [goodPut, LP.full_length] using this

theorem PInv.puts_at {w0 W : World} {ps : List LP} {lv : Value} {gs : List Nat} (h : PInv w0 W ps lv gs) (hl : gs.length = ps.length) : ∃ p c, lv = .slice p ps.length c ∧ PutsAt W p (pms ps gs) ∧ (ps.length = 0 → p = none ∧ c = 0) ∧ (0 < ps.length → ∃ g, p = some ⟨g, 0, none⟩ ∧ w0.heap.size ≤ g) := by
  by_cases h0 : gs.length = 0
  · have hp : ps.length = 0 := by omega
    refine ⟨none, 0, by rw [hp]; exact h.zero h0, ⟨fun hx => by rw [pms_length] at hx; omega, fun j x hj => ?_⟩, fun _ => ⟨rfl, rfl⟩, fun hx => by omega⟩
    have := (List.getElem?_eq_some_iff.1 hj).1
    rw [pms_length] at this
    omega
  · have key : ∀ k, k < gs.length → (pmL ps gs k).bytes.length ≤ (pmL ps gs k).cap ∧ Bytes W (pmL ps gs k).at_ (pmL ps gs k).bytes ∧ ∀ b o, (pmL ps gs k).at_ = some ⟨b, o, none⟩ → ∃ cs fr, W.heap[b]? = some (.cells cs 5 fr) := by
      intro k hk
      have e := List.getElem?_eq_getElem (show k < ps.length by omega)
      have hb := h.blk k _ hk e
      unfold pmL
      rw [e]
      refine ⟨by rw [LP.full_length]; exact Nat.le_refl _, bytes_block hb, fun b o eq => ?_⟩
      have e' : gs.getD k 0 = b := congrArg Addr.block (Option.some.inj eq)
      rw [← e']
      exact ⟨_, _, hb⟩
    obtain ⟨p, c, rfl, hp⟩ := puts_of_own h.puts (by omega) key
    rw [hl] at hp
    refine ⟨p, c, by rw [hl], hp, fun hx => by omega, fun _ => ?_⟩
    rcases h.puts.2 with ⟨e, hx⟩ | ⟨g, cap, cur, e, hg, _⟩
    · omega
    · cases e
      exact ⟨g, rfl, hg⟩

theorem PInv.drewN {w0 W : World} {ps : List LP} {lv : Value} {gs : List Nat} {j : Nat} (h : PInv (w0.drewN j) W ps lv gs) : PInv w0 W ps lv gs :=
  ⟨h.puts, h.blk, ⟨h.below.os, h.below.tape, h.below.output, h.below.size, h.below.block⟩, h.zero⟩
theorem drewN_two (w : World) (i j : Nat) : (w.drewN i).drewN j = w.drewN (i + j) := by
  unfold World.drewN
  simp [Nat.add_assoc]
theorem drew_succ {w0 W : World} (h : ∃ j, W = w0.drewN j) : ∃ j, W.drew = w0.drewN j := by
  obtain ⟨j, rfl⟩ := h
  exact ⟨j + 1, rfl⟩

def actL (q : Option Addr) (l cq s mB : Nat) (p : Option Addr) (nb c : Nat) (ok : Bool) (g : Value) : List (Option Tmp × Value) := [(some 35, .pointer (some ⟨s, 1, none⟩)), (some 36, .slice q l cq), (some 37, dp mB), (some 38, .slice p nb c), (some 39, .int .i64 (nb : Nat)), (some 40, .tuple #[g, .bool (ok)]), (some 34, .tuple #[g, .bool (ok)]), (some 41, g), (some 42, .bool (ok)), (some 8, g), (some 9, .bool (ok))]
def mvL (gx nb cx gq l cc i k ga : Nat) (_ : Unit) : List (Option Tmp × Value) := [(some 70, .slice (some ⟨gx, 0, none⟩) nb cx), (some 71, .slice (some ⟨gq, 0, none⟩) l cc), (some 72, .int .i64 (i : Nat)), (some 73, .pointer (some ⟨gq, i * 2, none⟩)), (some 74, .pointer (some ⟨gq, i * 2, none⟩)), (some 75, .int .i64 (k : Nat)), (some 76, .slice (some ⟨gq, 0, none⟩) l cc), (some 77, .int .i64 (i : Nat)), (some 78, .pointer (some ⟨gq, i * 2, none⟩)), (some 79, .pointer (some ⟨gq, i * 2 + 1, none⟩)), (some 80, .slice (some ⟨ga, 0, none⟩) 512 512), (some 81, .pointer (some ⟨gx, k, none⟩)), (none, undef)]
theorem cell_box (w : World) (x y : Value) (t : TypeId) : (w.alloc (.cells #[x, y] t)).cell? ⟨w.heap.size, 1, none⟩ = some y := by
  simp

set_option maxRecDepth 8000 in
set_option maxHeartbeats 4000000 in
theorem act_commit (q : Option Addr) (cq : Nat) (ps : List LP) (a v n nb mB base B0 t b : Nat) (w : World) (h : MS w a v n nb mB base B0 t b) (hps : LPutsAt w q ps) (hpl : ps.length ≤ 3518437208883) (hnb : nb = nbOf n) (htab : Tab w) (hb : b ≤ 900) (ht : t ≤ 900) (hB0 : B0 ≤ base) (hbs : base ≤ w.heap.size) :
    Calls Tryz.prog 14 #[dp mB, dp v, .agg #[.bool false, .slice q ps.length cq]] w fun e w' => e = .returned (.bool true) ∧ (∃ t', t' ≤ t + 1 ∧ MS w' a v n nb mB base B0 t' (b + 1)) ∧ Below B0 w w' := by
  have hmix : Tryz.prog.follows .mixedOrders = true := by kernel_rfl
  obtain ⟨w1, hw1⟩ : ∃ w1, w1 = w.alloc (.cells #[.bool false, .slice q ps.length cq] 33) := ⟨_, rfl⟩
  have hB1 : Below w.heap.size w w1 := by rw [hw1]; exact below_new' _ _
  have cBox : w1.cell? ⟨w.heap.size, 1, none⟩ = some (.slice q ps.length cq) := by rw [hw1]; exact cell_box _ _ _ _
  obtain ⟨s, p, c, bs, hI, hz, hsv, hsa, hsn, hsc, hcont, hM, hR, hlo⟩ := h.st
  have hnbp : 0 < nb := by rw [hnb, ← hsn]; unfold nbOf; have := hI.n16; omega
  obtain ⟨gp, op, rfl, _⟩ := hR hnbp
  have HNB : Hid (nb = nbOf n) := hnb
  clear hnb
  obtain ⟨gA, cA, m1, m2⟩ := (hM.below hB1).last
  have cN := fun j => now_any mB gA t cA (some ⟨gp, op, none⟩) nb c (w1.drewN j) m1 m2 (by omega)
  have cP := fun j => puts_any q cq ps nb (w1.drewN j) (hps.below (below_drewN hB1 j)) hpl
  have HS : Hid (VI w s ∧ Bud s b ∧ s.v = v ∧ s.d.a = a ∧ s.d.n = n ∧ s.commits = t ∧ (∀ i, i < nb → s.cont i = bs i) ∧ ModelAt w base mB t (some ⟨gp, op, none⟩) nb c ∧ RowsAt w (some ⟨gp, op, none⟩) nb bs ∧ (∀ k, (s.mine k ∨ k = mB) → B0 ≤ k)) := ⟨hI, hz, hsv, hsa, hsn, hsc, hcont, hM, hR, hlo⟩
  have H1 : Hid (Below w.heap.size w w1 ∧ LPutsAt w q ps ∧ Tab w) := ⟨hB1, hps, htab⟩
  have HM : Hid (MS w a v n nb mB base B0 t b) := h
  clear h hI hz hsa hsn hsc hcont hM hR hlo hB1 hps htab hsv
  go_enter Tryz.func14, Tryz.ntmps14
  go_wp2_with fail
  rw [← hw1]
  have vv0 : ∀ g, vals (actL q ps.length cq w.heap.size mB (some ⟨gp, op, none⟩) nb c (okL ps nb ps.length) g) 0 = .pointer (some ⟨w.heap.size, 1, none⟩) := fun g => rfl
  have vv1 : ∀ g, vals (actL q ps.length cq w.heap.size mB (some ⟨gp, op, none⟩) nb c (okL ps nb ps.length) g) 1 = .slice q ps.length cq := fun g => rfl
  have vv2 : ∀ g, vals (actL q ps.length cq w.heap.size mB (some ⟨gp, op, none⟩) nb c (okL ps nb ps.length) g) 2 = dp mB := fun g => rfl
  have vv3 : ∀ g, vals (actL q ps.length cq w.heap.size mB (some ⟨gp, op, none⟩) nb c (okL ps nb ps.length) g) 3 = .slice (some ⟨gp, op, none⟩) nb c := fun g => rfl
  have vv4 : ∀ g, vals (actL q ps.length cq w.heap.size mB (some ⟨gp, op, none⟩) nb c (okL ps nb ps.length) g) 4 = .int .i64 (nb : Nat) := fun g => rfl
  have vv5 : ∀ g, vals (actL q ps.length cq w.heap.size mB (some ⟨gp, op, none⟩) nb c (okL ps nb ps.length) g) 5 = .tuple #[g, .bool (okL ps nb ps.length)] := fun g => rfl
  have vv6 : ∀ g, vals (actL q ps.length cq w.heap.size mB (some ⟨gp, op, none⟩) nb c (okL ps nb ps.length) g) 6 = .tuple #[g, .bool (okL ps nb ps.length)] := fun g => rfl
  have vv7 : ∀ g, vals (actL q ps.length cq w.heap.size mB (some ⟨gp, op, none⟩) nb c (okL ps nb ps.length) g) 7 = g := fun g => rfl
  have vv8 : ∀ g, vals (actL q ps.length cq w.heap.size mB (some ⟨gp, op, none⟩) nb c (okL ps nb ps.length) g) 8 = .bool (okL ps nb ps.length) := fun g => rfl
  have vv9 : ∀ g, vals (actL q ps.length cq w.heap.size mB (some ⟨gp, op, none⟩) nb c (okL ps nb ps.length) g) 9 = g := fun g => rfl
  have vv10 : ∀ g, vals (actL q ps.length cq w.heap.size mB (some ⟨gp, op, none⟩) nb c (okL ps nb ps.length) g) 10 = .bool (okL ps nb ps.length) := fun g => rfl
  refine region_laidb hmix (by kernel_rfl) 92 rfl (by kernel_rfl) undef (actL q ps.length cq w.heap.size mB (some ⟨gp, op, none⟩) nb c (okL ps nb ps.length)) (fun g => rfl) (fun g b W => (b 5 = false → ∃ j, W = w1.drewN j) ∧ (b 5 = true → ∃ gs : List Nat, gs.length = ps.length ∧ PInv w1 W ps g gs)) ⟨(fun _ => ⟨1, rfl⟩), (fun h => by cases h)⟩ ?_ ?_
  · intro g b W io o a hS hcl ho hb hd ev kp yl
    match io with
    | 0 =>
      simp only [List.getElem?_toArray, List.getElem?_cons_zero, Option.some.injEq] at ho
      subst ho
      have e5 : a.tmps[5]?.getD undef = .pointer (some ⟨w.heap.size, 0, none⟩) := kp 5 (none_till (by kernel_rfl))
      have h5 : b 5 = false := by cases h : b 5; rfl; rw [hcl 1 _ rfl (hcl 5 _ rfl h ⟨1, .data⟩ (by simp) rfl) ⟨0, .data⟩ (by simp) rfl] at hb; cases hb
      refine doesg_value rfl (by intro c h; cases h) (v := .pointer (some ⟨w.heap.size, 1, none⟩)) (w' := W) ?_ ⟨g, fun _ _ => rfl, (vv0 g).symm, ?_⟩
      · simp [execOp, go_sem, e5]
      · exact ⟨(fun _ => hS.1 h5), (fun h => by simp [did, h5] at h)⟩
    | 1 =>
      simp only [List.getElem?_toArray, List.getElem?_cons_zero, List.getElem?_cons_succ, Option.some.injEq] at ho
      subst ho
      have p0 : b 0 = true := hd ⟨0, .data⟩ (by simp) rfl
      have e35 := (ev 0 35 rfl p0).trans (vv0 g)
      have h5 : b 5 = false := by cases h : b 5; rfl; rw [hcl 5 _ rfl h ⟨1, .data⟩ (by simp) rfl] at hb; cases hb
      obtain ⟨j1, rfl⟩ := hS.1 h5
      have hl : (w1.drewN j1).cell? ⟨w.heap.size, 1, none⟩ = some (.slice q ps.length cq) := cBox
      refine doesg_value rfl (by intro c h; cases h) (v := .slice q ps.length cq) (w' := (w1.drewN j1)) ?_ ⟨g, fun _ _ => rfl, (vv1 g).symm, ?_⟩
      · simp [execOp, go_sem, e35, hl]
      · exact ⟨(fun _ => ⟨j1, rfl⟩), (fun h => by simp [did, h5] at h)⟩
    | 2 =>
      simp only [List.getElem?_toArray, List.getElem?_cons_zero, List.getElem?_cons_succ, Option.some.injEq] at ho
      subst ho
      have e0 : a.tmps[0]?.getD undef = dp mB := kp 0 (none_till (by kernel_rfl))
      have h5 : b 5 = false := by cases h : b 5; rfl; rw [hcl 3 _ rfl (hcl 4 _ rfl (hcl 5 _ rfl h ⟨4, .data⟩ (by simp) rfl) ⟨3, .data⟩ (by simp) rfl) ⟨2, .data⟩ (by simp) rfl] at hb; cases hb
      refine doesg_value rfl (by intro c h; cases h) (v := dp mB) (w' := W) ?_ ⟨g, fun _ _ => rfl, (vv2 g).symm, ?_⟩
      · simp [execOp, go_sem, e0]
      · exact ⟨(fun _ => hS.1 h5), (fun h => by simp [did, h5] at h)⟩
    | 3 =>
      simp only [List.getElem?_toArray, List.getElem?_cons_zero, List.getElem?_cons_succ, Option.some.injEq] at ho
      subst ho
      have p2 : b 2 = true := hd ⟨2, .data⟩ (by simp) rfl
      have e37 := (ev 2 37 rfl p2).trans (vv2 g)
      have h5 : b 5 = false := by cases h : b 5; rfl; rw [hcl 4 _ rfl (hcl 5 _ rfl h ⟨4, .data⟩ (by simp) rfl) ⟨3, .data⟩ (by simp) rfl] at hb; cases hb
      refine doesg_call rfl (by intro c h; cases h) (f := 16) (args := #[dp mB]) ?_ ?_
      · simp [go_sem, e37]
      · obtain ⟨j1, rfl⟩ := hS.1 h5; refine (cN j1).mono ?_; rintro e w2 ⟨rfl, j2, rfl⟩; exact ⟨_, rfl, g, fun _ _ => rfl, (vv3 g).symm, (fun _ => ⟨_, drewN_two _ _ _⟩), (fun h => by simp [did, h5] at h)⟩
    | 4 =>
      simp only [List.getElem?_toArray, List.getElem?_cons_zero, List.getElem?_cons_succ, Option.some.injEq] at ho
      subst ho
      have p3 : b 3 = true := hd ⟨3, .data⟩ (by simp) rfl
      have e38 := (ev 3 38 rfl p3).trans (vv3 g)
      have h5 : b 5 = false := by cases h : b 5; rfl; rw [hcl 5 _ rfl h ⟨4, .data⟩ (by simp) rfl] at hb; cases hb
      refine doesg_value rfl (by intro c h; cases h) (v := .int .i64 (nb : Nat)) (w' := W) ?_ ⟨g, fun _ _ => rfl, (vv4 g).symm, ?_⟩
      · simp [go_sem, e38]
      · exact ⟨(fun _ => hS.1 h5), (fun h => by simp [did, h5] at h)⟩
    | 5 =>
      simp only [List.getElem?_toArray, List.getElem?_cons_zero, List.getElem?_cons_succ, Option.some.injEq] at ho
      subst ho
      have p1 : b 1 = true := hd ⟨1, .data⟩ (by simp) rfl
      have p4 : b 4 = true := hd ⟨4, .data⟩ (by simp) rfl
      have e36 := (ev 1 36 rfl p1).trans (vv1 g)
      have e39 := (ev 4 39 rfl p4).trans (vv4 g)
      refine doesg_call rfl (by intro c h; cases h) (f := 56) (args := #[.slice q ps.length cq, .int .i64 (nb : Nat)]) ?_ ?_
      · simp [go_sem, e36, e39]
      · obtain ⟨j1, rfl⟩ := hS.1 hb; refine (cP j1).mono ?_; rintro e w2 ⟨lv, gs, rfl, hgl, hP⟩; refine ⟨_, rfl, lv, fun j hj => ?_, (vv5 lv).symm, (fun h => by simp [did] at h), (fun _ => ⟨gs, hgl, hP.drewN⟩)⟩; match j, hj with | 0, h => rfl | 1, h => rfl | 2, h => rfl | 3, h => rfl | 4, h => rfl | 5, h => exact absurd h (by rw [hb]; decide) | 6, h => exact absurd h (by intro h2; rw [hcl 6 _ rfl h2 ⟨5, .data⟩ (by simp) rfl] at hb; cases hb) | 7, h => exact absurd h (by intro h2; rw [hcl 6 _ rfl (hcl 7 _ rfl h2 ⟨6, .data⟩ (by simp) rfl) ⟨5, .data⟩ (by simp) rfl] at hb; cases hb) | 8, h => rfl | 9, h => exact absurd h (by intro h2; rw [hcl 6 _ rfl (hcl 7 _ rfl (hcl 9 _ rfl h2 ⟨7, .data⟩ (by simp) rfl) ⟨6, .data⟩ (by simp) rfl) ⟨5, .data⟩ (by simp) rfl] at hb; cases hb) | 10, h => rfl | j + 11, _ => rfl
    | 6 =>
      simp only [List.getElem?_toArray, List.getElem?_cons_zero, List.getElem?_cons_succ, Option.some.injEq] at ho
      subst ho
      have p5 : b 5 = true := hd ⟨5, .data⟩ (by simp) rfl
      have e40 := (ev 5 40 rfl p5).trans (vv5 g)
      refine doesg_value rfl (by intro c h; cases h) (v := .tuple #[g, .bool (okL ps nb ps.length)]) (w' := W) ?_ ⟨g, fun _ _ => rfl, (vv6 g).symm, ?_⟩
      · simp [execOp, go_sem, e40]
      · exact ⟨(fun h => by simp [did, p5] at h), (fun _ => hS.2 p5)⟩
    | 7 =>
      simp only [List.getElem?_toArray, List.getElem?_cons_zero, List.getElem?_cons_succ, Option.some.injEq] at ho
      subst ho
      have p6 : b 6 = true := hd ⟨6, .data⟩ (by simp) rfl
      have e34 := (ev 6 34 rfl p6).trans (vv6 g)
      have p5 := hcl 6 _ rfl p6 ⟨5, .data⟩ (by simp) rfl
      refine doesg_value rfl (by intro c h; cases h) (v := g) (w' := W) ?_ ⟨g, fun _ _ => rfl, (vv7 g).symm, ?_⟩
      · simp [execOp, go_sem, e34]
      · exact ⟨(fun h => by simp [did, p5] at h), (fun _ => hS.2 p5)⟩
    | 8 =>
      simp only [List.getElem?_toArray, List.getElem?_cons_zero, List.getElem?_cons_succ, Option.some.injEq] at ho
      subst ho
      have p6 : b 6 = true := hd ⟨6, .data⟩ (by simp) rfl
      have e34 := (ev 6 34 rfl p6).trans (vv6 g)
      have p5 := hcl 6 _ rfl p6 ⟨5, .data⟩ (by simp) rfl
      refine doesg_value rfl (by intro c h; cases h) (v := .bool (okL ps nb ps.length)) (w' := W) ?_ ⟨g, fun _ _ => rfl, (vv8 g).symm, ?_⟩
      · simp [execOp, go_sem, e34]
      · exact ⟨(fun h => by simp [did, p5] at h), (fun _ => hS.2 p5)⟩
    | 9 =>
      simp only [List.getElem?_toArray, List.getElem?_cons_zero, List.getElem?_cons_succ, Option.some.injEq] at ho
      subst ho
      have p7 : b 7 = true := hd ⟨7, .data⟩ (by simp) rfl
      have e41 := (ev 7 41 rfl p7).trans (vv7 g)
      have p5 := hcl 6 _ rfl (hcl 7 _ rfl p7 ⟨6, .data⟩ (by simp) rfl) ⟨5, .data⟩ (by simp) rfl
      refine doesg_value rfl (by intro c h; cases h) (v := g) (w' := W) ?_ ⟨g, fun _ _ => rfl, (vv9 g).symm, ?_⟩
      · simp [execOp, go_sem, e41]
      · exact ⟨(fun h => by simp [did, p5] at h), (fun _ => hS.2 p5)⟩
    | 10 =>
      simp only [List.getElem?_toArray, List.getElem?_cons_zero, List.getElem?_cons_succ, Option.some.injEq] at ho
      subst ho
      have p8 : b 8 = true := hd ⟨8, .data⟩ (by simp) rfl
      have e42 := (ev 8 42 rfl p8).trans (vv8 g)
      have p5 := hcl 6 _ rfl (hcl 8 _ rfl p8 ⟨6, .data⟩ (by simp) rfl) ⟨5, .data⟩ (by simp) rfl
      refine doesg_value rfl (by intro c h; cases h) (v := .bool (okL ps nb ps.length)) (w' := W) ?_ ⟨g, fun _ _ => rfl, (vv10 g).symm, ?_⟩
      · simp [execOp, go_sem, e42]
      · exact ⟨(fun h => by simp [did, p5] at h), (fun _ => hS.2 p5)⟩
    | k + 11 => simp at ho
  · intro g b' W hS hall
    obtain ⟨gs, hgl, hP⟩ := hS.2 (hall 5 (by simp))
    obtain ⟨pq, cc, rfl, hPu, hPz, hPg⟩ := hP.puts_at hgl
    have BW : Below w.heap.size w W := H1.out.1.trans (hP.below.mono H1.out.1.size)
    obtain ⟨hI, hz, hsv, hsa, hsn, hsc, hcont, hM, hR, hlo⟩ := HS.out
    have hnbs : nb = nbOf s.d.n := by rw [hsn]; exact HNB.out
    clear hS hall cN cP
    simp only [actL, putAll, List.setIfInBounds_toArray, List.set_cons_zero, List.set_cons_succ]
    cases hok : okL ps nb ps.length with
    | false =>
      have cC := vCommit_refused pq (pms ps gs) cc s W (hI.below BW) hPu (by rw [pms_length]; exact hPz) (by rw [pms_length]; omega) (by rw [← hnbs, pms_takes]; exact hok)
      rw [pms_length, hsv] at cC
      have HW : Hid (Below w.heap.size w W) := BW
      clear hI hz hsv hsa hsn hsc hcont hM hR hlo hnbs hP hPu hPz hPg BW hok
      go_wp2_with (go_at_call 54; refine cC.mono ?_; rintro e w2 ⟨rfl, hB2⟩; clear cC)
      go_ret
      have B2 := HW.out.trans (hB2.mono HW.out.size)
      exact ⟨rfl, ⟨t, by omega, (HM.out.below B2).more⟩, B2.mono (by omega)⟩
    | true =>
      by_cases h0 : ps.length = 0
      · obtain ⟨rfl, rfl⟩ := hPz h0
        have cC := vCommit_empty none 0 s W (hI.below BW)
        rw [hsv] at cC
        have HW : Hid (Below w.heap.size w W) := BW
        clear hI hz hsv hsa hsn hsc hcont hM hR hlo hnbs hP hPu hPz hPg BW hok
        rw [h0]
        clear h0
        go_wp2_with (go_at_call 54; refine cC.mono ?_; rintro e w2 ⟨rfl, hB2⟩; clear cC)
        go_ret
        have B2 := HW.out.trans (hB2.mono HW.out.size)
        exact ⟨rfl, ⟨t, by omega, (HM.out.below B2).more⟩, B2.mono (by omega)⟩
      · have hnb48 : nb ≤ 48 := by rw [hnbs]; unfold nbOf; have := hI.n200; omega
        have htk : takesB nb (pms ps gs) = true := by rw [pms_takes]; exact hok
        have hgood : (pms ps gs).all (goodPut nb) = true := by
          unfold takesB at htk
          simp only [Bool.and_eq_true] at htk
          exact htk.2
        have hlen : ps.length ≤ nb := by
          unfold takesB at htk
          rw [pms_length] at htk
          simp only [Bool.and_eq_true, decide_eq_true_eq] at htk
          exact htk.1
        have cC := vCommit_any pq (pms ps gs) cc s b W (hI.below BW) (below_tab BW H1.out.2.2.lt H1.out.2.2) hz (by omega) hPu (by rw [← hnbs]; exact hgood) (by rw [pms_length]; omega) (by rw [pms_length, ← hnbs]; exact hlen)
        rw [pms_length, hsv] at cC
        have hl0 : ¬ ((ps.length : Int) = 0) := by omega
        obtain ⟨gq, rfl, hgq⟩ := hPg (by omega)
        have HW : Hid (Below w.heap.size w W ∧ PutsAt W (some ⟨gq, 0, none⟩) (pms ps gs) ∧ (pms ps gs).all (goodPut nb) = true ∧ nb = nbOf s.d.n) := ⟨BW, hPu, hgood, hnbs⟩
        clear hI hz hsa hsn hsc hcont hM hR hlo hP hPu hPz hPg BW hok htk hgood hnbs
        go_wp2_with (go_at_call 54; refine cC.mono ?_; rintro e w2 ⟨rfl, s1, hI1, hS1, hz1, hc1, hcont1⟩; clear cC; refine Stop.out ?_)
        refine Stop.mk ?_
        obtain ⟨hI, hz, hsv', hsa, hsn, hsc, hcont, hM, hR, hlo⟩ := HS.out
        have hIW := hI.below HW.out.1
        have hM2 : ModelAt w2 base mB t (some ⟨gp, op, none⟩) nb c := (hM.below HW.out.1).but hS1.but (fun g cs t' fr hk ht => by rcases ht with rfl | rfl <;> exact hIW.other hk (by decide) (by decide) (by decide))
        have hR2 : RowsAt w2 (some ⟨gp, op, none⟩) nb bs := (hR.below HW.out.1).but hS1.but (fun g cs t' fr hk ht => by rcases ht with rfl | rfl <;> exact hIW.other hk (by decide) (by decide) (by decide))
        have hP2 : PutsAt w2 (some ⟨gq, 0, none⟩) (pms ps gs) := HW.out.2.1.but hS1.but (fun g cs t' fr hk ht => by rcases ht with rfl | rfl <;> exact hIW.other hk (by decide) (by decide) (by decide))
        obtain ⟨gB, cB, n1, n2⟩ := hM2.last
        have cN := now_any mB gB t cB (some ⟨gp, op, none⟩) nb c w2 n1 n2 (by omega)
        obtain ⟨g, o, vs, hpe, hvl, hvc, hv1, hvb⟩ := hR2.vals hnbp
        cases hpe
        obtain ⟨j0, hj0, hy0, hy1, hy2⟩ := info_parts Tryz.info55
        have hA : ∀ j, ∃ v' w', (Builtin.append_ #[35, 35] 35 #[.slice none 0 0, .slice (some ⟨gp, op, none⟩) nb c]).run Tryz.prog (w2.drewN j) = .ok v' w' ∧ (∃ gx cx, v' = .slice (some ⟨gx, 0, none⟩) nb cx ∧ w2.heap.size ≤ gx ∧ XI w' w' gx nb bs) ∧ Below w2.heap.size w2 w' := by
          intro j
          obtain ⟨v', w', hr, h2, h3, _⟩ := run_append_own (P := Tryz.prog) (w2.drewN j) w2.heap.size 35 35 55 j0 (.slice none 0 0) 1 24 Tryz.underlying35 hj0 hy0 hy1 hy2 rfl (by decide) (.slice none 0 0) 0 [] ⟨rfl, .inl ⟨rfl, rfl⟩⟩ ⟨gp, op, none⟩ nb c vs (by omega) (fun j u hj => by rw [Addr.add_lit]; exact hvc j u hj) hv1 (by unfold maxLen; omega) (by omega) (Nat.le_refl _)
          rw [Nat.zero_add, List.nil_append] at h2
          have hB : Below w2.heap.size w2 w' := (below_drewN (Below.refl _ _) j).grown h3 (Nat.le_refl _) (by simp [Value.ownBlock])
          obtain ⟨gx, cx, rfl, hgx, _⟩ := h2.form hnbp
          exact ⟨_, w', hr, ⟨gx, cx, rfl, hgx, XI.of_own h2 hB hvb⟩, hB⟩
        have H2 : Hid (VI w2 s1 ∧ Step W w2 s s1 ∧ Bud s1 (b + 1) ∧ s1.commits = s.commits + 1 ∧ (∀ i, i < nbOf s.d.n → s1.cont i = (laidOn (fun _ => none) (recOf (pms ps gs)) i).getD (s.cont i)) ∧ ModelAt w2 base mB t (some ⟨gp, op, none⟩) nb c ∧ PutsAt w2 (some ⟨gq, 0, none⟩) (pms ps gs)) := ⟨hI1, hS1, hz1, hc1, hcont1, hM2, hP2⟩
        clear hI hz hsv' hsa hsn hsc hcont hM hR hlo hIW hM2 hR2 hP2 n1 n2 hvl hvc hv1 hvb hj0 hy0 hy1 hy2 hI1 hS1 hz1 hc1 hcont1
        go_wp2_with (first
          | (go_at_call 16; refine cN.mono ?_; rintro e w9 ⟨rfl, j9, rfl⟩; clear cN; obtain ⟨v3, w3, hr3, ⟨gx, cx, rfl, hgx, hX⟩, hB3⟩ := hA j9; clear hA; have H3 : Hid (w2.heap.size ≤ gx ∧ XI w3 w3 gx nb bs ∧ Below w2.heap.size w2 w3) := ⟨hgx, hX, hB3⟩; clear hgx hX hB3)
          | (at_builtin; refine wpList_append_run rfl _ _ 35 35 35 rfl rfl (.slice none 0 0) (.slice (some ⟨gp, op, none⟩) nb c) _ rfl rfl hr3 ?_; clear hr3))
        go_loopw [12] (fun ii wr => ∃ i : Nat, i ≤ ps.length ∧ ii = .int .i64 i ∧ Hid (XI w3 wr gx nb (laidB (pms ps gs) bs i) ∧ But (fun k => k = gx) w3 wr)) (fun ii _ => ps.length - (intOf ii).toNat)
        case atStart => exact ⟨0, Nat.zero_le _, rfl, H3.out.2.1, But.refl _ _⟩
        case round =>
          obtain ⟨i, hi, hii, HX⟩ := hrel
          subst hii
          by_cases hlt : i < ps.length
          · have hltI : (i : Int) < ps.length := by omega
            have hg := List.all_eq_true.1 HW.out.2.2.1
            obtain ⟨x, hx⟩ : ∃ x, ps[i]? = some x := ⟨_, List.getElem?_eq_getElem hlt⟩
            obtain ⟨ga, hpx⟩ : ∃ ga, (pms ps gs)[i]? = some ⟨x.block, some ⟨ga, 0, none⟩, x.n, x.full⟩ := ⟨_, pms_get ps gs i x hx⟩
            have hgx := hg _ (List.mem_of_getElem? hpx)
            simp only [goodPut, Bool.and_eq_true, decide_eq_true_eq, LP.full_length] at hgx
            obtain ⟨⟨hb0, hb1⟩, hxn⟩ := hgx
            obtain ⟨k, hk⟩ := Int.eq_ofNat_of_zero_le hb0
            have hkn : k < nb := by omega
            have hkI : (k : Int) < nb := by omega
            obtain ⟨gq', oq', e', ⟨cq', fq', hgq'⟩, hc⟩ := (H2.out.2.2.2.2.2.2.below H3.out.2.2).1 (by rw [pms_length]; omega)
            cases e'
            obtain ⟨c0, c1⟩ := hc i _ hpx
            obtain ⟨_, hby, htag⟩ := (H2.out.2.2.2.2.2.2.below H3.out.2.2).2 i _ hpx
            rw [Nat.zero_add] at c0 c1
            simp only [LP.full_length, hxn, hk] at c0 c1
            have hne : gq ≠ gx := by
              rintro rfl
              obtain ⟨cs3, h3, _⟩ := H3.out.2.1
              rw [h3] at hgq'
              simp only [Option.some.injEq, Obj.cells.injEq] at hgq'
              exact absurd hgq'.2.1 (by decide)
            have kq := HX.out.2.block gq (Array.getElem?_eq_some_iff.1 hgq').1 hne
            have d0 : wr.cell? ⟨gq, i * 2, none⟩ = some (.int .i64 (k : Nat)) := (World.cell?_of_block (w := w3) kq).trans c0
            have d1 : wr.cell? ⟨gq, i * 2 + 1, none⟩ = some (.slice (some ⟨ga, 0, none⟩) 512 512) := (World.cell?_of_block (w := w3) kq).trans c1
            obtain ⟨cs, hblk, hrw⟩ := HX.out.1
            obtain ⟨gi, oi, ci, hck, _⟩ := hrw k hkn
            have ek : wr.cell? ⟨gx, k, none⟩ = some (.slice (some ⟨gi, oi, none⟩) 512 ci) := (cellOf hblk k).trans hck
            have fk := frozenOf hblk k
            have HN : Hid (XI w3 (wr.drew.setCell ⟨gx, k, none⟩ (.slice (some ⟨ga, 0, none⟩) 512 512)) gx nb (laidB (pms ps gs) bs (i + 1)) ∧ But (fun k => k = gx) w3 (wr.drew.setCell ⟨gx, k, none⟩ (.slice (some ⟨ga, 0, none⟩) 512 512))) := by
              refine ⟨?_, HX.out.2.drew.setCell _ rfl _⟩
              rw [laidB_step _ _ _ _ hpx]
              have := XI.set (wr := wr.drew) HX.out.1 k hkn ga x.full hby (by rw [LP.full_length]; exact hxn) (htag _ _ rfl)
              simpa [hk] using this
            clear hg hx hpx hb0 hb1 hxn hk hgq' hc c0 c1 hby htag hne kq hblk hrw hck
            go_wp2_with fail
            have vv0 : ∀ g, vals (mvL gx nb cx gq ps.length cc i k ga g) 0 = .slice (some ⟨gx, 0, none⟩) nb cx := fun g => rfl
            have vv1 : ∀ g, vals (mvL gx nb cx gq ps.length cc i k ga g) 1 = .slice (some ⟨gq, 0, none⟩) ps.length cc := fun g => rfl
            have vv2 : ∀ g, vals (mvL gx nb cx gq ps.length cc i k ga g) 2 = .int .i64 (i : Nat) := fun g => rfl
            have vv3 : ∀ g, vals (mvL gx nb cx gq ps.length cc i k ga g) 3 = .pointer (some ⟨gq, i * 2, none⟩) := fun g => rfl
            have vv4 : ∀ g, vals (mvL gx nb cx gq ps.length cc i k ga g) 4 = .pointer (some ⟨gq, i * 2, none⟩) := fun g => rfl
            have vv5 : ∀ g, vals (mvL gx nb cx gq ps.length cc i k ga g) 5 = .int .i64 (k : Nat) := fun g => rfl
            have vv6 : ∀ g, vals (mvL gx nb cx gq ps.length cc i k ga g) 6 = .slice (some ⟨gq, 0, none⟩) ps.length cc := fun g => rfl
            have vv7 : ∀ g, vals (mvL gx nb cx gq ps.length cc i k ga g) 7 = .int .i64 (i : Nat) := fun g => rfl
            have vv8 : ∀ g, vals (mvL gx nb cx gq ps.length cc i k ga g) 8 = .pointer (some ⟨gq, i * 2, none⟩) := fun g => rfl
            have vv9 : ∀ g, vals (mvL gx nb cx gq ps.length cc i k ga g) 9 = .pointer (some ⟨gq, i * 2 + 1, none⟩) := fun g => rfl
            have vv10 : ∀ g, vals (mvL gx nb cx gq ps.length cc i k ga g) 10 = .slice (some ⟨ga, 0, none⟩) 512 512 := fun g => rfl
            have vv11 : ∀ g, vals (mvL gx nb cx gq ps.length cc i k ga g) 11 = .pointer (some ⟨gx, k, none⟩) := fun g => rfl
            have vv12 : ∀ g, vals (mvL gx nb cx gq ps.length cc i k ga g) 12 = undef := fun g => rfl
            refine region_laidb hmix (by kernel_rfl) 92 rfl (by kernel_rfl) () (mvL gx nb cx gq ps.length cc i k ga) (fun g => rfl) (fun _ b W => (b 12 = false → W = wr.drew) ∧ (b 12 = true → W = wr.drew.setCell ⟨gx, k, none⟩ (.slice (some ⟨ga, 0, none⟩) 512 512))) ⟨(fun _ => rfl), (fun h => by cases h)⟩ ?_ ?_
            · intro g b W io o a hS hcl ho hb hd ev kp yl
              match io with
              | 0 =>
                simp only [List.getElem?_toArray, List.getElem?_cons_zero, Option.some.injEq] at ho
                subst ho
                have e11 : a.tmps[11]?.getD undef = .slice (some ⟨gx, 0, none⟩) nb cx := kp 11 (none_till (by kernel_rfl))
                have h12 : b 12 = false := by cases h : b 12; rfl; rw [hcl 11 _ rfl (hcl 12 _ rfl h ⟨11, .data⟩ (by simp) rfl) ⟨0, .data⟩ (by simp) rfl] at hb; cases hb
                refine doesg_value rfl (by intro c h; cases h) (v := .slice (some ⟨gx, 0, none⟩) nb cx) (w' := W) ?_ ⟨g, fun _ _ => rfl, (vv0 g).symm, ?_⟩
                · simp [execOp, go_sem, e11]
                · exact ⟨(fun _ => hS.1 h12), (fun h => by simp [did, h12] at h)⟩
              | 1 =>
                simp only [List.getElem?_toArray, List.getElem?_cons_zero, List.getElem?_cons_succ, Option.some.injEq] at ho
                subst ho
                have e8 : a.tmps[8]?.getD undef = .slice (some ⟨gq, 0, none⟩) ps.length cc := kp 8 (none_till (by kernel_rfl))
                have h12 : b 12 = false := by cases h : b 12; rfl; rw [hcl 3 _ rfl (hcl 4 _ rfl (hcl 5 _ rfl (hcl 11 _ rfl (hcl 12 _ rfl h ⟨11, .data⟩ (by simp) rfl) ⟨5, .data⟩ (by simp) rfl) ⟨4, .data⟩ (by simp) rfl) ⟨3, .data⟩ (by simp) rfl) ⟨1, .data⟩ (by simp) rfl] at hb; cases hb
                refine doesg_value rfl (by intro c h; cases h) (v := .slice (some ⟨gq, 0, none⟩) ps.length cc) (w' := W) ?_ ⟨g, fun _ _ => rfl, (vv1 g).symm, ?_⟩
                · simp [execOp, go_sem, e8]
                · exact ⟨(fun _ => hS.1 h12), (fun h => by simp [did, h12] at h)⟩
              | 2 =>
                simp only [List.getElem?_toArray, List.getElem?_cons_zero, List.getElem?_cons_succ, Option.some.injEq] at ho
                subst ho
                have e12 : a.tmps[12]?.getD undef = .int .i64 (i : Nat) := kp 12 (none_till (by kernel_rfl))
                have h12 : b 12 = false := by cases h : b 12; rfl; rw [hcl 3 _ rfl (hcl 4 _ rfl (hcl 5 _ rfl (hcl 11 _ rfl (hcl 12 _ rfl h ⟨11, .data⟩ (by simp) rfl) ⟨5, .data⟩ (by simp) rfl) ⟨4, .data⟩ (by simp) rfl) ⟨3, .data⟩ (by simp) rfl) ⟨2, .data⟩ (by simp) rfl] at hb; cases hb
                refine doesg_value rfl (by intro c h; cases h) (v := .int .i64 (i : Nat)) (w' := W) ?_ ⟨g, fun _ _ => rfl, (vv2 g).symm, ?_⟩
                · simp [execOp, go_sem, e12]
                · exact ⟨(fun _ => hS.1 h12), (fun h => by simp [did, h12] at h)⟩
              | 3 =>
                simp only [List.getElem?_toArray, List.getElem?_cons_zero, List.getElem?_cons_succ, Option.some.injEq] at ho
                subst ho
                have p1 : b 1 = true := hd ⟨1, .data⟩ (by simp) rfl
                have p2 : b 2 = true := hd ⟨2, .data⟩ (by simp) rfl
                have e71 := (ev 1 71 rfl p1).trans (vv1 g)
                have e72 := (ev 2 72 rfl p2).trans (vv2 g)
                have h12 : b 12 = false := by cases h : b 12; rfl; rw [hcl 4 _ rfl (hcl 5 _ rfl (hcl 11 _ rfl (hcl 12 _ rfl h ⟨11, .data⟩ (by simp) rfl) ⟨5, .data⟩ (by simp) rfl) ⟨4, .data⟩ (by simp) rfl) ⟨3, .data⟩ (by simp) rfl] at hb; cases hb
                refine doesg_value rfl (by intro c h; cases h) (v := .pointer (some ⟨gq, i * 2, none⟩)) (w' := W) ?_ ⟨g, fun _ _ => rfl, (vv3 g).symm, ?_⟩
                · simp [execOp, go_sem, e71, e72, hltI]
                · exact ⟨(fun _ => hS.1 h12), (fun h => by simp [did, h12] at h)⟩
              | 4 =>
                simp only [List.getElem?_toArray, List.getElem?_cons_zero, List.getElem?_cons_succ, Option.some.injEq] at ho
                subst ho
                have p3 : b 3 = true := hd ⟨3, .data⟩ (by simp) rfl
                have e73 := (ev 3 73 rfl p3).trans (vv3 g)
                have h12 : b 12 = false := by cases h : b 12; rfl; rw [hcl 5 _ rfl (hcl 11 _ rfl (hcl 12 _ rfl h ⟨11, .data⟩ (by simp) rfl) ⟨5, .data⟩ (by simp) rfl) ⟨4, .data⟩ (by simp) rfl] at hb; cases hb
                refine doesg_value rfl (by intro c h; cases h) (v := .pointer (some ⟨gq, i * 2, none⟩)) (w' := W) ?_ ⟨g, fun _ _ => rfl, (vv4 g).symm, ?_⟩
                · simp [execOp, go_sem, e73]
                · exact ⟨(fun _ => hS.1 h12), (fun h => by simp [did, h12] at h)⟩
              | 5 =>
                simp only [List.getElem?_toArray, List.getElem?_cons_zero, List.getElem?_cons_succ, Option.some.injEq] at ho
                subst ho
                have p4 : b 4 = true := hd ⟨4, .data⟩ (by simp) rfl
                have e74 := (ev 4 74 rfl p4).trans (vv4 g)
                have h12 : b 12 = false := by cases h : b 12; rfl; rw [hcl 11 _ rfl (hcl 12 _ rfl h ⟨11, .data⟩ (by simp) rfl) ⟨5, .data⟩ (by simp) rfl] at hb; cases hb
                have hl : W.cell? ⟨gq, i * 2, none⟩ = some (.int .i64 (k : Nat)) := by rw [hS.1 h12]; exact d0
                refine doesg_value rfl (by intro c h; cases h) (v := .int .i64 (k : Nat)) (w' := W) ?_ ⟨g, fun _ _ => rfl, (vv5 g).symm, ?_⟩
                · simp [execOp, go_sem, e74, hl]
                · exact ⟨(fun _ => hS.1 h12), (fun h => by simp [did, h12] at h)⟩
              | 6 =>
                simp only [List.getElem?_toArray, List.getElem?_cons_zero, List.getElem?_cons_succ, Option.some.injEq] at ho
                subst ho
                have e8 : a.tmps[8]?.getD undef = .slice (some ⟨gq, 0, none⟩) ps.length cc := kp 8 (none_till (by kernel_rfl))
                have h12 : b 12 = false := by cases h : b 12; rfl; rw [hcl 8 _ rfl (hcl 9 _ rfl (hcl 10 _ rfl (hcl 12 _ rfl h ⟨10, .data⟩ (by simp) rfl) ⟨9, .data⟩ (by simp) rfl) ⟨8, .data⟩ (by simp) rfl) ⟨6, .data⟩ (by simp) rfl] at hb; cases hb
                refine doesg_value rfl (by intro c h; cases h) (v := .slice (some ⟨gq, 0, none⟩) ps.length cc) (w' := W) ?_ ⟨g, fun _ _ => rfl, (vv6 g).symm, ?_⟩
                · simp [execOp, go_sem, e8]
                · exact ⟨(fun _ => hS.1 h12), (fun h => by simp [did, h12] at h)⟩
              | 7 =>
                simp only [List.getElem?_toArray, List.getElem?_cons_zero, List.getElem?_cons_succ, Option.some.injEq] at ho
                subst ho
                have e12 : a.tmps[12]?.getD undef = .int .i64 (i : Nat) := kp 12 (none_till (by kernel_rfl))
                have h12 : b 12 = false := by cases h : b 12; rfl; rw [hcl 8 _ rfl (hcl 9 _ rfl (hcl 10 _ rfl (hcl 12 _ rfl h ⟨10, .data⟩ (by simp) rfl) ⟨9, .data⟩ (by simp) rfl) ⟨8, .data⟩ (by simp) rfl) ⟨7, .data⟩ (by simp) rfl] at hb; cases hb
                refine doesg_value rfl (by intro c h; cases h) (v := .int .i64 (i : Nat)) (w' := W) ?_ ⟨g, fun _ _ => rfl, (vv7 g).symm, ?_⟩
                · simp [execOp, go_sem, e12]
                · exact ⟨(fun _ => hS.1 h12), (fun h => by simp [did, h12] at h)⟩
              | 8 =>
                simp only [List.getElem?_toArray, List.getElem?_cons_zero, List.getElem?_cons_succ, Option.some.injEq] at ho
                subst ho
                have p6 : b 6 = true := hd ⟨6, .data⟩ (by simp) rfl
                have p7 : b 7 = true := hd ⟨7, .data⟩ (by simp) rfl
                have e76 := (ev 6 76 rfl p6).trans (vv6 g)
                have e77 := (ev 7 77 rfl p7).trans (vv7 g)
                have h12 : b 12 = false := by cases h : b 12; rfl; rw [hcl 9 _ rfl (hcl 10 _ rfl (hcl 12 _ rfl h ⟨10, .data⟩ (by simp) rfl) ⟨9, .data⟩ (by simp) rfl) ⟨8, .data⟩ (by simp) rfl] at hb; cases hb
                refine doesg_value rfl (by intro c h; cases h) (v := .pointer (some ⟨gq, i * 2, none⟩)) (w' := W) ?_ ⟨g, fun _ _ => rfl, (vv8 g).symm, ?_⟩
                · simp [execOp, go_sem, e76, e77, hltI]
                · exact ⟨(fun _ => hS.1 h12), (fun h => by simp [did, h12] at h)⟩
              | 9 =>
                simp only [List.getElem?_toArray, List.getElem?_cons_zero, List.getElem?_cons_succ, Option.some.injEq] at ho
                subst ho
                have p8 : b 8 = true := hd ⟨8, .data⟩ (by simp) rfl
                have e78 := (ev 8 78 rfl p8).trans (vv8 g)
                have h12 : b 12 = false := by cases h : b 12; rfl; rw [hcl 10 _ rfl (hcl 12 _ rfl h ⟨10, .data⟩ (by simp) rfl) ⟨9, .data⟩ (by simp) rfl] at hb; cases hb
                refine doesg_value rfl (by intro c h; cases h) (v := .pointer (some ⟨gq, i * 2 + 1, none⟩)) (w' := W) ?_ ⟨g, fun _ _ => rfl, (vv9 g).symm, ?_⟩
                · simp [execOp, go_sem, e78]
                · exact ⟨(fun _ => hS.1 h12), (fun h => by simp [did, h12] at h)⟩
              | 10 =>
                simp only [List.getElem?_toArray, List.getElem?_cons_zero, List.getElem?_cons_succ, Option.some.injEq] at ho
                subst ho
                have p9 : b 9 = true := hd ⟨9, .data⟩ (by simp) rfl
                have e79 := (ev 9 79 rfl p9).trans (vv9 g)
                have h12 : b 12 = false := by cases h : b 12; rfl; rw [hcl 12 _ rfl h ⟨10, .data⟩ (by simp) rfl] at hb; cases hb
                have hl : W.cell? ⟨gq, i * 2 + 1, none⟩ = some (.slice (some ⟨ga, 0, none⟩) 512 512) := by rw [hS.1 h12]; exact d1
                refine doesg_value rfl (by intro c h; cases h) (v := .slice (some ⟨ga, 0, none⟩) 512 512) (w' := W) ?_ ⟨g, fun _ _ => rfl, (vv10 g).symm, ?_⟩
                · simp [execOp, go_sem, e79, hl]
                · exact ⟨(fun _ => hS.1 h12), (fun h => by simp [did, h12] at h)⟩
              | 11 =>
                simp only [List.getElem?_toArray, List.getElem?_cons_zero, List.getElem?_cons_succ, Option.some.injEq] at ho
                subst ho
                have p0 : b 0 = true := hd ⟨0, .data⟩ (by simp) rfl
                have p5 : b 5 = true := hd ⟨5, .data⟩ (by simp) rfl
                have e70 := (ev 0 70 rfl p0).trans (vv0 g)
                have e75 := (ev 5 75 rfl p5).trans (vv5 g)
                have h12 : b 12 = false := by cases h : b 12; rfl; rw [hcl 12 _ rfl h ⟨11, .data⟩ (by simp) rfl] at hb; cases hb
                refine doesg_value rfl (by intro c h; cases h) (v := .pointer (some ⟨gx, k, none⟩)) (w' := W) ?_ ⟨g, fun _ _ => rfl, (vv11 g).symm, ?_⟩
                · simp [execOp, go_sem, e70, e75, hkI]
                · exact ⟨(fun _ => hS.1 h12), (fun h => by simp [did, h12] at h)⟩
              | 12 =>
                simp only [List.getElem?_toArray, List.getElem?_cons_zero, List.getElem?_cons_succ, Option.some.injEq] at ho
                subst ho
                have p11 : b 11 = true := hd ⟨11, .data⟩ (by simp) rfl
                have p10 : b 10 = true := hd ⟨10, .data⟩ (by simp) rfl
                have e81 := (ev 11 81 rfl p11).trans (vv11 g)
                have e80 := (ev 10 80 rfl p10).trans (vv10 g)
                obtain rfl := hS.1 hb
                have fk' : wr.drew.frozen? ⟨gx, k, none⟩ = false := fk
                have ek' : wr.drew.cell? ⟨gx, k, none⟩ = some (.slice (some ⟨gi, oi, none⟩) 512 ci) := ek
                refine doesg_skip rfl (by intro c h; cases h) (w' := wr.drew.setCell ⟨gx, k, none⟩ (.slice (some ⟨ga, 0, none⟩) 512 512)) ?_ ⟨g, fun _ _ => rfl, (vv12 g).symm, ?_⟩
                · simp [execOp, go_sem, e81, e80, fk', ek']
                · exact ⟨(fun h => by simp [did] at h), (fun _ => rfl)⟩
              | k + 13 => simp at ho
            · intro g b' W2 hS hall
              obtain rfl := hS.2 (hall 12 (by simp))
              clear hS hall d0 d1 ek fk
              simp only [mvL, putAll, List.setIfInBounds_toArray, List.set_cons_zero, List.set_cons_succ]
              go_wp2
              exact ⟨⟨i + 1, by omega, by go_num, HN.out⟩, by simp [intOf]; omega⟩
          · obtain rfl : i = ps.length := by omega
            have hltI : ¬ (ps.length : Int) < ps.length := by omega
            obtain ⟨cs3, hg3, _⟩ := H3.out.2.1
            have tagX : ∀ cs t' fr, w3.heap[gx]? = some (.cells cs t' fr) → t' = 55 := fun cs t' fr hk => by
              rw [hg3] at hk
              simp only [Option.some.injEq, Obj.cells.injEq] at hk
              exact hk.2.1.symm
            have hI3 := H2.out.1.below H3.out.2.2
            have hMe : ModelAt wr base mB t (some ⟨gp, op, none⟩) nb c := (H2.out.2.2.2.2.2.1.below H3.out.2.2).but HX.out.2 (fun g cs t' fr hk ht e => by
              subst e
              have := tagX _ _ _ hk
              rcases ht with rfl | rfl <;> exact absurd this (by decide))
            have hRe : RowsAt wr (some ⟨gx, 0, none⟩) nb (laidB (pms ps gs) bs ps.length) := HX.out.1.rows HX.out.2 ⟨cs3, hg3⟩
            have hIe : VI wr s1 := hI3.but HX.out.2 (fun k hk e => by subst e; exact hI3.other hg3 (by decide) (by decide) (by decide) hk) (fun g cs t' fr hk ht e => by
              subst e
              have := tagX _ _ _ hk
              rcases ht with rfl | rfl <;> exact absurd this (by decide))
            obtain ⟨vA, yA, csA, h1A, h2A, h3A⟩ := hMe.at_
            obtain ⟨gA2, cA2, rfl, hgA, _⟩ := h2A.form (Nat.succ_pos _)
            have m0 := cellOf h1A 0
            have f0 := frozenOf h1A 0
            simp at m0
            obtain ⟨r0, hr0, hq0, hq1, hq2⟩ := info_parts Tryz.infoRowsA
            have hz1 := HW.out.1.size
            have hz2 := H2.out.2.1.but.size
            have hz3 := H3.out.2.2.size
            have hz4 := HX.out.2.size
            have hbe : base ≤ wr.heap.size := by omega
            have HE : Hid (VI wr s1 ∧ RowsAt wr (some ⟨gx, 0, none⟩) nb (laidB (pms ps gs) bs ps.length) ∧ wr.heap[mB]? = some (.cells #[Value.slice (some ⟨gA2, 0, none⟩) (t + 1) cA2, yA] 40 (0, 0)) ∧ wr.ownsRow base 35 1 (.slice (some ⟨gA2, 0, none⟩) (t + 1) cA2) (t + 1) (csA ++ [.slice (some ⟨gp, op, none⟩) nb c])) := ⟨hIe, hRe, h1A, h2A⟩
            clear hg3 tagX hI3 hMe hRe hIe h1A h2A
            go_wp2_with (at_builtin; refine Stop.out ?_)
            refine Stop.mk ?_
            refine wpList_append_own_at _ rfl _ _ 38 rfl base 35 r0 (.slice none 0 0) 1 24 Tryz.underlying38 hr0 hq0 hq1 hq2 rfl (by decide) (.slice (some ⟨gA2, 0, none⟩) (t + 1) cA2) (t + 1) _ rfl (own_belowT HE.out.2.2.2 ((Below.refl _ wr).alloc (Nat.le_refl _) _)) ⟨wr.heap.size, 0, none⟩ 1 1 [.slice (some ⟨gx, 0, none⟩) nb cx] rfl rfl (cell_one_new _ _ _) (by intro u hu; rw [List.mem_singleton.1 hu]; rfl) (by unfold maxLen; omega) (by omega) (by simp; omega) ?_
            intro v9 w9 hown9 hg9 _ _
            obtain ⟨g9, cap9, rfl, _, _⟩ := hown9.form (by omega)
            have hma : (wr.alloc (.cells #[Value.slice (some ⟨gx, 0, none⟩) nb cx] 35)).heap[mB]? = some (.cells #[Value.slice (some ⟨gA2, 0, none⟩) (t + 1) cA2, yA] 40 (0, 0)) := (Below.heap_alloc wr _ mB (Array.getElem?_eq_some_iff.1 HE.out.2.2.1).1).trans HE.out.2.2.1
            have hra := own_belowT HE.out.2.2.2 ((Below.refl wr.heap.size wr).alloc (Nat.le_refl _) (.cells #[Value.slice (some ⟨gx, 0, none⟩) nb cx] 35))
            have hm9 : w9.heap[mB]? = some (.cells #[Value.slice (some ⟨gA2, 0, none⟩) (t + 1) cA2, yA] 40 (0, 0)) := (hg9.block mB (Array.getElem?_eq_some_iff.1 hma).1 (fun e => absurd (own_tag hra e.symm hma) (by decide))).trans hma
            have n0 := cellOf hm9 0
            have g0 := frozenOf hm9 0
            simp at n0
            have hPush := ModelAt.push hma (by simp [h3A]) hown9 hg9 (fun g cs' t' fr e hk => own_tag hra e hk)
            have H9 : Hid (ModelAt (w9.setCell ⟨mB, 0, none⟩ (.slice (some ⟨g9, 0, none⟩) (t + 1 + 1) cap9)) base mB (t + 1) (some ⟨gx, 0, none⟩) nb cx ∧ But (fun k => k = gA2 ∨ k = mB) wr (w9.setCell ⟨mB, 0, none⟩ (.slice (some ⟨g9, 0, none⟩) (t + 1 + 1) cap9))) := ⟨hPush, (((But.refl (fun k => k = gA2 ∨ k = mB) wr).alloc _).trans (But.of_grown hg9 fun k e => .inl (by simpa [Value.ownBlock] using e.symm))).setCell _ (.inr rfl) _⟩
            clear hPush hown9 hg9 hma hra hm9 m0 f0
            go_wp2
            go_ret
            obtain ⟨hI, hz, hsv', hsa, hsn, hsc, hcont, hM, hR, hlo⟩ := HS.out
            obtain ⟨hI2, hS1, hz1', hc1, hcont1, _, _⟩ := H2.out
            obtain ⟨hIe, hRe, hme, hre⟩ := HE.out
            obtain ⟨hM9, hb9⟩ := H9.out
            have tagA : ∀ cs t' fr, wr.heap[gA2]? = some (.cells cs t' fr) → t' = 35 := fun cs t' fr hk => own_tag hre rfl hk
            have tagM : ∀ cs t' fr, wr.heap[mB]? = some (.cells cs t' fr) → t' = 40 := fun cs t' fr hk => by
              rw [hme] at hk
              simp only [Option.some.injEq, Obj.cells.injEq] at hk
              exact hk.2.1.symm
            obtain ⟨curA3, hblkA2⟩ : ∃ cur, wr.heap[gA2]? = some (.cells cur 35 (0, 0)) := by
              rcases hre.2 with ⟨e, _⟩ | ⟨g, cap, cur, e, _, hb, _⟩
              · cases e
              · cases e
                exact ⟨cur, hb⟩
            have hIf := hIe.but hb9 (fun k hk e => by
              rcases e with rfl | rfl
              · exact hIe.other hblkA2 (by decide) (by decide) (by decide) hk
              · exact hIe.other hme (by decide) (by decide) (by decide) hk) (fun g cs t' fr hk ht e => by
              rcases e with rfl | rfl
              · have := tagA _ _ _ hk; rcases ht with rfl | rfl <;> exact absurd this (by decide)
              · have := tagM _ _ _ hk; rcases ht with rfl | rfl <;> exact absurd this (by decide))
            have hRf := hRe.but hb9 (fun g cs t' fr hk ht e => by
              rcases e with rfl | rfl
              · have := tagA _ _ _ hk; rcases ht with rfl | rfl <;> exact absurd this (by decide)
              · have := tagM _ _ _ hk; rcases ht with rfl | rfl <;> exact absurd this (by decide))
            have low0 : ∀ k, s.mine k → B0 ≤ k := fun k hk => hlo k (.inl hk)
            have low1 := hS1.lowly (B := B0) (by omega) low0
            have BW : Below B0 w W := HW.out.1.mono (by omega)
            have Bd : Below B0 w w2 := BW.trans (hS1.but.below (by omega) low0)
            have B3 : Below B0 w w3 := Bd.trans (H3.out.2.2.mono (by omega))
            have hgxl := H3.out.1
            have Be : Below B0 w wr := B3.trans (HX.out.2.below (by omega) (fun k e => by subst e; omega))
            have hlomB := hlo mB (.inr rfl)
            have Bf := Be.trans (hb9.below (B := B0) (by omega) (fun k e => by rcases e with rfl | rfl <;> omega))
            refine ⟨rfl, ⟨t + 1, Nat.le_refl _, ⟨s1, some ⟨gx, 0, none⟩, cx, laidB (pms ps gs) bs ps.length, hIf, hz1', hS1.v.trans hsv', by rw [hS1.near.a]; exact hsa, by rw [hS1.n]; exact hsn, by rw [hc1, hsc], fun i hi => ?_, hM9, hRf, ?_⟩⟩, Bf⟩
            · rw [hcont1 i (by rw [← HW.out.2.2.2]; exact hi), hcont i hi]
              unfold laidB
              rw [List.take_of_length_le (by rw [pms_length]; exact Nat.le_refl _)]
            · rintro k (hk | rfl)
              · exact low1 k hk
              · exact hlomB
end Go.Proofs.YtphedokdckoccaaGreatDoor

/-
  begun of the law: a device of 40 blocks, formatted, mounted, one commit, synced, crashed, mounted again.
-/
namespace Go.Proofs.YtphedokdckoccaaGreatDoor
open Go.RowKit Go.Maps Go.Sort Go.Shelf

set_option maxRecDepth 8000 in
set_option maxHeartbeats 4000000 in
theorem begun_true (w : World) (ht : Tab w) : Calls Tryz.prog 11 #[] w fun e w' => e = .returned (.bool true) ∧ Below w.heap.size w w' := by
  have c21 := dev_new 40 w (by omega) (by omega)
  have HT : Hid (Tab w) := ht
  clear ht
  go_enter Tryz.func11, Tryz.ntmps11
  go_wp2_with (go_at_call 52; refine c21.mono ?_; rintro e w1 ⟨a, s, c, m, rfl, hd1, hB1, ha1, hs1, hm1⟩; clear c21; refine Stop.out ?_)
  refine Stop.mk ?_
  have ht1 : Tab w1 := below_tab hB1 HT.out.lt HT.out
  have cF := format_ok (newDS a s c m 40) w1 hd1 ht1 (by simp [newDS]) (fun i _ => rfl) (fun h => by cases h) (by simp [newDS])
  have H1 : Hid (Dev w1 (newDS a s c m 40) ∧ Tab w1) := ⟨hd1, ht1⟩
  have HL1 : Hid (Below w.heap.size w w1 ∧ ∀ k, (newDS a s c m 40).mine k → w.heap.size ≤ k) := ⟨hB1, by rintro k (rfl | rfl | rfl); exact ha1; exact hs1; exact hm1⟩
  clear hd1 hB1 ha1 hs1 hm1 ht1
  go_wp2_with (go_at_call 53; refine cF.mono ?_; rintro e w2 ⟨d2, rfl, hb2, hn2, hd2, hdn2, hD2, hB2, hcn2, hfu2⟩; clear cF; refine Stop.out ?_)
  refine Stop.mk ?_
  have ht2 : Tab w2 := hb2.tab H1.out.2 (H1.out.1.noTab H1.out.2)
  have hn40 : d2.n = 40 := hdn2
  have hnb : nbOf d2.n = 8 := by rw [hn40]; rfl
  have hfu2' : d2.fused = false := hfu2
  have hcn2' : d2.count = 4 := hcn2
  have hdd2 : d2.dead = false := by unfold DS.dead; rw [hfu2']; rfl
  have cM := mount_ok [] 1 0 d2 w2 hd2 ht2 (by omega) hdd2 hD2 (by rw [hB2, hdn2]; simp [upd]) (by omega) (by omega) (by
    refine ⟨by omega, fun _ => ?_⟩
    rw [hB2, hnb]
    simp only [upd]
    exact oldB_zero _)
  have ea2 : d2.a = a := hn2.a
  rw [ea2] at cM
  have H2 : Hid (Dev w2 d2 ∧ Tab w2) := ⟨hd2, ht2⟩
  have HL2 : Hid (Below w.heap.size w w2 ∧ ∀ k, d2.mine k → w.heap.size ≤ k) := by
    obtain ⟨h1, h2⟩ := HL1.out
    refine ⟨h1.trans (hb2.below h1.size h2), ?_⟩
    rintro k (e | e | e)
    · exact h2 k (.inl (e.trans hn2.a))
    · exact h2 k (.inr (.inl (e.trans hn2.s)))
    · rcases hn2.m with e2 | e2
      · exact h2 k (.inr (.inr (e.trans e2)))
      · have := h1.size; omega
  clear hd2 ht2 hb2
  go_wp2_with (go_at_call 19; refine cM.mono ?_; rintro e w3 ⟨v, f, rfl, hM⟩; clear cM; refine Stop.out ?_)
  refine Stop.mk ?_
  have HM : Hid (Mounted w2 w3 v d2 (0 + ([] : List Rec).length) 1 f []) := hM
  clear hM
  have cv : (convert 55 55 (.slice (some ⟨w3.heap.size, 0, none⟩) 1 1)).run Tryz.prog (w3.alloc (.cells #[.int .u8 120] 5)) = .ok (.slice (some ⟨w3.heap.size, 0, none⟩) 1 1) (w3.alloc (.cells #[.int .u8 120] 5 (1, 2))) := Lib.run_convert_bytes_const w3 55 5 #[.int .u8 120] 1 1 Tryz.underlying55 Tryz.underlying5
  obtain ⟨w4, hw4⟩ : ∃ w4, w4 = w3.alloc (.cells #[.int .u8 120] 5 (1, 2)) := ⟨_, rfl⟩
  have hB4 : Below w3.heap.size w3 w4 := by rw [hw4]; exact (Below.refl _ w3).alloc (Nat.le_refl _) _
  have hx4 : w4.heap[w3.heap.size]? = some (.cells #[.int .u8 120] 5 (1, 2)) := by rw [hw4]; exact heap_alloc_new w3 _
  have cFu : Calls Tryz.prog 30 #[.slice (some ⟨w3.heap.size, 0, none⟩) 1 1, .int .i64 512] w4 fun e w' => e = .returned (.slice (some ⟨w4.heap.size, 0, none⟩) 512 512) ∧ w'.heap[w4.heap.size]? = some (.cells ((List.replicate 512 (120 : BitVec 8)).map u8v).toArray 5 (0, 0)) ∧ Below w4.heap.size w4 w' := by
    have := full_any [120] (some ⟨w3.heap.size, 0, none⟩) 1 512 w4 (by omega) (by simp) (fun _ => ⟨_, _, rfl, fun j x hj => by
      have h0 : j = 0 := by have := (List.getElem?_eq_some_iff.1 hj).1; simp at this; omega
      subst h0
      have e := cellOf hx4 0
      simp at hj
      subst hj
      simpa using e⟩)
    refine this.mono ?_
    rintro e w' ⟨rfl, h1, h2⟩
    refine ⟨rfl, ?_, h2⟩
    rw [h1]
    have : (full [120] 512).map u8 = (List.replicate 512 (120 : BitVec 8)).map u8v := by
      apply List.ext_getElem?
      intro i
      by_cases hi : i < 512
      · rw [List.getElem?_map, List.getElem?_map, List.getElem?_replicate, if_pos hi]
        simp [full, hi, u8, u8v, Nat.mod_one]
      · rw [List.getElem?_eq_none (by simp [full]; omega), List.getElem?_eq_none (by simp; omega)]
    rw [this]
  go_wp2_with (go_at_call 30; rw [← hw4]; refine cFu.mono ?_; rintro e w5 ⟨rfl, hx5, hB5⟩; clear cFu cv; refine Stop.out ?_)
  refine Stop.mk ?_
  have hs4 : w4.heap.size = w3.heap.size + 1 := by rw [hw4]; simp
  clear hw4
  rw [hs4] at hx5
  have hB35 : Below w3.heap.size w3 w5 := hB4.trans (hB5.mono hB4.size)
  obtain ⟨pm, hpm⟩ : ∃ pm : List PutM, pm = [⟨3, some ⟨w3.heap.size + 1, 0, none⟩, 512, List.replicate 512 120⟩] := ⟨_, rfl⟩
  have hpl : pm.length = 1 := by rw [hpm]; rfl
  have hpg : pagesFor pm.length = 2 := by rw [hpl]; rfl
  obtain ⟨w6, hw6⟩ : ∃ w6, w6 = w5.alloc (.cells #[.int .i64 3, .slice (some ⟨w3.heap.size + 1, 0, none⟩) 512 512] 91) := ⟨_, rfl⟩
  have hB56 : Below w5.heap.size w5 w6 := by rw [hw6]; exact (Below.refl _ w5).alloc (Nat.le_refl _) _
  have hx6 : w6.heap[w5.heap.size]? = some (.cells #[.int .i64 3, .slice (some ⟨w3.heap.size + 1, 0, none⟩) 512 512] 91 (0, 0)) := by rw [hw6]; exact heap_alloc_new w5 _
  have hy6 : w6.heap[w3.heap.size + 1]? = some (.cells ((List.replicate 512 (120 : BitVec 8)).map u8v).toArray 5 (0, 0)) := below_block hx5 hB56
  have hB36 : Below w3.heap.size w3 w6 := hB35.trans (hB56.mono hB35.size)
  have hM := HM.out
  have hv6 : IsVol w6 v (dp d2.a) 0 1 d2.n (some f) d2.count := hM.vol.below hB36
  have hd3 : Dev w3 d2 := H2.out.1.below hM.below
  have hd6 : Dev w6 d2 := hd3.below hB36
  have ht3 : Tab w3 := below_tab hM.below H2.out.2.lt H2.out.2
  have ht6 : Tab w6 := below_tab hB36 ht3.lt ht3
  have hown : w6.ownsMap Tryz.prog 3 slElem f 0 (.map []) := by
    obtain ⟨F, hF⟩ := hM.fr
    have hlt := hF.own.lt
    obtain ⟨es, clock, he, hk, hle, hF'⟩ := hF.own
    have hes : es = #[] := by apply Array.eq_empty_of_size_eq_zero; simpa using hle
    subst hes
    exact ⟨#[], clock, (hB36.block f hlt).trans he, hk, Nat.le_refl _, rfl⟩
  have hfm : f ≠ d2.m := by
    have h1 := hM.flt
    have h2 := H2.out.1.mlt
    omega
  have hps : PutsAt w6 (some ⟨w5.heap.size, 0, none⟩) pm := by
    refine ⟨fun _ => ⟨_, _, rfl, ⟨_, _, hx6⟩, fun j x hj => ?_⟩, fun j x hj => ?_⟩
    · have h0 : j = 0 := by have := (List.getElem?_eq_some_iff.1 hj).1; omega
      subst h0
      rw [hpm] at hj
      simp only [List.getElem?_cons_zero, Option.some.injEq] at hj
      subst hj
      refine ⟨by have := cellOf hx6 0; simpa using this, by have := cellOf hx6 1; simpa using this⟩
    · have h0 : j = 0 := by have := (List.getElem?_eq_some_iff.1 hj).1; omega
      subst h0
      rw [hpm] at hj
      simp only [List.getElem?_cons_zero, Option.some.injEq] at hj
      subst hj
      refine ⟨by simp, bytes_block hy6, fun b o e => ?_⟩
      simp only [Option.some.injEq, Addr.mk.injEq] at e
      rw [← e.1]
      exact ⟨_, _, hy6⟩
  have hrec : recOf pm = [(3, List.replicate 512 120)] := by rw [hpm]; rfl
  have hgood : pm.all (goodPut (nbOf d2.n)) = true := by rw [hpm, hnb]; simp [goodPut]
  have cC := vCommit_restart (some ⟨w5.heap.size, 0, none⟩) pm 1 v 0 1 d2.n f 0 d2 w6 hv6 hd6 ht6 (by omega) hps hgood (by omega) (by omega) (by rw [hpg]; omega) (Nat.le_refl _) (by rw [hpg]; omega) hown hfm (by omega) (by omega) hfu2' (by omega)
  rw [hpl] at cC
  have H6 : Hid (Tab w6 ∧ IsVol w6 v (dp d2.a) 0 1 d2.n (some f) d2.count ∧ Dev w6 d2) := ⟨ht6, hv6, hd6⟩
  have HL6 : Hid (Below w.heap.size w w6 ∧ w.heap.size ≤ v) := by
    have h1 := HL2.out.1
    have h3 := h1.trans (hM.below.mono h1.size)
    exact ⟨h3.trans (hB36.mono h3.size), Nat.le_trans h1.size hM.vlt⟩
  clear hB35 hB56 hx6 hy6 hB36 hM hv6 hd3 hd6 ht3 ht6 hown hps hgood hx5 hB5 hx4 hB4 hs4
  go_wp2_with (go_at_call 54; rw [← hw6]; refine cC.mono ?_; rintro e w7 ⟨rfl, d7, f7, hC⟩; clear cC; refine Stop.out ?_)
  refine Stop.mk ?_
  clear hw6
  have ea7 : d7.a = a := hC.near.a.trans ea2
  have hc7 : d7.count = 10 := by rw [hC.count, hcn2', hpg]; rfl
  have hf7 : d7.fused = false := hC.fused.trans hfu2'
  have hv7 := hC.vol
  rw [← hC.near.a] at hv7
  have ht7 : Tab w7 := hC.but.tab H6.out.1 (by rintro (e | e); exact H6.out.2.1.noTab H6.out.1 e; exact H6.out.2.2.noTab H6.out.1 e)
  have cS := vSync_ok v _ _ _ _ d7 w7 hv7 hC.dev (fun h => by rw [hf7] at h; cases h) (by omega)
  have H7 : Hid (Cmt w6 w7 v 0 1 pm d2 d7 f7 ∧ Tab w7) := ⟨hC, ht7⟩
  have HL7 : Hid (Below w.heap.size w w7 ∧ ∀ k, (k = v ∨ d7.mine k) → w.heap.size ≤ k) := by
    obtain ⟨h1, h2⟩ := HL6.out
    have h3 := HL2.out.2
    refine ⟨h1.trans (hC.but.below h1.size (by rintro k (e | e); exact e ▸ h2; exact h3 k e)), ?_⟩
    rintro k (e | e | e | e)
    · exact e ▸ h2
    · exact h3 k (.inl (e.trans hC.near.a))
    · exact h3 k (.inr (.inl (e.trans hC.near.s)))
    · rcases hC.near.m with e2 | e2
      · exact h3 k (.inr (.inr (e.trans e2)))
      · have := h1.size; omega
  clear hC hv7 ht7
  go_wp2_with (go_at_call 18; refine cS.mono ?_; rintro e w8 ⟨m8, rfl, hm8, hv8, hd8, hb8⟩; clear cS; refine Stop.out ?_)
  refine Stop.mk ?_
  have ht8 : Tab w8 := by
    have hv7 := H7.out.1.vol
    exact hb8.tab H7.out.2 (by rintro (e | e); exact hv7.noTab H7.out.2 e; exact H7.out.1.dev.noTab H7.out.2 e)
  have cX := dev_crash_flushed (d7.flushed m8) w8 hd8 rfl
  rw [show (d7.flushed m8).a = a from ea7] at cX
  have H8 : Hid (Tab w8) := ht8
  have HL8 : Hid (Below w.heap.size w w8) := HL7.out.1.trans (hb8.below HL7.out.1.size HL7.out.2)
  clear hv8 hd8 hb8 ht8 hm8
  go_wp2_with (go_at_call 20; refine cX.mono ?_; rintro e w9 ⟨a9, s9, c9, m9, rfl, hd9, hB9, _, _, _⟩; clear cX; refine Stop.out ?_)
  refine Stop.mk ?_
  have ht9 : Tab w9 := below_tab hB9 H8.out.lt H8.out
  obtain ⟨d9, hd9e⟩ : ∃ d9, d9 = { newDS a9 s9 c9 m9 (d7.flushed m8).n with B := (d7.flushed m8).B } := ⟨_, rfl⟩
  rw [← hd9e] at hd9
  have hn9 : d9.n = 40 := by rw [hd9e]; exact H7.out.1.n.trans hn40
  have hnb9 : nbOf d9.n = 8 := by rw [hn9]; rfl
  have ea9 : d9.a = a9 := by rw [hd9e]; rfl
  have hB9' : d9.B = laidP (upd d2.B 0 (headB 2 0 d2.n)) 9 ((List.range 2).map fun k => pageB 2 (recOf pm) k) := by
    rw [hd9e]
    show d7.B = _
    rw [H7.out.1.B, hpg, hnb]
  have hD9 : d9.D = .map [] := by rw [hd9e]; rfl
  have hdd9 : d9.dead = false := by rw [hd9e]; rfl
  have cM2 := mount_ok [recOf pm] 2 0 d9 w9 hd9 ht9 (by omega) hdd9 hD9 (by rw [hB9', hn9, ← hn40]; simp [laidP, upd]) (by omega) (by omega) (by
    rw [hnb9]
    refine ⟨⟨by rw [hrec]; simp, by rw [hrec]; simp, fun p hp => ?_⟩, ?_, fun i hi => ?_, ?_, fun _ => ?_⟩
    · rw [hrec] at hp
      simp only [List.mem_singleton] at hp
      subst hp
      simp
    · rw [hrec, hn9]; decide
    · have hi2 : i < 2 := by rw [hrec] at hi; exact hi
      rw [hB9']
      unfold laidP
      rw [if_pos (by omega), show 1 + 8 + i - 9 = i by omega, List.getElem?_map, List.getElem?_range hi2]
      rfl
    · rw [hrec, hn9]; decide
    · rw [hrec, hB9', hB2]
      show OldB 2 (laidP _ 9 _ 11)
      simp only [laidP, upd]
      exact oldB_zero _)
  rw [ea9] at cM2
  have H9 : Hid (Dev w9 d9) := hd9
  have HL9 : Hid (Below w.heap.size w w9) := HL8.out.trans (hB9.mono HL8.out.size)
  clear hd9 hB9 ht9 hB9' hD9
  go_wp2_with (go_at_call 19; refine cM2.mono ?_; rintro e wa ⟨va, fa, rfl, hMa⟩; clear cM2; refine Stop.out ?_)
  refine Stop.mk ?_
  obtain ⟨F, hF⟩ := hMa.fr
  have hda : Dev wa d9 := H9.out.below hMa.below
  have hva := hMa.vol
  have cR := vRead_fresh 3 (List.replicate 512 120) va _ _ _ fa _ F _ d9 wa hva hda (by omega) hF (by omega) (by rw [hrec]; rfl)
  have HA : Hid (IsVol wa va (dp d9.a) 1 2 d9.n (some fa) d9.count ∧ Dev wa d9) := ⟨hva, hda⟩
  have HLa : Hid (Below w.heap.size w wa) := HL9.out.trans (hMa.below.mono HL9.out.size)
  clear hF hda hva hMa
  go_wp2_with (go_at_call 38; refine cR.mono ?_; rintro e wb ⟨gb, cpb, rfl, hcpb, _, hbb, hBb, hgb⟩; clear cR; refine Stop.out ?_)
  refine Stop.mk ?_
  obtain ⟨g', o', e', hxb⟩ := hbb (by simp)
  cases e'
  have xb : ∀ W : World, Below wb.heap.size wb W → W.cell? ⟨gb, 9, none⟩ = some (.int .u8 120) := by
    intro W hW
    have hc := hxb 9 120 (by simp)
    have hc' : wb.cell? ⟨gb, 9, none⟩ = some (.int .u8 120) := by simpa [u8v] using hc
    exact (hW.cell (p := ⟨gb, 9, none⟩) (cell_lt hc')).trans hc'
  have hvb := HA.out.1.below hBb
  have hdb := HA.out.2.below hBb
  have cCm := fun k => vCommits va 1 2 d9.n (some fa) d9 (wb.drewN k) hvb (hdb.drewN k)
  have cBl := fun k => vBlocks va 1 2 d9.n (some fa) d9.count d9 (wb.drewN k) hvb (hdb.drewN k) (by omega)
  rw [hnb9] at cBl
  have HLb : Hid (Below w.heap.size w wb) := HLa.out.trans (hBb.mono HLa.out.size)
  have xb0 := xb wb (Below.refl _ _)
  clear hxb hvb hdb xb
  have cC0 : Calls Tryz.prog 17 #[dp va] wb fun e w' => e = .returned (.int .i64 1) ∧ ∃ k, w' = wb.drewN k := cCm 0
  clear cCm
  go_wp2_with (first
    | (go_at_call 17; refine cC0.mono ?_; rintro e wc ⟨rfl, kc, rfl⟩; clear cC0; have cB0 := cBl kc; clear cBl)
    | (go_at_call 55; refine Calls_on cB0 ?_))
  go_ret
  exact ⟨rfl, below_drewN HLb.out _⟩

end Go.Proofs.YtphedokdckoccaaGreatDoor

/-
  WalCommits of the law.
-/
namespace Go.Proofs.YtphedokdckoccaaGreatDoor
open Go.RowKit Go.Maps Go.Sort Go.Shelf

/-- An act of the law. -/
structure LA where
  sync : Bool
  q : Option Addr
  cap : Nat
  ps : List LP
def LActsAt (w : World) (p : Option Addr) (xs : List LA) : Prop :=
  (0 < xs.length → ∃ g o, p = some ⟨g, o, none⟩ ∧ ∀ (j : Nat) (x : LA), xs[j]? = some x → w.cell? ⟨g, o + j * 2, none⟩ = some (.bool x.sync) ∧ w.cell? ⟨g, o + j * 2 + 1, none⟩ = some (.slice x.q x.ps.length x.cap)) ∧
  ∀ (j : Nat) (x : LA), xs[j]? = some x → x.ps.length ≤ 3518437208883 ∧ LPutsAt w x.q x.ps
theorem LActsAt.below {w w' : World} {q : Option Addr} {ps : List LA} (h : LActsAt w q ps) (hb : Below w.heap.size w w') : LActsAt w' q ps := by
  refine ⟨fun hl => ?_, fun j x hj => ⟨(h.2 j x hj).1, (h.2 j x hj).2.below hb⟩⟩
  obtain ⟨g, o, e, hx⟩ := h.1 hl
  refine ⟨g, o, e, fun j x hj => ?_⟩
  obtain ⟨h1, h2⟩ := hx j x hj
  exact ⟨(hb.cell (p := ⟨g, o + j * 2, none⟩) (cell_lt h1)).trans h1, (hb.cell (p := ⟨g, o + j * 2 + 1, none⟩) (cell_lt h2)).trans h2⟩

/-- Each act on both. -/
theorem act_any (x : LA) (a v n nb mB base B0 t b : Nat) (w : World) (h : MS w a v n nb mB base B0 t b) (hps : LPutsAt w x.q x.ps) (hpl : x.ps.length ≤ 3518437208883) (hnb : nb = nbOf n) (htab : Tab w) (hb : b ≤ 900) (ht : t ≤ 900) (hB0 : B0 ≤ base) (hbs : base ≤ w.heap.size) :
    Calls Tryz.prog 14 #[dp mB, dp v, .agg #[.bool x.sync, .slice x.q x.ps.length x.cap]] w fun e w' => e = .returned (.bool true) ∧ (∃ t', t' ≤ t + 1 ∧ MS w' a v n nb mB base B0 t' (b + 1)) ∧ Below B0 w w' := by
  cases hs : x.sync with
  | true => exact (act_sync x.q x.ps.length x.cap a v n nb mB base B0 t b w h hb ht (by omega)).mono fun e w' ⟨h1, h2, h3⟩ => ⟨h1, ⟨t, by omega, h2⟩, h3⟩
  | false => exact act_commit x.q x.cap x.ps a v n nb mB base B0 t b w h hps hpl hnb htab hb ht hB0 hbs

/-- What the checks of one state answer, in a world that only has more. -/
theorem MS.now {w : World} {a v n nb mB base B0 t b : Nat} (h : MS w a v n nb mB base B0 t b) (hnb : nb = nbOf n) (ht : t ≤ 900) : ∃ p c gA cA, w.cell? ⟨mB, 0, none⟩ = some (.slice (some ⟨gA, 0, none⟩) (t + 1) cA) ∧
    (∀ W, Below w.heap.size w W → Calls Tryz.prog 16 #[dp mB] W fun e w' => e = .returned (.slice p nb c) ∧ Below w.heap.size w w') ∧
    (∀ W, Below w.heap.size w W → Calls Tryz.prog 15 #[dp v, .slice p nb c] W fun e w' => e = .returned (.bool true) ∧ Below w.heap.size w w') ∧
    (∀ W, Below w.heap.size w W → Calls Tryz.prog 17 #[dp v] W fun e w' => e = .returned (.int .i64 (t : Nat)) ∧ Below w.heap.size w w') := by
  obtain ⟨s, p, c, bs, hI, hz, rfl, hsa, hsn, hsc, hcont, hM, hR, hlo⟩ := h.st
  obtain ⟨gA, cA, m1, m2⟩ := hM.last
  refine ⟨p, c, gA, cA, m1, fun W hW => ?_, fun W hW => ?_, fun W hW => ?_⟩
  · refine (now_any mB gA t cA p nb c W ((hW.cell (p := ⟨mB, 0, none⟩) (cell_lt m1)).trans m1) ((hW.cell (p := ⟨gA, t, none⟩) (cell_lt m2)).trans m2) (by omega)).mono ?_
    rintro e w' ⟨rfl, j, rfl⟩
    exact ⟨rfl, below_drewN hW j⟩
  · refine (is_any s p nb c bs W (hI.below hW) (by rw [hsn]; exact hnb) (hR.below hW) hcont).mono ?_
    rintro e w' ⟨rfl, hB⟩
    exact ⟨rfl, hW.trans (hB.mono hW.size)⟩
  · have hI' := hI.below hW
    refine (vCommits s.v s.commits s.turn s.next (some s.f) s.d W hI'.vol hI'.dev).mono ?_
    rintro e w' ⟨rfl, j, rfl⟩
    exact ⟨by rw [hsc], below_drewN hW j⟩

/-- The loop, behind i acts. -/
structure KInv (w0 wr : World) (n nb a v mB base i : Nat) : Prop where
  st : ∃ t, t ≤ i ∧ MS wr a v n nb mB base w0.heap.size t (1 + i)
  below : Below w0.heap.size w0 wr
  low : base ≤ wr.heap.size

set_option maxRecDepth 8000 in
set_option maxHeartbeats 4000000 in
theorem commits_many (blocks : Int) (ap : Option Addr) (ac : Nat) (xs : List LA) (w : World) (ht : Tab w) (hlo : -9223372036854775808 ≤ blocks) (hhi : blocks < 9223372036854775808) (hA : LActsAt w ap xs) (hxl : xs.length < 9223372036854775808) :
    Calls Tryz.prog 3 #[.int .i64 blocks, .slice ap xs.length ac] w fun e w' => e = .returned (.bool true) ∧ Below w.heap.size w w' := by
  have hmix : Tryz.prog.follows .mixedOrders = true := by kernel_rfl
  have c1 := begun_true w ht
  have c2 := fun W => size_any blocks W hlo hhi
  have HT : Hid (Tab w ∧ LActsAt w ap xs) := ⟨ht, hA⟩
  clear ht hA
  go_enter Tryz.func3, Tryz.ntmps3
  go_wp2_with (first
    | (go_at_call 11; refine c1.mono ?_; rintro e w1 ⟨rfl, hB1⟩; clear c1)
    | (go_at_call 13; refine (c2 _).mono ?_; rintro e w2 ⟨n, rfl, hn16, hn135, rfl⟩; clear c2; have cF := fresh_any n w2 (below_tab hB1 HT.out.1.lt HT.out.1) hn16 (by omega))
    | (go_at_call 12; refine cF.mono ?_; rintro e w3 ⟨s, mB, rfl, p, c, hF⟩; clear cF; refine Stop.out ?_))
  refine Stop.mk ?_
  obtain ⟨nb, hnb⟩ : ∃ nb, nb = nbOf n := ⟨_, rfl⟩
  have B3 : Below w.heap.size w w3 := hB1.trans (hF.below.mono hB1.size)
  have hI0 : Hid (KInv w w3 n nb s.d.a s.v mB w2.heap.size 0) := by
    refine ⟨⟨0, Nat.le_refl _, ⟨s, p, c, fun _ => zeroB, hF.vi, hF.bud, rfl, rfl, hF.eqn, hF.commits, ?_, ?_, ?_, ?_⟩⟩, B3, hF.below.size⟩
    · rw [hnb]; exact hF.cont
    · rw [hnb]; exact hF.model
    · rw [hnb]; exact hF.rows
    · intro k hk; exact Nat.le_trans hB1.size (hF.new k hk)
  have HN : Hid (nb = nbOf n ∧ n ≤ 200 ∧ 16 ≤ n ∧ w.heap.size ≤ w2.heap.size) := ⟨hnb, by omega, hn16, hB1.size⟩
  generalize s.d.a = a at *
  generalize s.v = v at *
  clear hF B3 hB1 hnb
  go_wp2_with fail
  go_loopw [9] (fun ii wr => ∃ i : Nat, i ≤ xs.length ∧ i ≤ 12 ∧ ii = .int .i64 i ∧ Hid (KInv w wr n nb a v mB w2.heap.size i)) (fun ii _ => xs.length - (intOf ii).toNat)
  case atStart => exact ⟨0, Nat.zero_le _, Nat.zero_le _, rfl, hI0⟩
  case round =>
    clear hI0
    obtain ⟨i, hil, hi12, hii, HK⟩ := hrel
    subst hii
    by_cases hlt : i < xs.length ∧ i < 12
    · have hlt1 : (i : Int) < xs.length := by omega
      have hlt2 : (i : Int) < 12 := by omega
      obtain ⟨x, hx⟩ : ∃ x, xs[i]? = some x := ⟨_, List.getElem?_eq_getElem hlt.1⟩
      have hAr := HT.out.2.below HK.out.below
      obtain ⟨gq, oq, rfl, hcl⟩ := hAr.1 (by omega)
      obtain ⟨c0, c1⟩ := hcl i x hx
      obtain ⟨t, hti, hM⟩ := HK.out.st
      have cA := act_any x a v n nb mB w2.heap.size w.heap.size t (1 + i) wr hM (hAr.2 i x hx).2 (hAr.2 i x hx).1 HN.out.1 (below_tab HK.out.below HT.out.1.lt HT.out.1) (by omega) (by omega) HN.out.2.2.2 HK.out.low
      clear hAr hcl hM hx
      go_wp2_with (go_at_call 14; refine cA.mono ?_; rintro e w5 ⟨rfl, ⟨t5, ht5, hM5⟩, hB5⟩; clear cA; refine Stop.out ?_)
      refine Stop.mk ?_
      have HM5 : Hid (MS w5 a v n nb mB w2.heap.size w.heap.size t5 (1 + i + 1) ∧ Below w.heap.size w w5 ∧ w2.heap.size ≤ w5.heap.size) := ⟨hM5, HK.out.below.trans hB5, Nat.le_trans HK.out.low hB5.size⟩
      obtain ⟨pV, kV, gA, cA5, m0, cN, cI, cC⟩ := hM5.now HN.out.1 (by omega)
      clear hM5 hB5 c0 c1
      go_wp2_with fail
      have below5 : Below w5.heap.size w5 w5.drew := (Below.refl _ _).drew
      obtain ⟨LL, hLe⟩ : ∃ LL : List (Option Tmp × Value), LL = [(some 43, .bool true), (some 44, .bool false), (some 45, .bool false), (some 46, .pointer (some ⟨v, 0, none⟩)), (some 47, .pointer (some ⟨mB, 0, none⟩)), (some 48, .slice pV nb kV), (some 49, .bool true), (some 50, .bool false), (some 51, .bool false), (some 52, .bool false), (some 53, .pointer (some ⟨v, 0, none⟩)), (some 54, .int .i64 (t5 : Nat)), (some 55, .pointer (some ⟨mB, 0, none⟩)), (some 56, .pointer (some ⟨mB, 0, none⟩)), (some 57, .pointer (some ⟨mB, 0, none⟩)), (some 58, .slice (some ⟨gA, 0, none⟩) (t5 + 1) cA5), (some 59, .int .i64 ((t5 : Int) + 1)), (some 60, .int .i64 (t5 : Nat)), (some 61, .bool false), (some 62, .bool false)] := ⟨_, rfl⟩
      have vv0 : vals LL 0 = .bool true := by rw [hLe]; rfl
      have vv1 : vals LL 1 = .bool false := by rw [hLe]; rfl
      have vv2 : vals LL 2 = .bool false := by rw [hLe]; rfl
      have vv3 : vals LL 3 = .pointer (some ⟨v, 0, none⟩) := by rw [hLe]; rfl
      have vv4 : vals LL 4 = .pointer (some ⟨mB, 0, none⟩) := by rw [hLe]; rfl
      have vv5 : vals LL 5 = .slice pV nb kV := by rw [hLe]; rfl
      have vv6 : vals LL 6 = .bool true := by rw [hLe]; rfl
      have vv7 : vals LL 7 = .bool false := by rw [hLe]; rfl
      have vv8 : vals LL 8 = .bool false := by rw [hLe]; rfl
      have vv9 : vals LL 9 = .bool false := by rw [hLe]; rfl
      have vv10 : vals LL 10 = .pointer (some ⟨v, 0, none⟩) := by rw [hLe]; rfl
      have vv11 : vals LL 11 = .int .i64 (t5 : Nat) := by rw [hLe]; rfl
      have vv12 : vals LL 12 = .pointer (some ⟨mB, 0, none⟩) := by rw [hLe]; rfl
      have vv13 : vals LL 13 = .pointer (some ⟨mB, 0, none⟩) := by rw [hLe]; rfl
      have vv14 : vals LL 14 = .pointer (some ⟨mB, 0, none⟩) := by rw [hLe]; rfl
      have vv15 : vals LL 15 = .slice (some ⟨gA, 0, none⟩) (t5 + 1) cA5 := by rw [hLe]; rfl
      have vv16 : vals LL 16 = .int .i64 ((t5 : Int) + 1) := by rw [hLe]; rfl
      have vv17 : vals LL 17 = .int .i64 (t5 : Nat) := by rw [hLe]; rfl
      have vv18 : vals LL 18 = .bool false := by rw [hLe]; rfl
      have vv19 : vals LL 19 = .bool false := by rw [hLe]; rfl
      refine region_laid hmix (by kernel_rfl) 119 rfl (by kernel_rfl) LL (by rw [hLe]; rfl) (fun _ W => Below w5.heap.size w5 W) below5 ?_ ?_
      · intro b W i o a hS hcl ho hb hd ev kp yl
        match i with
        | 0 =>
          simp only [List.getElem?_toArray, List.getElem?_cons_zero, Option.some.injEq] at ho
          subst ho
          have e10 : a.tmps[10]?.getD undef = .bool true := kp 10 (by kernel_rfl)
          rw [vv0]
          refine does_value rfl (by intro c h; cases h) (w' := W) ?_ (hS)
          · simp [execOp, go_sem, e10]
        | 1 =>
          simp only [List.getElem?_toArray, List.getElem?_cons_zero, List.getElem?_cons_succ, Option.some.injEq] at ho
          subst ho
          have p0 : b 0 = true := hd ⟨0, .data⟩ (by simp) rfl
          have e43 := (ev 0 43 rfl p0).trans vv0
          rw [vv1]
          refine does_value rfl (by intro c h; cases h) (w' := W) ?_ (hS)
          · simp [execOp, go_sem, e43]
        | 2 =>
          simp only [List.getElem?_toArray, List.getElem?_cons_zero, List.getElem?_cons_succ, Option.some.injEq] at ho
          subst ho
          have p1 : b 1 = true := hd ⟨1, .data⟩ (by simp) rfl
          have e44 := (ev 1 44 rfl p1).trans vv1
          rw [vv2]
          refine does_value rfl (by intro c h; cases h) (w' := W) ?_ (hS)
          · simp [execOp, go_sem, e44]
        | 3 =>
          simp only [List.getElem?_toArray, List.getElem?_cons_zero, List.getElem?_cons_succ, Option.some.injEq] at ho
          subst ho
          have p2 : b 2 = true := hd ⟨2, .guard⟩ (by simp) rfl
          have e7 : a.tmps[7]?.getD undef = .pointer (some ⟨v, 0, none⟩) := kp 7 (by kernel_rfl)
          rw [vv3]
          refine does_value_g rfl (yl 2 45 false rfl p2 vv2) (by intro c h; cases h) (w' := W) ?_ (hS)
          · simp [execOp, go_sem, e7]
        | 4 =>
          simp only [List.getElem?_toArray, List.getElem?_cons_zero, List.getElem?_cons_succ, Option.some.injEq] at ho
          subst ho
          have p2 : b 2 = true := hd ⟨2, .guard⟩ (by simp) rfl
          have e8 : a.tmps[8]?.getD undef = .pointer (some ⟨mB, 0, none⟩) := kp 8 (by kernel_rfl)
          rw [vv4]
          refine does_value_g rfl (yl 2 45 false rfl p2 vv2) (by intro c h; cases h) (w' := W) ?_ (hS)
          · simp [execOp, go_sem, e8]
        | 5 =>
          simp only [List.getElem?_toArray, List.getElem?_cons_zero, List.getElem?_cons_succ, Option.some.injEq] at ho
          subst ho
          have p4 : b 4 = true := hd ⟨4, .data⟩ (by simp) rfl
          have p2 : b 2 = true := hd ⟨2, .guard⟩ (by simp) rfl
          have e47 := (ev 4 47 rfl p4).trans vv4
          rw [vv5]
          refine does_call_g rfl (yl 2 45 false rfl p2 vv2) (by intro c h; cases h) (f := 16) (args := #[.pointer (some ⟨mB, 0, none⟩)]) ?_ ?_
          · simp [go_sem, e47]
          · exact cN W hS
        | 6 =>
          simp only [List.getElem?_toArray, List.getElem?_cons_zero, List.getElem?_cons_succ, Option.some.injEq] at ho
          subst ho
          have p3 : b 3 = true := hd ⟨3, .data⟩ (by simp) rfl
          have p5 : b 5 = true := hd ⟨5, .data⟩ (by simp) rfl
          have p2 : b 2 = true := hd ⟨2, .guard⟩ (by simp) rfl
          have e46 := (ev 3 46 rfl p3).trans vv3
          have e48 := (ev 5 48 rfl p5).trans vv5
          rw [vv6]
          refine does_call_g rfl (yl 2 45 false rfl p2 vv2) (by intro c h; cases h) (f := 15) (args := #[.pointer (some ⟨v, 0, none⟩), .slice pV nb kV]) ?_ ?_
          · simp [go_sem, e46, e48]
          · exact cI W hS
        | 7 =>
          simp only [List.getElem?_toArray, List.getElem?_cons_zero, List.getElem?_cons_succ, Option.some.injEq] at ho
          subst ho
          have p6 : b 6 = true := hd ⟨6, .data⟩ (by simp) rfl
          have p2 : b 2 = true := hd ⟨2, .guard⟩ (by simp) rfl
          have e49 := (ev 6 49 rfl p6).trans vv6
          rw [vv7]
          refine does_value_g rfl (yl 2 45 false rfl p2 vv2) (by intro c h; cases h) (w' := W) ?_ (hS)
          · simp [execOp, go_sem, e49]
        | 8 =>
          simp only [List.getElem?_toArray, List.getElem?_cons_zero, List.getElem?_cons_succ, Option.some.injEq] at ho
          subst ho
          have p2 : b 2 = true := hd ⟨2, .data⟩ (by simp) rfl
          have p7 : b 7 = true := hd ⟨7, .data⟩ (by simp) rfl
          have e45 := (ev 2 45 rfl p2).trans vv2
          have e50 := (ev 7 50 rfl p7).trans vv7
          rw [vv8]
          refine does_value rfl (by intro c h; cases h) (w' := W) ?_ (hS)
          · simp [execOp, go_sem, e45, e50]
        | 9 =>
          simp only [List.getElem?_toArray, List.getElem?_cons_zero, List.getElem?_cons_succ, Option.some.injEq] at ho
          subst ho
          have p8 : b 8 = true := hd ⟨8, .data⟩ (by simp) rfl
          have e51 := (ev 8 51 rfl p8).trans vv8
          rw [vv9]
          refine does_value rfl (by intro c h; cases h) (w' := W) ?_ (hS)
          · simp [execOp, go_sem, e51]
        | 10 =>
          simp only [List.getElem?_toArray, List.getElem?_cons_zero, List.getElem?_cons_succ, Option.some.injEq] at ho
          subst ho
          have p9 : b 9 = true := hd ⟨9, .guard⟩ (by simp) rfl
          have e7 : a.tmps[7]?.getD undef = .pointer (some ⟨v, 0, none⟩) := kp 7 (by kernel_rfl)
          rw [vv10]
          refine does_value_g rfl (yl 9 52 false rfl p9 vv9) (by intro c h; cases h) (w' := W) ?_ (hS)
          · simp [execOp, go_sem, e7]
        | 11 =>
          simp only [List.getElem?_toArray, List.getElem?_cons_zero, List.getElem?_cons_succ, Option.some.injEq] at ho
          subst ho
          have p10 : b 10 = true := hd ⟨10, .data⟩ (by simp) rfl
          have p9 : b 9 = true := hd ⟨9, .guard⟩ (by simp) rfl
          have e53 := (ev 10 53 rfl p10).trans vv10
          rw [vv11]
          refine does_call_g rfl (yl 9 52 false rfl p9 vv9) (by intro c h; cases h) (f := 17) (args := #[.pointer (some ⟨v, 0, none⟩)]) ?_ ?_
          · simp [go_sem, e53]
          · exact cC W hS
        | 12 =>
          simp only [List.getElem?_toArray, List.getElem?_cons_zero, List.getElem?_cons_succ, Option.some.injEq] at ho
          subst ho
          have p9 : b 9 = true := hd ⟨9, .guard⟩ (by simp) rfl
          have e8 : a.tmps[8]?.getD undef = .pointer (some ⟨mB, 0, none⟩) := kp 8 (by kernel_rfl)
          rw [vv12]
          refine does_value_g rfl (yl 9 52 false rfl p9 vv9) (by intro c h; cases h) (w' := W) ?_ (hS)
          · simp [execOp, go_sem, e8]
        | 13 =>
          simp only [List.getElem?_toArray, List.getElem?_cons_zero, List.getElem?_cons_succ, Option.some.injEq] at ho
          subst ho
          have p12 : b 12 = true := hd ⟨12, .data⟩ (by simp) rfl
          have p9 : b 9 = true := hd ⟨9, .guard⟩ (by simp) rfl
          have e55 := (ev 12 55 rfl p12).trans vv12
          rw [vv13]
          refine does_value_g rfl (yl 9 52 false rfl p9 vv9) (by intro c h; cases h) (w' := W) ?_ (hS)
          · simp [execOp, go_sem, e55]
        | 14 =>
          simp only [List.getElem?_toArray, List.getElem?_cons_zero, List.getElem?_cons_succ, Option.some.injEq] at ho
          subst ho
          have p13 : b 13 = true := hd ⟨13, .data⟩ (by simp) rfl
          have p9 : b 9 = true := hd ⟨9, .guard⟩ (by simp) rfl
          have e56 := (ev 13 56 rfl p13).trans vv13
          rw [vv14]
          refine does_value_g rfl (yl 9 52 false rfl p9 vv9) (by intro c h; cases h) (w' := W) ?_ (hS)
          · simp [execOp, go_sem, e56]
        | 15 =>
          simp only [List.getElem?_toArray, List.getElem?_cons_zero, List.getElem?_cons_succ, Option.some.injEq] at ho
          subst ho
          have p14 : b 14 = true := hd ⟨14, .data⟩ (by simp) rfl
          have p9 : b 9 = true := hd ⟨9, .guard⟩ (by simp) rfl
          have e57 := (ev 14 57 rfl p14).trans vv14
          have hl := (hS.cell (p := ⟨mB, 0, none⟩) (cell_lt m0)).trans m0
          rw [vv15]
          refine does_value_g rfl (yl 9 52 false rfl p9 vv9) (by intro c h; cases h) (w' := W) ?_ (hS)
          · simp [execOp, go_sem, e57, hl]
        | 16 =>
          simp only [List.getElem?_toArray, List.getElem?_cons_zero, List.getElem?_cons_succ, Option.some.injEq] at ho
          subst ho
          have p15 : b 15 = true := hd ⟨15, .data⟩ (by simp) rfl
          have p9 : b 9 = true := hd ⟨9, .guard⟩ (by simp) rfl
          have e58 := (ev 15 58 rfl p15).trans vv15
          rw [vv16]
          refine does_value_g rfl (yl 9 52 false rfl p9 vv9) (by intro c h; cases h) (w' := W) ?_ (hS)
          · simp [go_sem, e58]
        | 17 =>
          simp only [List.getElem?_toArray, List.getElem?_cons_zero, List.getElem?_cons_succ, Option.some.injEq] at ho
          subst ho
          have p16 : b 16 = true := hd ⟨16, .data⟩ (by simp) rfl
          have p9 : b 9 = true := hd ⟨9, .guard⟩ (by simp) rfl
          have e59 := (ev 16 59 rfl p16).trans vv16
          rw [vv17]
          refine does_value_g rfl (yl 9 52 false rfl p9 vv9) (by intro c h; cases h) (w' := W) ?_ (hS)
          · simp [execOp, go_sem, e59]; rw [IntKind.wrap_i64]; omega
        | 18 =>
          simp only [List.getElem?_toArray, List.getElem?_cons_zero, List.getElem?_cons_succ, Option.some.injEq] at ho
          subst ho
          have p11 : b 11 = true := hd ⟨11, .data⟩ (by simp) rfl
          have p17 : b 17 = true := hd ⟨17, .data⟩ (by simp) rfl
          have p9 : b 9 = true := hd ⟨9, .guard⟩ (by simp) rfl
          have e54 := (ev 11 54 rfl p11).trans vv11
          have e60 := (ev 17 60 rfl p17).trans vv17
          rw [vv18]
          refine does_value_g rfl (yl 9 52 false rfl p9 vv9) (by intro c h; cases h) (w' := W) ?_ (hS)
          · simp [execOp, go_sem, e54, e60]
        | 19 =>
          simp only [List.getElem?_toArray, List.getElem?_cons_zero, List.getElem?_cons_succ, Option.some.injEq] at ho
          subst ho
          have p9 : b 9 = true := hd ⟨9, .data⟩ (by simp) rfl
          have p18 : b 18 = true := hd ⟨18, .data⟩ (by simp) rfl
          have e52 := (ev 9 52 rfl p9).trans vv9
          have e61 := (ev 18 61 rfl p18).trans vv18
          rw [vv19]
          refine does_value rfl (by intro c h; cases h) (w' := W) ?_ (hS)
          · simp [execOp, go_sem, e52, e61]
        | k + 20 => simp at ho
      · intro b' W hS _
        have HS : Hid (Below w5.heap.size w5 W) := hS
        subst hLe
        clear hS cN cI cC m0 below5
        simp only [putAll, List.setIfInBounds_toArray, List.set_cons_zero, List.set_cons_succ]
        go_wp2
        exact ⟨⟨i + 1, by omega, by omega, by go_num, ⟨⟨t5, by omega, HM5.out.1.below HS.out⟩, HM5.out.2.1.trans (HS.out.mono HM5.out.2.1.size), Nat.le_trans HM5.out.2.2 HS.out.size⟩⟩, by simp [intOf]; omega⟩
    · have hno : ¬ ((i : Int) < xs.length) ∨ ((i : Int) < xs.length ∧ ¬ (i : Int) < 12) := by omega
      obtain ⟨t, hti, hM0⟩ := HK.out.st
      obtain ⟨s, p, c, bs, hI, hz, hsv, hsa, hsn, hsc, hcont, hM, hR, hlo⟩ := hM0.st
      have cS := vSync_any s (1 + i) wr hI hz (by omega)
      rw [hsv] at cS
      have HS : Hid (VI wr s ∧ s.d.a = a ∧ s.d.n = n ∧ s.commits = t ∧ (∀ i, i < nb → s.cont i = bs i) ∧ ModelAt wr w2.heap.size mB t p nb c ∧ RowsAt wr p nb bs ∧ (∀ k, (s.mine k ∨ k = mB) → w.heap.size ≤ k)) := ⟨hI, hsa, hsn, hsc, hcont, hM, hR, hlo⟩
      clear hI hz hsv hsa hsn hsc hcont hM hR hlo hM0
      rcases hno with hno | ⟨hno1, hno⟩
      all_goals
        go_wp2_with (go_at_call 18; refine cS.mono ?_; rintro e w6 ⟨rfl, s2, hI2, hS2, hz2, hc2, hcont2, hD2⟩; clear cS; refine Stop.out ?_)
        refine Stop.mk ?_
        obtain ⟨hI, hsa, hsn, hsc, hcont, hM, hR, hlo⟩ := HS.out
        have hM6 : ModelAt w6 w2.heap.size mB t p nb c := hM.but hS2.but (fun g cs t' fr hk ht => by rcases ht with rfl | rfl <;> exact hI.other hk (by decide) (by decide) (by decide))
        have hR6 : RowsAt w6 p nb bs := hR.but hS2.but (fun g cs t' fr hk ht => by rcases ht with rfl | rfl <;> exact hI.other hk (by decide) (by decide) (by decide))
        have low0 : ∀ k, s.mine k → w.heap.size ≤ k := fun k hk => hlo k (.inl hk)
        have B6 : Below w.heap.size w w6 := HK.out.below.trans (hS2.but.below (B := w.heap.size) HK.out.below.size low0)
        have ea2 : s2.d.a = a := by rw [hS2.near.a]; exact hsa
        have en2 : nb = nbOf s2.d.n := by rw [hS2.n, hsn]; exact HN.out.1
        obtain ⟨z1, z2, z3, z4⟩ := hz2
        have cM := mount_log s2 s2.d w6 hI2.lg hI2.dev (below_tab B6 HT.out.1.lt HT.out.1) hI2.n16 hI2.n200 rfl rfl hD2 hI2.fused (by omega) (by omega)
        rw [ea2] at cM
        have H6 : Hid (VI w6 s2 ∧ s2.d.a = a ∧ nb = nbOf s2.d.n ∧ s2.commits = t ∧ (∀ i, i < nb → s2.cont i = bs i) ∧ ModelAt w6 w2.heap.size mB t p nb c ∧ RowsAt w6 p nb bs ∧ Below w.heap.size w w6 ∧ s2.commits < 1000000 ∧ s2.turn < 1000000 ∧ s2.d.D = .map []) := ⟨hI2, ea2, en2, by rw [hc2, hsc], fun i hi => by rw [hcont2]; exact hcont i hi, hM6, hR6, B6, by omega, by omega, hD2⟩
        clear hI hsa hsn hsc hcont hM hR hlo hM6 hR6 low0 B6 ea2 en2 z1 z2 z3 z4 hI2 hS2 hc2 hcont2 hD2
        go_wp2_with (go_at_call 19; refine cM.mono ?_; rintro e w7 ⟨s7, rfl, hI7, hd7, hc7, _, _, hB7, _, _, hcont7⟩; clear cM; refine Stop.out ?_)
        refine Stop.mk ?_
        obtain ⟨hI2, ea2, en2, hc2, hcont2, hM6, hR6, B6, hcl, htl, hD2⟩ := H6.out
        have cCr := dev_crash_flushed s2.d w7 (hI2.dev.below hB7) hD2
        rw [ea2] at cCr
        have H7 : Hid (VI w7 s7 ∧ s7.d = s2.d ∧ s7.commits = s2.commits ∧ Below w6.heap.size w6 w7 ∧ ∀ i, s7.cont i = s2.cont i) := ⟨hI7, hd7, hc7, hB7, hcont7⟩
        generalize hv7 : s7.v = v7
        have HV7 : Hid (s7.v = v7) := hv7
        clear hI2 ea2 en2 hc2 hcont2 hM6 hR6 B6 hcl htl hD2 hI7 hd7 hc7 hB7 hcont7 hv7
        go_wp2_with (go_at_call 20; refine cCr.mono ?_; rintro e w8 ⟨a8, s8, c8, m8, rfl, hd8, hB8, _⟩; clear cCr; refine Stop.out ?_)
        refine Stop.mk ?_
        obtain ⟨hI2, ea2, en2, hc2, hcont2, hM6, hR6, B6, hcl, htl, hD2⟩ := H6.out
        have B8 : Below w6.heap.size w6 w8 := H7.out.2.2.2.1.trans (hB8.mono H7.out.2.2.2.1.size)
        have cM := mount_log s2 { newDS a8 s8 c8 m8 s2.d.n with B := s2.d.B } w8 hI2.lg hd8 (below_tab (B6.trans (B8.mono B6.size)) HT.out.1.lt HT.out.1) hI2.n16 hI2.n200 rfl rfl rfl rfl hcl htl
        have H8 : Hid (Below w7.heap.size w7 w8) := hB8
        clear hI2 ea2 en2 hc2 hcont2 hM6 hR6 B6 hcl htl hD2 B8 hd8 hB8
        go_wp2_with (go_at_call 19; refine cM.mono ?_; rintro e w9 ⟨s9, rfl, hI9, hd9, hc9, _, _, hB9, _, _, hcont9⟩; clear cM; refine Stop.out ?_)
        refine Stop.mk ?_
        obtain ⟨hI2, ea2, en2, hc2, hcont2, hM6, hR6, B6, hcl, htl, hD2⟩ := H6.out
        obtain ⟨hI7, hd7, hc7, hB7, hcont7⟩ := H7.out
        have B79 : Below w7.heap.size w7 w9 := H8.out.trans (hB9.mono H8.out.size)
        have B69 : Below w6.heap.size w6 w9 := hB7.trans (B79.mono hB7.size)
        have hI79 := hI7.below B79
        have hR9 := hR6.below B69
        obtain ⟨gA, cA, m0, m1⟩ := (hM6.below B69).last
        have cN : ∀ W, Below w9.heap.size w9 W → Calls Tryz.prog 16 #[dp mB] W fun e w' => e = .returned (.slice p nb c) ∧ Below w9.heap.size w9 w' := fun W hW => by
          refine (now_any mB gA t cA p nb c W ((hW.cell (p := ⟨mB, 0, none⟩) (cell_lt m0)).trans m0) ((hW.cell (p := ⟨gA, t, none⟩) (cell_lt m1)).trans m1) (by omega)).mono ?_
          rintro e w' ⟨rfl, j, rfl⟩
          exact ⟨rfl, below_drewN hW j⟩
        have cI7 : ∀ W, Below w9.heap.size w9 W → Calls Tryz.prog 15 #[dp v7, .slice p nb c] W fun e w' => e = .returned (.bool true) ∧ Below w9.heap.size w9 w' := fun W hW => by
          have := is_any s7 p nb c bs W (hI79.below hW) (by rw [hd7]; exact en2) (hR9.below hW) (fun i hi => by rw [hcont7]; exact hcont2 i hi)
          rw [HV7.out] at this
          refine this.mono ?_
          rintro e w' ⟨rfl, hB⟩
          exact ⟨rfl, hW.trans (hB.mono hW.size)⟩
        have cI9 : ∀ W, Below w9.heap.size w9 W → Calls Tryz.prog 15 #[dp s9.v, .slice p nb c] W fun e w' => e = .returned (.bool true) ∧ Below w9.heap.size w9 w' := fun W hW => by
          refine (is_any s9 p nb c bs W (hI9.below hW) (by rw [hd9]; exact en2) (hR9.below hW) (fun i hi => by rw [hcont9]; exact hcont2 i hi)).mono ?_
          rintro e w' ⟨rfl, hB⟩
          exact ⟨rfl, hW.trans (hB.mono hW.size)⟩
        have cC7 : ∀ W, Below w9.heap.size w9 W → Calls Tryz.prog 17 #[dp v7] W fun e w' => e = .returned (.int .i64 (t : Nat)) ∧ Below w9.heap.size w9 w' := fun W hW => by
          have hI' := hI79.below hW
          have := vCommits s7.v s7.commits s7.turn s7.next (some s7.f) s7.d W hI'.vol hI'.dev
          rw [HV7.out, hc7, hc2] at this
          refine this.mono ?_
          rintro e w' ⟨rfl, j, rfl⟩
          exact ⟨rfl, below_drewN hW j⟩
        have cC9 : ∀ W, Below w9.heap.size w9 W → Calls Tryz.prog 17 #[dp s9.v] W fun e w' => e = .returned (.int .i64 (t : Nat)) ∧ Below w9.heap.size w9 w' := fun W hW => by
          have hI' := hI9.below hW
          have := vCommits s9.v s9.commits s9.turn s9.next (some s9.f) s9.d W hI'.vol hI'.dev
          rw [hc9, hc2] at this
          refine this.mono ?_
          rintro e w' ⟨rfl, j, rfl⟩
          exact ⟨rfl, below_drewN hW j⟩
        have H9 : Hid (Below w.heap.size w w9) := B6.trans (B69.mono B6.size)
        generalize s9.v = v9 at *
        clear hI2 ea2 en2 hc2 hcont2 hM6 hR6 B6 hcl htl hD2 hI7 hd7 hc7 hB7 hcont7 B79 B69 hI79 hR9 m1 hI9 hd9 hc9 hB9 hcont9
        go_wp2_with fail
        have below9 : Below w9.heap.size w9 w9.drew := (Below.refl _ _).drew
        obtain ⟨LL, hLe⟩ : ∃ LL : List (Option Tmp × Value), LL = [(some 76, .bool true), (some 77, .bool true), (some 78, .int .i64 0), (some 79, .bool true), (some 80, .bool true), (some 81, .bool true), (some 82, .int .i64 0), (some 83, .bool true), (some 84, .bool true), (some 85, .bool true), (some 86, .int .i64 0), (some 87, .bool true), (some 88, .bool true), (some 89, .bool true), (some 90, .pointer (some ⟨v7, 0, none⟩)), (some 91, .pointer (some ⟨mB, 0, none⟩)), (some 92, .slice p nb c), (some 93, .bool true), (some 94, .bool true), (some 95, .bool true), (some 96, .pointer (some ⟨v9, 0, none⟩)), (some 97, .pointer (some ⟨mB, 0, none⟩)), (some 98, .slice p nb c), (some 99, .bool true), (some 100, .bool true), (some 101, .bool true), (some 102, .pointer (some ⟨v7, 0, none⟩)), (some 103, .int .i64 (t : Nat)), (some 104, .pointer (some ⟨mB, 0, none⟩)), (some 105, .pointer (some ⟨mB, 0, none⟩)), (some 106, .pointer (some ⟨mB, 0, none⟩)), (some 107, .slice (some ⟨gA, 0, none⟩) (t + 1) cA), (some 108, .int .i64 ((t : Int) + 1)), (some 109, .int .i64 (t : Nat)), (some 110, .bool true), (some 111, .bool true), (some 112, .bool true), (some 113, .pointer (some ⟨v9, 0, none⟩)), (some 114, .int .i64 (t : Nat)), (some 115, .pointer (some ⟨v7, 0, none⟩)), (some 116, .int .i64 (t : Nat)), (some 117, .bool true), (some 118, .bool true), (some 4, .bool true)] := ⟨_, rfl⟩
        have vv0 : vals LL 0 = .bool true := by rw [hLe]; rfl
        have vv1 : vals LL 1 = .bool true := by rw [hLe]; rfl
        have vv2 : vals LL 2 = .int .i64 0 := by rw [hLe]; rfl
        have vv3 : vals LL 3 = .bool true := by rw [hLe]; rfl
        have vv4 : vals LL 4 = .bool true := by rw [hLe]; rfl
        have vv5 : vals LL 5 = .bool true := by rw [hLe]; rfl
        have vv6 : vals LL 6 = .int .i64 0 := by rw [hLe]; rfl
        have vv7 : vals LL 7 = .bool true := by rw [hLe]; rfl
        have vv8 : vals LL 8 = .bool true := by rw [hLe]; rfl
        have vv9 : vals LL 9 = .bool true := by rw [hLe]; rfl
        have vv10 : vals LL 10 = .int .i64 0 := by rw [hLe]; rfl
        have vv11 : vals LL 11 = .bool true := by rw [hLe]; rfl
        have vv12 : vals LL 12 = .bool true := by rw [hLe]; rfl
        have vv13 : vals LL 13 = .bool true := by rw [hLe]; rfl
        have vv14 : vals LL 14 = .pointer (some ⟨v7, 0, none⟩) := by rw [hLe]; rfl
        have vv15 : vals LL 15 = .pointer (some ⟨mB, 0, none⟩) := by rw [hLe]; rfl
        have vv16 : vals LL 16 = .slice p nb c := by rw [hLe]; rfl
        have vv17 : vals LL 17 = .bool true := by rw [hLe]; rfl
        have vv18 : vals LL 18 = .bool true := by rw [hLe]; rfl
        have vv19 : vals LL 19 = .bool true := by rw [hLe]; rfl
        have vv20 : vals LL 20 = .pointer (some ⟨v9, 0, none⟩) := by rw [hLe]; rfl
        have vv21 : vals LL 21 = .pointer (some ⟨mB, 0, none⟩) := by rw [hLe]; rfl
        have vv22 : vals LL 22 = .slice p nb c := by rw [hLe]; rfl
        have vv23 : vals LL 23 = .bool true := by rw [hLe]; rfl
        have vv24 : vals LL 24 = .bool true := by rw [hLe]; rfl
        have vv25 : vals LL 25 = .bool true := by rw [hLe]; rfl
        have vv26 : vals LL 26 = .pointer (some ⟨v7, 0, none⟩) := by rw [hLe]; rfl
        have vv27 : vals LL 27 = .int .i64 (t : Nat) := by rw [hLe]; rfl
        have vv28 : vals LL 28 = .pointer (some ⟨mB, 0, none⟩) := by rw [hLe]; rfl
        have vv29 : vals LL 29 = .pointer (some ⟨mB, 0, none⟩) := by rw [hLe]; rfl
        have vv30 : vals LL 30 = .pointer (some ⟨mB, 0, none⟩) := by rw [hLe]; rfl
        have vv31 : vals LL 31 = .slice (some ⟨gA, 0, none⟩) (t + 1) cA := by rw [hLe]; rfl
        have vv32 : vals LL 32 = .int .i64 ((t : Int) + 1) := by rw [hLe]; rfl
        have vv33 : vals LL 33 = .int .i64 (t : Nat) := by rw [hLe]; rfl
        have vv34 : vals LL 34 = .bool true := by rw [hLe]; rfl
        have vv35 : vals LL 35 = .bool true := by rw [hLe]; rfl
        have vv36 : vals LL 36 = .bool true := by rw [hLe]; rfl
        have vv37 : vals LL 37 = .pointer (some ⟨v9, 0, none⟩) := by rw [hLe]; rfl
        have vv38 : vals LL 38 = .int .i64 (t : Nat) := by rw [hLe]; rfl
        have vv39 : vals LL 39 = .pointer (some ⟨v7, 0, none⟩) := by rw [hLe]; rfl
        have vv40 : vals LL 40 = .int .i64 (t : Nat) := by rw [hLe]; rfl
        have vv41 : vals LL 41 = .bool true := by rw [hLe]; rfl
        have vv42 : vals LL 42 = .bool true := by rw [hLe]; rfl
        have vv43 : vals LL 43 = .bool true := by rw [hLe]; rfl
        refine region_laid hmix (by kernel_rfl) 119 rfl (by kernel_rfl) LL (by rw [hLe]; rfl) (fun _ W => Below w9.heap.size w9 W) below9 ?_ ?_
        · intro b W i o a hS hcl ho hb hd ev kp yl
          match i with
          | 0 =>
            simp only [List.getElem?_toArray, List.getElem?_cons_zero, Option.some.injEq] at ho
            subst ho
            have e5 : a.tmps[5]?.getD undef = .bool true := kp 5 (by kernel_rfl)
            rw [vv0]
            refine does_value rfl (by intro c h; cases h) (w' := W) ?_ (hS)
            · simp [execOp, go_sem, e5]
          | 1 =>
            simp only [List.getElem?_toArray, List.getElem?_cons_zero, List.getElem?_cons_succ, Option.some.injEq] at ho
            subst ho
            have p0 : b 0 = true := hd ⟨0, .data⟩ (by simp) rfl
            have e76 := (ev 0 76 rfl p0).trans vv0
            rw [vv1]
            refine does_value rfl (by intro c h; cases h) (w' := W) ?_ (hS)
            · simp [execOp, go_sem, e76]
          | 2 =>
            simp only [List.getElem?_toArray, List.getElem?_cons_zero, List.getElem?_cons_succ, Option.some.injEq] at ho
            subst ho
            have p1 : b 1 = true := hd ⟨1, .guard⟩ (by simp) rfl
            have e11 : a.tmps[11]?.getD undef = .int .i64 0 := kp 11 (by kernel_rfl)
            rw [vv2]
            refine does_value_g rfl (yl 1 77 true rfl p1 vv1) (by intro c h; cases h) (w' := W) ?_ (hS)
            · simp [execOp, go_sem, e11]
          | 3 =>
            simp only [List.getElem?_toArray, List.getElem?_cons_zero, List.getElem?_cons_succ, Option.some.injEq] at ho
            subst ho
            have p2 : b 2 = true := hd ⟨2, .data⟩ (by simp) rfl
            have p1 : b 1 = true := hd ⟨1, .guard⟩ (by simp) rfl
            have e78 := (ev 2 78 rfl p2).trans vv2
            rw [vv3]
            refine does_value_g rfl (yl 1 77 true rfl p1 vv1) (by intro c h; cases h) (w' := W) ?_ (hS)
            · simp [execOp, go_sem, e78]
          | 4 =>
            simp only [List.getElem?_toArray, List.getElem?_cons_zero, List.getElem?_cons_succ, Option.some.injEq] at ho
            subst ho
            have p1 : b 1 = true := hd ⟨1, .data⟩ (by simp) rfl
            have p3 : b 3 = true := hd ⟨3, .data⟩ (by simp) rfl
            have e77 := (ev 1 77 rfl p1).trans vv1
            have e79 := (ev 3 79 rfl p3).trans vv3
            rw [vv4]
            refine does_value rfl (by intro c h; cases h) (w' := W) ?_ (hS)
            · simp [execOp, go_sem, e77, e79]
          | 5 =>
            simp only [List.getElem?_toArray, List.getElem?_cons_zero, List.getElem?_cons_succ, Option.some.injEq] at ho
            subst ho
            have p4 : b 4 = true := hd ⟨4, .data⟩ (by simp) rfl
            have e80 := (ev 4 80 rfl p4).trans vv4
            rw [vv5]
            refine does_value rfl (by intro c h; cases h) (w' := W) ?_ (hS)
            · simp [execOp, go_sem, e80]
          | 6 =>
            simp only [List.getElem?_toArray, List.getElem?_cons_zero, List.getElem?_cons_succ, Option.some.injEq] at ho
            subst ho
            have p5 : b 5 = true := hd ⟨5, .guard⟩ (by simp) rfl
            have e13 : a.tmps[13]?.getD undef = .int .i64 0 := kp 13 (by kernel_rfl)
            rw [vv6]
            refine does_value_g rfl (yl 5 81 true rfl p5 vv5) (by intro c h; cases h) (w' := W) ?_ (hS)
            · simp [execOp, go_sem, e13]
          | 7 =>
            simp only [List.getElem?_toArray, List.getElem?_cons_zero, List.getElem?_cons_succ, Option.some.injEq] at ho
            subst ho
            have p6 : b 6 = true := hd ⟨6, .data⟩ (by simp) rfl
            have p5 : b 5 = true := hd ⟨5, .guard⟩ (by simp) rfl
            have e82 := (ev 6 82 rfl p6).trans vv6
            rw [vv7]
            refine does_value_g rfl (yl 5 81 true rfl p5 vv5) (by intro c h; cases h) (w' := W) ?_ (hS)
            · simp [execOp, go_sem, e82]
          | 8 =>
            simp only [List.getElem?_toArray, List.getElem?_cons_zero, List.getElem?_cons_succ, Option.some.injEq] at ho
            subst ho
            have p5 : b 5 = true := hd ⟨5, .data⟩ (by simp) rfl
            have p7 : b 7 = true := hd ⟨7, .data⟩ (by simp) rfl
            have e81 := (ev 5 81 rfl p5).trans vv5
            have e83 := (ev 7 83 rfl p7).trans vv7
            rw [vv8]
            refine does_value rfl (by intro c h; cases h) (w' := W) ?_ (hS)
            · simp [execOp, go_sem, e81, e83]
          | 9 =>
            simp only [List.getElem?_toArray, List.getElem?_cons_zero, List.getElem?_cons_succ, Option.some.injEq] at ho
            subst ho
            have p8 : b 8 = true := hd ⟨8, .data⟩ (by simp) rfl
            have e84 := (ev 8 84 rfl p8).trans vv8
            rw [vv9]
            refine does_value rfl (by intro c h; cases h) (w' := W) ?_ (hS)
            · simp [execOp, go_sem, e84]
          | 10 =>
            simp only [List.getElem?_toArray, List.getElem?_cons_zero, List.getElem?_cons_succ, Option.some.injEq] at ho
            subst ho
            have p9 : b 9 = true := hd ⟨9, .guard⟩ (by simp) rfl
            have e15 : a.tmps[15]?.getD undef = .int .i64 0 := kp 15 (by kernel_rfl)
            rw [vv10]
            refine does_value_g rfl (yl 9 85 true rfl p9 vv9) (by intro c h; cases h) (w' := W) ?_ (hS)
            · simp [execOp, go_sem, e15]
          | 11 =>
            simp only [List.getElem?_toArray, List.getElem?_cons_zero, List.getElem?_cons_succ, Option.some.injEq] at ho
            subst ho
            have p10 : b 10 = true := hd ⟨10, .data⟩ (by simp) rfl
            have p9 : b 9 = true := hd ⟨9, .guard⟩ (by simp) rfl
            have e86 := (ev 10 86 rfl p10).trans vv10
            rw [vv11]
            refine does_value_g rfl (yl 9 85 true rfl p9 vv9) (by intro c h; cases h) (w' := W) ?_ (hS)
            · simp [execOp, go_sem, e86]
          | 12 =>
            simp only [List.getElem?_toArray, List.getElem?_cons_zero, List.getElem?_cons_succ, Option.some.injEq] at ho
            subst ho
            have p9 : b 9 = true := hd ⟨9, .data⟩ (by simp) rfl
            have p11 : b 11 = true := hd ⟨11, .data⟩ (by simp) rfl
            have e85 := (ev 9 85 rfl p9).trans vv9
            have e87 := (ev 11 87 rfl p11).trans vv11
            rw [vv12]
            refine does_value rfl (by intro c h; cases h) (w' := W) ?_ (hS)
            · simp [execOp, go_sem, e85, e87]
          | 13 =>
            simp only [List.getElem?_toArray, List.getElem?_cons_zero, List.getElem?_cons_succ, Option.some.injEq] at ho
            subst ho
            have p12 : b 12 = true := hd ⟨12, .data⟩ (by simp) rfl
            have e88 := (ev 12 88 rfl p12).trans vv12
            rw [vv13]
            refine does_value rfl (by intro c h; cases h) (w' := W) ?_ (hS)
            · simp [execOp, go_sem, e88]
          | 14 =>
            simp only [List.getElem?_toArray, List.getElem?_cons_zero, List.getElem?_cons_succ, Option.some.injEq] at ho
            subst ho
            have p13 : b 13 = true := hd ⟨13, .guard⟩ (by simp) rfl
            have e12 : a.tmps[12]?.getD undef = .pointer (some ⟨v7, 0, none⟩) := kp 12 (by kernel_rfl)
            rw [vv14]
            refine does_value_g rfl (yl 13 89 true rfl p13 vv13) (by intro c h; cases h) (w' := W) ?_ (hS)
            · simp [execOp, go_sem, e12]
          | 15 =>
            simp only [List.getElem?_toArray, List.getElem?_cons_zero, List.getElem?_cons_succ, Option.some.injEq] at ho
            subst ho
            have p13 : b 13 = true := hd ⟨13, .guard⟩ (by simp) rfl
            have e8 : a.tmps[8]?.getD undef = .pointer (some ⟨mB, 0, none⟩) := kp 8 (by kernel_rfl)
            rw [vv15]
            refine does_value_g rfl (yl 13 89 true rfl p13 vv13) (by intro c h; cases h) (w' := W) ?_ (hS)
            · simp [execOp, go_sem, e8]
          | 16 =>
            simp only [List.getElem?_toArray, List.getElem?_cons_zero, List.getElem?_cons_succ, Option.some.injEq] at ho
            subst ho
            have p15 : b 15 = true := hd ⟨15, .data⟩ (by simp) rfl
            have p13 : b 13 = true := hd ⟨13, .guard⟩ (by simp) rfl
            have e91 := (ev 15 91 rfl p15).trans vv15
            rw [vv16]
            refine does_call_g rfl (yl 13 89 true rfl p13 vv13) (by intro c h; cases h) (f := 16) (args := #[.pointer (some ⟨mB, 0, none⟩)]) ?_ ?_
            · simp [go_sem, e91]
            · exact cN W hS
          | 17 =>
            simp only [List.getElem?_toArray, List.getElem?_cons_zero, List.getElem?_cons_succ, Option.some.injEq] at ho
            subst ho
            have p14 : b 14 = true := hd ⟨14, .data⟩ (by simp) rfl
            have p16 : b 16 = true := hd ⟨16, .data⟩ (by simp) rfl
            have p13 : b 13 = true := hd ⟨13, .guard⟩ (by simp) rfl
            have e90 := (ev 14 90 rfl p14).trans vv14
            have e92 := (ev 16 92 rfl p16).trans vv16
            rw [vv17]
            refine does_call_g rfl (yl 13 89 true rfl p13 vv13) (by intro c h; cases h) (f := 15) (args := #[.pointer (some ⟨v7, 0, none⟩), .slice p nb c]) ?_ ?_
            · simp [go_sem, e90, e92]
            · exact cI7 W hS
          | 18 =>
            simp only [List.getElem?_toArray, List.getElem?_cons_zero, List.getElem?_cons_succ, Option.some.injEq] at ho
            subst ho
            have p13 : b 13 = true := hd ⟨13, .data⟩ (by simp) rfl
            have p17 : b 17 = true := hd ⟨17, .data⟩ (by simp) rfl
            have e89 := (ev 13 89 rfl p13).trans vv13
            have e93 := (ev 17 93 rfl p17).trans vv17
            rw [vv18]
            refine does_value rfl (by intro c h; cases h) (w' := W) ?_ (hS)
            · simp [execOp, go_sem, e89, e93]
          | 19 =>
            simp only [List.getElem?_toArray, List.getElem?_cons_zero, List.getElem?_cons_succ, Option.some.injEq] at ho
            subst ho
            have p18 : b 18 = true := hd ⟨18, .data⟩ (by simp) rfl
            have e94 := (ev 18 94 rfl p18).trans vv18
            rw [vv19]
            refine does_value rfl (by intro c h; cases h) (w' := W) ?_ (hS)
            · simp [execOp, go_sem, e94]
          | 20 =>
            simp only [List.getElem?_toArray, List.getElem?_cons_zero, List.getElem?_cons_succ, Option.some.injEq] at ho
            subst ho
            have p19 : b 19 = true := hd ⟨19, .guard⟩ (by simp) rfl
            have e14 : a.tmps[14]?.getD undef = .pointer (some ⟨v9, 0, none⟩) := kp 14 (by kernel_rfl)
            rw [vv20]
            refine does_value_g rfl (yl 19 95 true rfl p19 vv19) (by intro c h; cases h) (w' := W) ?_ (hS)
            · simp [execOp, go_sem, e14]
          | 21 =>
            simp only [List.getElem?_toArray, List.getElem?_cons_zero, List.getElem?_cons_succ, Option.some.injEq] at ho
            subst ho
            have p19 : b 19 = true := hd ⟨19, .guard⟩ (by simp) rfl
            have e8 : a.tmps[8]?.getD undef = .pointer (some ⟨mB, 0, none⟩) := kp 8 (by kernel_rfl)
            rw [vv21]
            refine does_value_g rfl (yl 19 95 true rfl p19 vv19) (by intro c h; cases h) (w' := W) ?_ (hS)
            · simp [execOp, go_sem, e8]
          | 22 =>
            simp only [List.getElem?_toArray, List.getElem?_cons_zero, List.getElem?_cons_succ, Option.some.injEq] at ho
            subst ho
            have p21 : b 21 = true := hd ⟨21, .data⟩ (by simp) rfl
            have p19 : b 19 = true := hd ⟨19, .guard⟩ (by simp) rfl
            have e97 := (ev 21 97 rfl p21).trans vv21
            rw [vv22]
            refine does_call_g rfl (yl 19 95 true rfl p19 vv19) (by intro c h; cases h) (f := 16) (args := #[.pointer (some ⟨mB, 0, none⟩)]) ?_ ?_
            · simp [go_sem, e97]
            · exact cN W hS
          | 23 =>
            simp only [List.getElem?_toArray, List.getElem?_cons_zero, List.getElem?_cons_succ, Option.some.injEq] at ho
            subst ho
            have p20 : b 20 = true := hd ⟨20, .data⟩ (by simp) rfl
            have p22 : b 22 = true := hd ⟨22, .data⟩ (by simp) rfl
            have p19 : b 19 = true := hd ⟨19, .guard⟩ (by simp) rfl
            have e96 := (ev 20 96 rfl p20).trans vv20
            have e98 := (ev 22 98 rfl p22).trans vv22
            rw [vv23]
            refine does_call_g rfl (yl 19 95 true rfl p19 vv19) (by intro c h; cases h) (f := 15) (args := #[.pointer (some ⟨v9, 0, none⟩), .slice p nb c]) ?_ ?_
            · simp [go_sem, e96, e98]
            · exact cI9 W hS
          | 24 =>
            simp only [List.getElem?_toArray, List.getElem?_cons_zero, List.getElem?_cons_succ, Option.some.injEq] at ho
            subst ho
            have p19 : b 19 = true := hd ⟨19, .data⟩ (by simp) rfl
            have p23 : b 23 = true := hd ⟨23, .data⟩ (by simp) rfl
            have e95 := (ev 19 95 rfl p19).trans vv19
            have e99 := (ev 23 99 rfl p23).trans vv23
            rw [vv24]
            refine does_value rfl (by intro c h; cases h) (w' := W) ?_ (hS)
            · simp [execOp, go_sem, e95, e99]
          | 25 =>
            simp only [List.getElem?_toArray, List.getElem?_cons_zero, List.getElem?_cons_succ, Option.some.injEq] at ho
            subst ho
            have p24 : b 24 = true := hd ⟨24, .data⟩ (by simp) rfl
            have e100 := (ev 24 100 rfl p24).trans vv24
            rw [vv25]
            refine does_value rfl (by intro c h; cases h) (w' := W) ?_ (hS)
            · simp [execOp, go_sem, e100]
          | 26 =>
            simp only [List.getElem?_toArray, List.getElem?_cons_zero, List.getElem?_cons_succ, Option.some.injEq] at ho
            subst ho
            have p25 : b 25 = true := hd ⟨25, .guard⟩ (by simp) rfl
            have e12 : a.tmps[12]?.getD undef = .pointer (some ⟨v7, 0, none⟩) := kp 12 (by kernel_rfl)
            rw [vv26]
            refine does_value_g rfl (yl 25 101 true rfl p25 vv25) (by intro c h; cases h) (w' := W) ?_ (hS)
            · simp [execOp, go_sem, e12]
          | 27 =>
            simp only [List.getElem?_toArray, List.getElem?_cons_zero, List.getElem?_cons_succ, Option.some.injEq] at ho
            subst ho
            have p26 : b 26 = true := hd ⟨26, .data⟩ (by simp) rfl
            have p25 : b 25 = true := hd ⟨25, .guard⟩ (by simp) rfl
            have e102 := (ev 26 102 rfl p26).trans vv26
            rw [vv27]
            refine does_call_g rfl (yl 25 101 true rfl p25 vv25) (by intro c h; cases h) (f := 17) (args := #[.pointer (some ⟨v7, 0, none⟩)]) ?_ ?_
            · simp [go_sem, e102]
            · exact cC7 W hS
          | 28 =>
            simp only [List.getElem?_toArray, List.getElem?_cons_zero, List.getElem?_cons_succ, Option.some.injEq] at ho
            subst ho
            have p25 : b 25 = true := hd ⟨25, .guard⟩ (by simp) rfl
            have e8 : a.tmps[8]?.getD undef = .pointer (some ⟨mB, 0, none⟩) := kp 8 (by kernel_rfl)
            rw [vv28]
            refine does_value_g rfl (yl 25 101 true rfl p25 vv25) (by intro c h; cases h) (w' := W) ?_ (hS)
            · simp [execOp, go_sem, e8]
          | 29 =>
            simp only [List.getElem?_toArray, List.getElem?_cons_zero, List.getElem?_cons_succ, Option.some.injEq] at ho
            subst ho
            have p28 : b 28 = true := hd ⟨28, .data⟩ (by simp) rfl
            have p25 : b 25 = true := hd ⟨25, .guard⟩ (by simp) rfl
            have e104 := (ev 28 104 rfl p28).trans vv28
            rw [vv29]
            refine does_value_g rfl (yl 25 101 true rfl p25 vv25) (by intro c h; cases h) (w' := W) ?_ (hS)
            · simp [execOp, go_sem, e104]
          | 30 =>
            simp only [List.getElem?_toArray, List.getElem?_cons_zero, List.getElem?_cons_succ, Option.some.injEq] at ho
            subst ho
            have p29 : b 29 = true := hd ⟨29, .data⟩ (by simp) rfl
            have p25 : b 25 = true := hd ⟨25, .guard⟩ (by simp) rfl
            have e105 := (ev 29 105 rfl p29).trans vv29
            rw [vv30]
            refine does_value_g rfl (yl 25 101 true rfl p25 vv25) (by intro c h; cases h) (w' := W) ?_ (hS)
            · simp [execOp, go_sem, e105]
          | 31 =>
            simp only [List.getElem?_toArray, List.getElem?_cons_zero, List.getElem?_cons_succ, Option.some.injEq] at ho
            subst ho
            have p30 : b 30 = true := hd ⟨30, .data⟩ (by simp) rfl
            have p25 : b 25 = true := hd ⟨25, .guard⟩ (by simp) rfl
            have e106 := (ev 30 106 rfl p30).trans vv30
            have hl := (hS.cell (p := ⟨mB, 0, none⟩) (cell_lt m0)).trans m0
            rw [vv31]
            refine does_value_g rfl (yl 25 101 true rfl p25 vv25) (by intro c h; cases h) (w' := W) ?_ (hS)
            · simp [execOp, go_sem, e106, hl]
          | 32 =>
            simp only [List.getElem?_toArray, List.getElem?_cons_zero, List.getElem?_cons_succ, Option.some.injEq] at ho
            subst ho
            have p31 : b 31 = true := hd ⟨31, .data⟩ (by simp) rfl
            have p25 : b 25 = true := hd ⟨25, .guard⟩ (by simp) rfl
            have e107 := (ev 31 107 rfl p31).trans vv31
            rw [vv32]
            refine does_value_g rfl (yl 25 101 true rfl p25 vv25) (by intro c h; cases h) (w' := W) ?_ (hS)
            · simp [go_sem, e107]
          | 33 =>
            simp only [List.getElem?_toArray, List.getElem?_cons_zero, List.getElem?_cons_succ, Option.some.injEq] at ho
            subst ho
            have p32 : b 32 = true := hd ⟨32, .data⟩ (by simp) rfl
            have p25 : b 25 = true := hd ⟨25, .guard⟩ (by simp) rfl
            have e108 := (ev 32 108 rfl p32).trans vv32
            rw [vv33]
            refine does_value_g rfl (yl 25 101 true rfl p25 vv25) (by intro c h; cases h) (w' := W) ?_ (hS)
            · simp [execOp, go_sem, e108]; rw [IntKind.wrap_i64]; omega
          | 34 =>
            simp only [List.getElem?_toArray, List.getElem?_cons_zero, List.getElem?_cons_succ, Option.some.injEq] at ho
            subst ho
            have p27 : b 27 = true := hd ⟨27, .data⟩ (by simp) rfl
            have p33 : b 33 = true := hd ⟨33, .data⟩ (by simp) rfl
            have p25 : b 25 = true := hd ⟨25, .guard⟩ (by simp) rfl
            have e103 := (ev 27 103 rfl p27).trans vv27
            have e109 := (ev 33 109 rfl p33).trans vv33
            rw [vv34]
            refine does_value_g rfl (yl 25 101 true rfl p25 vv25) (by intro c h; cases h) (w' := W) ?_ (hS)
            · simp [execOp, go_sem, e103, e109]
          | 35 =>
            simp only [List.getElem?_toArray, List.getElem?_cons_zero, List.getElem?_cons_succ, Option.some.injEq] at ho
            subst ho
            have p25 : b 25 = true := hd ⟨25, .data⟩ (by simp) rfl
            have p34 : b 34 = true := hd ⟨34, .data⟩ (by simp) rfl
            have e101 := (ev 25 101 rfl p25).trans vv25
            have e110 := (ev 34 110 rfl p34).trans vv34
            rw [vv35]
            refine does_value rfl (by intro c h; cases h) (w' := W) ?_ (hS)
            · simp [execOp, go_sem, e101, e110]
          | 36 =>
            simp only [List.getElem?_toArray, List.getElem?_cons_zero, List.getElem?_cons_succ, Option.some.injEq] at ho
            subst ho
            have p35 : b 35 = true := hd ⟨35, .data⟩ (by simp) rfl
            have e111 := (ev 35 111 rfl p35).trans vv35
            rw [vv36]
            refine does_value rfl (by intro c h; cases h) (w' := W) ?_ (hS)
            · simp [execOp, go_sem, e111]
          | 37 =>
            simp only [List.getElem?_toArray, List.getElem?_cons_zero, List.getElem?_cons_succ, Option.some.injEq] at ho
            subst ho
            have p36 : b 36 = true := hd ⟨36, .guard⟩ (by simp) rfl
            have e14 : a.tmps[14]?.getD undef = .pointer (some ⟨v9, 0, none⟩) := kp 14 (by kernel_rfl)
            rw [vv37]
            refine does_value_g rfl (yl 36 112 true rfl p36 vv36) (by intro c h; cases h) (w' := W) ?_ (hS)
            · simp [execOp, go_sem, e14]
          | 38 =>
            simp only [List.getElem?_toArray, List.getElem?_cons_zero, List.getElem?_cons_succ, Option.some.injEq] at ho
            subst ho
            have p37 : b 37 = true := hd ⟨37, .data⟩ (by simp) rfl
            have p36 : b 36 = true := hd ⟨36, .guard⟩ (by simp) rfl
            have e113 := (ev 37 113 rfl p37).trans vv37
            rw [vv38]
            refine does_call_g rfl (yl 36 112 true rfl p36 vv36) (by intro c h; cases h) (f := 17) (args := #[.pointer (some ⟨v9, 0, none⟩)]) ?_ ?_
            · simp [go_sem, e113]
            · exact cC9 W hS
          | 39 =>
            simp only [List.getElem?_toArray, List.getElem?_cons_zero, List.getElem?_cons_succ, Option.some.injEq] at ho
            subst ho
            have p36 : b 36 = true := hd ⟨36, .guard⟩ (by simp) rfl
            have e12 : a.tmps[12]?.getD undef = .pointer (some ⟨v7, 0, none⟩) := kp 12 (by kernel_rfl)
            rw [vv39]
            refine does_value_g rfl (yl 36 112 true rfl p36 vv36) (by intro c h; cases h) (w' := W) ?_ (hS)
            · simp [execOp, go_sem, e12]
          | 40 =>
            simp only [List.getElem?_toArray, List.getElem?_cons_zero, List.getElem?_cons_succ, Option.some.injEq] at ho
            subst ho
            have p39 : b 39 = true := hd ⟨39, .data⟩ (by simp) rfl
            have p36 : b 36 = true := hd ⟨36, .guard⟩ (by simp) rfl
            have e115 := (ev 39 115 rfl p39).trans vv39
            rw [vv40]
            refine does_call_g rfl (yl 36 112 true rfl p36 vv36) (by intro c h; cases h) (f := 17) (args := #[.pointer (some ⟨v7, 0, none⟩)]) ?_ ?_
            · simp [go_sem, e115]
            · exact cC7 W hS
          | 41 =>
            simp only [List.getElem?_toArray, List.getElem?_cons_zero, List.getElem?_cons_succ, Option.some.injEq] at ho
            subst ho
            have p38 : b 38 = true := hd ⟨38, .data⟩ (by simp) rfl
            have p40 : b 40 = true := hd ⟨40, .data⟩ (by simp) rfl
            have p36 : b 36 = true := hd ⟨36, .guard⟩ (by simp) rfl
            have e114 := (ev 38 114 rfl p38).trans vv38
            have e116 := (ev 40 116 rfl p40).trans vv40
            rw [vv41]
            refine does_value_g rfl (yl 36 112 true rfl p36 vv36) (by intro c h; cases h) (w' := W) ?_ (hS)
            · simp [execOp, go_sem, e114, e116]
          | 42 =>
            simp only [List.getElem?_toArray, List.getElem?_cons_zero, List.getElem?_cons_succ, Option.some.injEq] at ho
            subst ho
            have p36 : b 36 = true := hd ⟨36, .data⟩ (by simp) rfl
            have p41 : b 41 = true := hd ⟨41, .data⟩ (by simp) rfl
            have e112 := (ev 36 112 rfl p36).trans vv36
            have e117 := (ev 41 117 rfl p41).trans vv41
            rw [vv42]
            refine does_value rfl (by intro c h; cases h) (w' := W) ?_ (hS)
            · simp [execOp, go_sem, e112, e117]
          | 43 =>
            simp only [List.getElem?_toArray, List.getElem?_cons_zero, List.getElem?_cons_succ, Option.some.injEq] at ho
            subst ho
            have p42 : b 42 = true := hd ⟨42, .data⟩ (by simp) rfl
            have e118 := (ev 42 118 rfl p42).trans vv42
            rw [vv43]
            refine does_value rfl (by intro c h; cases h) (w' := W) ?_ (hS)
            · simp [execOp, go_sem, e118]
          | k + 44 => simp at ho
        · intro b' W hS _
          have HS9 : Hid (Below w9.heap.size w9 W) := hS
          subst hLe
          clear hS cN cI7 cI9 cC7 cC9 m0 below9
          simp only [putAll, List.setIfInBounds_toArray, List.set_cons_zero, List.set_cons_succ]
          go_wp2
          go_ret
          exact ⟨by simp, H9.out.trans (HS9.out.mono H9.out.size)⟩
end Go.Proofs.YtphedokdckoccaaGreatDoor

namespace Go.Proofs.YtphedokdckoccaaGreatDoor
open Go.ChangeShapes Go.WideShapes Go.ChangeAt Go.RowKit Go.Deep

theorem Tryz.cells3c : Tryz.prog.cellsOf 3 = 1 := by kernel_rfl
theorem Tryz.cells4c : Tryz.prog.cellsOf 4 = 1 := by kernel_rfl
theorem Tryz.cellsLPut : Tryz.prog.cellsOf 170 = 3 := by kernel_rfl
theorem Tryz.cellsLPuts : Tryz.prog.cellsOf 31 = 1 := by kernel_rfl
theorem Tryz.cellsAct : Tryz.prog.cellsOf 33 = 2 := by kernel_rfl

theorem list2c {α : Type} {l : List α} (h : l.length = 2) : ∃ a b, l = [a, b] := by
  match l, h with
  | [a, b], _ => exact ⟨a, b, rfl⟩
theorem list3c {α : Type} {l : List α} (h : l.length = 3) : ∃ a b c, l = [a, b, c] := by
  match l, h with
  | [a, b, c], _ => exact ⟨a, b, c, rfl⟩

theorem cbytes_at {H : Type} {enc : TypeId × Value → H} {W : World} {fuel : Nat} {v : Value} {y : DataW H × List MemPlace} (h : DataW.trod enc Tryz.prog W 0 (fun _ => true) true fuel 55 [v] = some y) :
    ∃ (p : Option Addr) (c : Nat) (bs : By), v = .slice p bs.length c ∧ bs.length < 9223372036854775808 ∧ Bytes W p bs := by
  rcases open_ints Tryz.underlying55 Tryz.underlying5 Tryz.cells5 h with ⟨hcs, _⟩ | ⟨a, len, cap, zs, hcs, _, hl, hm, hz, _, hcell, hw⟩
  · simp at hcs
    exact ⟨none, 0, [], hcs, by decide, fun h => absurd h (by decide)⟩
  · simp at hcs
    have hz' : zs.length = cap := by simpa using hz
    obtain ⟨hb, hlen⟩ := bytes_of_cells (W := W) (a := some a) hl hz' hw (fun h => by cases h) (fun a' e i hi => by cases e; exact hcell i (by omega))
    exact ⟨some a, cap, _, by rw [hlen]; exact hcs, by rw [hlen]; unfold maxLen at hm; omega, hb⟩

theorem weightsAll_memc {H : Type} {P : Program} {e : TypeId} : ∀ {l : List (DataW H)} {d : DataW H}, d ∈ l → ∀ n ∈ d.weights P e, n ∈ DataW.weightsAll P e l
  | x :: l, d, hd, n, hn => by
    simp only [DataW.weightsAll, List.mem_append]
    rcases List.mem_cons.1 hd with rfl | h
    · exact Or.inl hn
    · exact Or.inr (weightsAll_memc h n hn)

/-- A slice that came in, element by element. -/
theorem elems_at {H : Type} {enc : TypeId × Value → H} {W : World} {fuel : Nat} {a : Option Addr} {len cap : Nat} {y : DataW H × List MemPlace} {t e : TypeId} {S : Nat} (hu : Tryz.prog.underlying t = some (.slice e)) (hS : Tryz.prog.cellsOf e = S) (h0 : 0 < S)
    {α : Type} (dflt : α) (R : Nat → Nat → α → Prop) (h : DataW.trod enc Tryz.prog W 0 (fun _ => true) true fuel t [.slice a len cap] = some y) (hwt : ∀ n ∈ y.1.weights Tryz.prog t, n ≤ reachBytes)
    (hel : ∀ (b o : Nat) (cs : List Value) (n : Nat) (x : DataW H × List MemPlace), W.cells? 0 ⟨b, o, none⟩ S = some cs → DataW.trod enc Tryz.prog W 0 (fun _ => true) true n e cs = some x → (∀ m ∈ x.1.weights Tryz.prog e, m ≤ reachBytes) → ∃ i, R b o i) :
    ∃ l : List α, l.length = len ∧ len < 9223372036854775808 ∧ len * Tryz.prog.bytesOf e ≤ reachBytes ∧ (0 < len → ∃ g o, a = some ⟨g, o, none⟩ ∧ ∀ (j : Nat) (x : α), l[j]? = some x → R g (o + j * S) x) := by
  rcases open_slice hu h with ⟨hcs, _⟩ | ⟨⟨b, off, spot⟩, len', cap', m, n, D, Pl, hcs, _, hl, hmax, hm, hx, hel'⟩
  · simp at hcs
    obtain ⟨rfl, rfl, rfl⟩ := hcs
    exact ⟨[], rfl, by decide, by simp, fun h => absurd h (by simp)⟩
  · simp at hcs
    obtain ⟨rfl, rfl, rfl⟩ := hcs
    simp only [if_true] at hm
    subst hm
    rw [hS] at hel'
    rw [hx] at hwt
    simp only [DataW.weights, hu, List.mem_cons, List.mem_append] at hwt
    have hw0 := hwt _ (.inl rfl)
    have hwD : ∀ k, k < len → ∀ i ∈ (D k).weights Tryz.prog e, i ≤ reachBytes := fun k hk i hi => hwt i (.inr (.inl (weightsAll_memc (List.mem_map.2 ⟨k, List.mem_range.2 hk, rfl⟩) i hi)))
    have hw1 : len * Tryz.prog.bytesOf e ≤ reachBytes := Nat.le_trans (Nat.mul_le_mul_right _ (by simp)) hw0
    have hlt63 : len < 9223372036854775808 := by unfold maxLen at hmax; omega
    by_cases hp : 0 < len
    · have hspot : spot = none := by
        obtain ⟨cs, hc, _⟩ := hel' 0 (by omega)
        obtain ⟨_, _, hcell⟩ := World.cells?_some hc
        have h0' := hcell 0 (by omega)
        have hl6 := (World.cells?_some hc).2.1
        rw [List.getElem?_eq_getElem (by omega)] at h0'
        simpa [Addr.add] using World.cell?_spot h0'
      subst hspot
      have hex : ∀ k, ∃ i : α, k < len → R b (off + k * S) i := by
        intro k
        by_cases hk : k < len
        · obtain ⟨cs, hc, ht⟩ := hel' k (by omega)
          rw [Addr.add_lit] at hc
          obtain ⟨i, h2⟩ := hel b (off + k * S) cs n _ hc ht (hwD k hk)
          exact ⟨i, fun _ => h2⟩
        · exact ⟨dflt, fun h => absurd h hk⟩
      obtain ⟨f, hf⟩ : ∃ f : Nat → α, ∀ k, k < len → R b (off + k * S) (f k) := ⟨fun k => (hex k).choose, fun k => (hex k).choose_spec⟩
      have hlen : ((List.range len).map f).length = len := by simp
      refine ⟨(List.range len).map f, hlen, hlt63, hw1, fun _ => ⟨b, off, rfl, fun j x hj => ?_⟩⟩
      have hlt := (List.getElem?_eq_some_iff.1 hj).1
      rw [hlen] at hlt
      rw [List.getElem?_map, List.getElem?_range hlt] at hj
      cases hj
      exact hf j hlt
    · have h0' : len = 0 := by omega
      subst h0'
      exact ⟨[], rfl, by decide, by simp, fun h => absurd h (by simp)⟩

theorem lput_at {H : Type} {enc : TypeId × Value → H} {W : World} {fuel ob oo : Nat} {cs : List Value} {x : DataW H × List MemPlace}
    (hc : W.cells? 0 ⟨ob, oo, none⟩ 3 = some cs) (h : DataW.trod enc Tryz.prog W 0 (fun _ => true) true fuel 170 cs = some x) :
    ∃ i : LP, (W.cell? ⟨ob, oo, none⟩ = some (.int .i64 i.block) ∧ W.cell? ⟨ob, oo + 1, none⟩ = some (.slice i.at_ i.b.length i.cap) ∧ W.cell? ⟨ob, oo + 2, none⟩ = some (.bool i.short)) ∧ i.b.length < 9223372036854775808 ∧ Bytes W i.at_ i.b := by
  obtain ⟨xs, n, _, _, hl, hlen, hf⟩ := DataW.trod_struct Tryz.underlying170 h
  rw [Tryz.cellsLPut] at hl
  obtain ⟨v0, v1, v2, rfl⟩ := list3c hl
  obtain ⟨y0, y1, y2, rfl⟩ := list3c (show xs.length = 3 from hlen)
  have f0 := hf 0 _ rfl
  have f1 := hf 1 _ rfl
  have f2 := hf 2 _ rfl
  simp [Tryz.cells3c, Tryz.cells26, Tryz.cells4c] at f0 f1 f2
  obtain ⟨s, e0, _⟩ := DataW.trod_int Tryz.underlying3 f0
  obtain ⟨sh, e2, _⟩ := DataW.trod_bool Tryz.underlying4 f2
  simp at e0 e2
  subst e0 e2
  obtain ⟨bp, bc, bs, rfl, hbl, hb⟩ := cbytes_at f1
  obtain ⟨_, _, hcell⟩ := World.cells?_some hc
  have c0 := hcell 0 (by omega)
  have c1 := hcell 1 (by omega)
  have c2 := hcell 2 (by omega)
  simp only [Addr.add_lit, Nat.add_zero] at c0 c1 c2
  exact ⟨⟨s, bp, bc, bs, sh⟩, ⟨c0, c1, c2⟩, hbl, hb⟩

theorem lputs_at {H : Type} {enc : TypeId × Value → H} {W : World} {fuel : Nat} {v : Value} {y : DataW H × List MemPlace} (h : DataW.trod enc Tryz.prog W 0 (fun _ => true) true fuel 31 [v] = some y) (hwt : ∀ n ∈ y.1.weights Tryz.prog 31, n ≤ reachBytes) :
    ∃ (q : Option Addr) (c : Nat) (ps : List LP), v = .slice q ps.length c ∧ ps.length ≤ 3518437208883 ∧ LPutsAt W q ps := by
  obtain ⟨a, len, cap, rfl⟩ : ∃ a len cap, v = .slice a len cap := by
    rcases open_slice Tryz.underlying31 h with ⟨hcs, _⟩ | ⟨a, len, cap, _, _, _, _, hcs, _⟩
    · simp at hcs; exact ⟨_, _, _, hcs⟩
    · simp at hcs; exact ⟨_, _, _, hcs⟩
  obtain ⟨l, rfl, _, hb, hr⟩ := elems_at (S := 3) Tryz.underlying31 Tryz.cellsLPut (by decide) (⟨0, none, 0, [], false⟩ : LP) (fun g o i => (W.cell? ⟨g, o, none⟩ = some (.int .i64 i.block) ∧ W.cell? ⟨g, o + 1, none⟩ = some (.slice i.at_ i.b.length i.cap) ∧ W.cell? ⟨g, o + 2, none⟩ = some (.bool i.short)) ∧ i.b.length < 9223372036854775808 ∧ Bytes W i.at_ i.b) h hwt
    (fun b o cs n x hc ht _ => lput_at hc ht)
  rw [show Tryz.prog.bytesOf 170 = 40 by kernel_rfl] at hb
  unfold reachBytes at hb
  refine ⟨a, cap, l, rfl, by omega, fun hp => ?_, fun j x hj => ?_⟩
  · obtain ⟨g, o, e, hx⟩ := hr hp
    exact ⟨g, o, e, fun j x hj => (hx j x hj).1⟩
  · obtain ⟨g, o, e, hx⟩ := hr (by have := (List.getElem?_eq_some_iff.1 hj).1; omega)
    exact (hx j x hj).2

theorem act_at {H : Type} {enc : TypeId × Value → H} {W : World} {fuel ob oo : Nat} {cs : List Value} {x : DataW H × List MemPlace}
    (hc : W.cells? 0 ⟨ob, oo, none⟩ 2 = some cs) (h : DataW.trod enc Tryz.prog W 0 (fun _ => true) true fuel 33 cs = some x) (hwt : ∀ n ∈ x.1.weights Tryz.prog 33, n ≤ reachBytes) :
    ∃ i : LA, (W.cell? ⟨ob, oo, none⟩ = some (.bool i.sync) ∧ W.cell? ⟨ob, oo + 1, none⟩ = some (.slice i.q i.ps.length i.cap)) ∧ i.ps.length ≤ 3518437208883 ∧ LPutsAt W i.q i.ps := by
  obtain ⟨xs, n, _, hx, hl, hlen, hf⟩ := DataW.trod_struct Tryz.underlying33 h
  rw [Tryz.cellsAct] at hl
  obtain ⟨v0, v1, rfl⟩ := list2c hl
  obtain ⟨y0, y1, rfl⟩ := list2c (show xs.length = 2 from hlen)
  have f0 := hf 0 _ rfl
  have f1 := hf 1 _ rfl
  simp [Tryz.cells4c, Tryz.cellsLPuts] at f0 f1
  obtain ⟨sy, e0, _⟩ := DataW.trod_bool Tryz.underlying4 f0
  simp at e0
  subst e0
  rw [hx] at hwt
  simp [DataW.weights, DataW.weightsEach, Tryz.underlying33] at hwt
  obtain ⟨q, c, ps, rfl, hpl, hps⟩ := lputs_at f1 (fun i hi => hwt i (.inr hi))
  obtain ⟨_, _, hcell⟩ := World.cells?_some hc
  have c0 := hcell 0 (by omega)
  have c1 := hcell 1 (by omega)
  simp only [Addr.add_lit, Nat.add_zero] at c0 c1
  exact ⟨⟨sy, q, c, ps⟩, ⟨c0, c1⟩, hpl, hps⟩

theorem acts_at {H : Type} {enc : TypeId × Value → H} {W : World} {fuel : Nat} {a : Option Addr} {len cap : Nat} {y : DataW H × List MemPlace} (h : DataW.trod enc Tryz.prog W 0 (fun _ => true) true fuel 22 [.slice a len cap] = some y) (hwt : ∀ n ∈ y.1.weights Tryz.prog 22, n ≤ reachBytes) :
    ∃ xs : List LA, xs.length = len ∧ len < 9223372036854775808 ∧ LActsAt W a xs := by
  obtain ⟨l, hl, hlt, _, hr⟩ := elems_at (S := 2) Tryz.underlying22 Tryz.cellsAct (by decide) (⟨false, none, 0, []⟩ : LA) (fun g o i => (W.cell? ⟨g, o, none⟩ = some (.bool i.sync) ∧ W.cell? ⟨g, o + 1, none⟩ = some (.slice i.q i.ps.length i.cap)) ∧ i.ps.length ≤ 3518437208883 ∧ LPutsAt W i.q i.ps) h hwt
    (fun b o cs n x hc ht hw => act_at hc ht hw)
  subst hl
  refine ⟨l, rfl, hlt, fun hp => ?_, fun j x hj => ?_⟩
  · obtain ⟨g, o, e, hx⟩ := hr hp
    exact ⟨g, o, e, fun j x hj => (hx j x hj).1⟩
  · obtain ⟨g, o, e, hx⟩ := hr (by have := (List.getElem?_eq_some_iff.1 hj).1; omega)
    exact (hx j x hj).2

set_option maxRecDepth 100000 in
theorem wcomm_contract (H : Type) (enc : TypeId × Value → H) (W : World) (base : Nat) (args : Array Value) (ds gs : List (DataW H)) (before : List MemPlace)
    (hval : ∀ (j : Nat) t v, Tryz.f3.params[j]? = some t → args[j]? = some v → Value.okWide Tryz.prog W .any base t v)
    (hW : DataW.Whole enc Tryz.prog Tryz.f3.params.toList Rows.walCommitsSpec.vars false W args.toList ds gs before)
    (hz : (DataW.weightsEach Tryz.prog (Tryz.f3.params.toList ++ (OpenSpec.ofChange Rows.walCommitsSpec).bare.plain.varTypes Tryz.prog) (ds ++ gs)).all (· ≤ reachBytes) = true) (hL : laidMetH Tryz.prog Rows.walCommitsRow.laid W) :
    Calls Tryz.prog 3 args W fun e W' => ∃ v, e = .returned v ∧ Rows.walCommitsSpec.post enc Tryz.prog Tryz.f3 false true false false W args v W' := by
  have hW' := hW
  obtain ⟨p, q, hA0, hV, rfl, hfz, hnd⟩ := hW
  have hA : DataW.TrodAll enc Tryz.prog W 0 (fun _ => true) true Tryz.f3.params.toList args.toList ds p := hA0
  rw [Tryz.params3] at hA hval hz
  obtain ⟨v0, vs0, d0, ds0, p0, q0, hargs, rfl, rfl, h0, r0⟩ := trodAll_cons hA
  obtain ⟨v1, vs1, d1, ds1, p1, q1, rfl, rfl, rfl, h1, r1⟩ := trodAll_cons r0
  obtain ⟨rfl, rfl, rfl⟩ := trodAll_nil r1
  obtain rfl : args = #[v0, v1] := by cases args; simp_all
  obtain ⟨rfl, rfl⟩ := trodVars_none hV
  obtain ⟨a0, rfl, rfl, rfl, w0⟩ := open_int Tryz.underlying3 (hval 0 3 v0 rfl rfl) h0
  obtain ⟨a1, len1, cap1, rfl⟩ := okWide_slice Tryz.underlying22 (hval 1 22 v1 rfl rfl)
  have k1 := h1
  have lt1 : ∀ x ∈ p1, x.block < W.heap.size := by obtain ⟨m, hm⟩ := k1; exact DataW.trod_lt m _ _ _ hm
  have hw1 : ∀ n ∈ d1.weights Tryz.prog 22, n ≤ reachBytes := fun n hn => by
    have := List.all_eq_true.1 hz n (DataW.weights_mem_each (j := 1) (t := 22) (d := d1) rfl rfl n hn)
    simpa using this
  obtain ⟨xs, rfl, hlt, hA1⟩ : ∃ xs : List LA, xs.length = len1 ∧ len1 < 9223372036854775808 ∧ LActsAt W a1 xs := by
    obtain ⟨fuel, hf⟩ := h1
    exact acts_at (y := (d1, p1)) (by simpa [Value.cells] using hf) hw1
  clear hA0 hw1
  refine (commits_many a0 a1 cap1 xs W (tab_of_laid hL) (i64_wf w0).1 (i64_wf w0).2 hA1 hlt).mono fun e W' ⟨he, bel⟩ => ?_
  subst he
  exact ⟨_, rfl, _, _, _, [], _, [], hW', trodAll_mk1 (shut_bool Tryz.underlying4 _),
    (trodAll_cons_mk (shut_int Tryz.underlying3 w0) (trodAll_cons_mk (Below.trod laidOut (by kernel_rfl) (of_decide_eq_true (by kernel_rfl)) k1 bel lt1) trodAll_mk0)), rfl, bel.frame _, fun h => by cases h⟩

theorem wcomm_laid_met (os : Os) : laidMet Tryz.prog Rows.walCommitsRow.laid ((World.doorLaid Tryz.prog 400 os).forCall (fun _ _ => 0) ⟨#[], #[.int .i64 0, .slice none 0 0], []⟩).memory :=
  laidMet_of_run' 20 (by kernel_rfl) (by kernel_rfl)
theorem wcomm_reads (os : Os) {H : Type} (enc : TypeId × Value → H) : ∃ places, DataW.whole enc Tryz.prog ((World.doorLaid Tryz.prog 400 os).forCall (fun _ _ => 0) ⟨#[], #[.int .i64 0, .slice none 0 0], []⟩).memory Tryz.f3.params.toList Rows.walCommitsSpec.vars false (#[.int .i64 0, .slice none 0 0] : Array Value).toList 8 = some ([.lit (.int .i64 0), .nil], [], places) :=
  ⟨[], by kernel_rfl⟩

set_option maxRecDepth 100000 in
theorem wcomm_lifted (os : Os) (started : os.Started) (H : Type) (enc : TypeId × Value → H) (F : Stop.Interp) :
    ReturnsInHanded {} Tryz.checked os 3 .any ((OpenSpec.ofChange Rows.walCommitsSpec).preRow enc Tryz.prog Tryz.f3 Rows.walCommitsRow.domain false Rows.walCommitsRow.laid) (((OpenSpec.ofChange Rows.walCommitsSpec).at F).post enc Tryz.prog Tryz.f3 false true false false) := by
  obtain ⟨places, hx⟩ := wcomm_reads os enc
  refine returnsInHanded_of_row (C := Tryz.checked) (s := OpenSpec.ofChange Rows.walCommitsSpec) own started (by kernel_rfl) Tryz.func3
    (witness_row_at (enc := enc) (C := Tryz.checked) false (World.doorLaid Tryz.prog 400 os) #[.int .i64 0, .slice none 0 0] rfl (by kernel_rfl) (by kernel_rfl) (by kernel_rfl)
      (OpenSpec.preRow_of_cond 8 hx (by kernel_rfl) (fun k hk => by cases hk) (by kernel_rfl) (wcomm_laid_met os))) ?_
  intro W base args ds gs before hval hW _ _ hz hL _ _
  exact wcomm_contract H enc W base args ds gs before hval hW hz hL

theorem wcomm_said : Rows.WalCommitsSaid :=
  OpenClaim.holds_of_cond 3 Tryz.f3 rfl rfl rfl rfl rfl rfl rfl ⟨rfl, rfl, rfl, rfl, rfl⟩ rfl rfl rfl rfl rfl (by kernel_rfl) Tryz.func3 (by kernel_rfl)
    (of_decide_eq_true (by kernel_rfl)) (by unfold Func.isWrapper; first | (rw [if_pos (by decide +kernel)]; kernel_rfl) | (rw [if_neg (by decide +kernel)]; exact ⟨rfl, rfl⟩))
    (fun os started H enc _ F => by rw [OpenClaim.pre_eq_preRow]; exact wcomm_lifted os started H enc F)

theorem wcomm_plain (f : FuncId) (fn : Func) (hf : Tryz.pinned.checked.prog.funcNamed "lagoon/lagoonlaw6.WalCommits" = some f) (hfn : Tryz.pinned.checked.prog.funcs[f]? = some fn) :
    true = Tryz.pinned.checked.prog.looks [] ∧ ∀ (j : Nat) t, fn.params[j]? = some t → Tryz.pinned.checked.prog.wantsStandIn t = false := by
  obtain rfl : f = 3 := Option.some.inj ((show Tryz.prog.funcNamed "lagoon/lagoonlaw6.WalCommits" = some 3 by kernel_rfl).symm.trans hf) |>.symm
  obtain rfl : fn = Tryz.f3 := (Option.some.inj (Tryz.func3.symm.trans hfn)).symm
  refine ⟨by kernel_rfl, fun j t ht => ?_⟩
  rw [Tryz.params3] at ht
  have hm : t ∈ [3, 22] := by simpa using Array.mem_of_getElem? ht
  have hall : ([3, 22].all fun u => !Tryz.prog.wantsStandIn u) = true := by kernel_rfl
  exact (show Tryz.prog.wantsStandIn t = false by simpa using List.all_eq_true.1 hall t hm)

theorem walCommits_holds : Rows.WalCommitsCardSaid :=
  Claim7.holds_tied_plain_at .later [] _ _ _ _ wcomm_said (fun _ h => by cases h) (by kernel_rfl) (fun _ h => by cases h) walCommits_row_tie rfl ⟨rfl, rfl⟩ (by kernel_rfl) rfl wcomm_plain (by kernel_rfl)

#print axioms walCommits_holds
end Go.Proofs.YtphedokdckoccaaGreatDoor
