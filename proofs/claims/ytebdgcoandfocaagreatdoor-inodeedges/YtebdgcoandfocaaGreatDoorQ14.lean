/-
  What the proof leans on, part 15.
-/
import Derived.Test.YtebdgcoandfocaaGreatDoorQ13
import Derived.Test.YtebdgcoandfocaaGreatDoorQ11
import Derived.Laws.Rows
import Derived.Laws.CopyOwn
import Derived.Laws.StructEq

/-
  A cache as a store of blocks: what each block holds (V), how often each is pinned; room for all.
-/
namespace Go.Proofs.YtebdgcoandfocaaGreatDoor
open Go.RowKit Go.Maps Go.Sort Go.Shelf

theorem clone_own (s o : Nat) (bs : By) (c : Nat) (w : World) (hb : Bytes w (some ⟨s, o, none⟩) bs) (h1 : 1 ≤ bs.length) (hl : bs.length ≤ 1000000) :
    Calls Tryz.prog 92 #[.slice (some ⟨s, o, none⟩) bs.length c] w fun e w' => ∃ g cap, e = .returned (.slice (some ⟨g, 0, none⟩) bs.length cap) ∧ w'.ownsRow w.heap.size 5 1 (.slice (some ⟨g, 0, none⟩) bs.length cap) bs.length (bs.map u8v) ∧ Below w.heap.size w w' := by
  obtain ⟨i0, hi, hz0, hz1, hz2⟩ := info_parts Tryz.info5
  obtain ⟨s', o', e, hx⟩ := hb (by omega)
  cases e
  have c := AnyE.slices_Clone Tryz.cloneBy i0 (.int .u8 0) 1 1 hi hz0 hz1 hz2 rfl (by decide) Tryz.sizeOf5 s o bs.length c (bs.map u8v) w (by simp) (by unfold maxLen; omega) (by omega)
    (fun j u hj => by
      rw [List.getElem?_map] at hj
      obtain ⟨x, hx', rfl⟩ := Option.map_eq_some_iff.1 hj
      exact hx j x hx') (u8v_one bs)
  refine (show Calls Tryz.prog 92 _ _ _ from c).mono ?_
  rintro e w' ⟨v', rfl, hrow, hnil, hB⟩
  obtain ⟨g, cap, rfl, hg, hbb⟩ := owns_bytes hrow h1
  exact ⟨g, cap, rfl, hrow, hB⟩
theorem own_base {w : World} {b b' : Nat} {e : TypeId} {size : Nat} {v : Value} {n : Nat} {xs : List Value} (h : w.ownsRow b e size v n xs) (hb : b' ≤ b) : w.ownsRow b' e size v n xs := by
  refine ⟨h.1, ?_⟩
  rcases h.2 with h0 | ⟨g, cap, cur, h1, h2, h3⟩
  · exact .inl h0
  · exact .inr ⟨g, cap, cur, h1, by omega, h3⟩

set_option maxRecDepth 8000 in
set_option maxHeartbeats 1000000 in
theorem get_own (s : CS) (vs : VS) (B : Nat → By) (block b : Nat) (w : World) (h : CI w s vs B) (hz : CB s b) (hbz : b < 800000) (hb : block < nbOf vs.d.n) (hok : (acOf s B).held block = true ∨ (acOf s B).full = false) :
    Calls Tryz.prog 68 #[ep s.c, .int .i64 (block : Nat)] w fun e w' => ∃ g cap, e = .returned (.tuple #[.slice (some ⟨g, 0, none⟩) 512 cap, .int .i64 0]) ∧ ∃ s' B', (∀ w'', But (fun k => k = g) w' w'' → Cst w w'' s s' vs B' b) ∧ acOf s' B' = (acOf s B).meet block (vs.cont block) id ∧ w'.ownsRow w.heap.size 5 1 (.slice (some ⟨g, 0, none⟩) 512 cap) 512 (((acOf s' B').dataOf block).map u8v) ∧ ((acOf s' B').dataOf block).length = 512 := by
  have cM := meet_ok s vs B block b w h hz (by omega) hb hok
  clear h
  go_enter Tryz.func68, Tryz.ntmps68
  go_wp2_with (go_at_call 90; refine cM.mono ?_; rintro e w1 ⟨a, s1, B1, rfl, hM⟩; clear cM; refine Stop.out ?_)
  refine Stop.mk ?_
  have cU := use_cx hM.cx hM.inA hM.cb.1 (by omega)
  rw [hM.c] at cU
  have H1 : Hid (Mx w w1 s s1 vs B B1 block a b) := hM
  clear hM
  go_wp2_with (go_at_call 91; refine cU.mono ?_; rintro e w2 ⟨rfl, s2, hI2, hU2, hac2⟩; clear cU; refine Stop.out ?_)
  refine Stop.mk ?_
  obtain ⟨ip, icap, I', he2⟩ := hU2.eq
  have ha2 : a ∈ s2.A := by rw [he2]; exact H1.out.inA
  obtain ⟨x, hE⟩ := hI2.cm.entAny ha2
  obtain ⟨hn, hl, hcp, g0, hp, hbb, htg⟩ := hI2.dat a ha2
  have d1 : w2.cell? ⟨a, 1, none⟩ = some (.slice (some ⟨g0, 0, none⟩) 512 (s2.U a).cp) := by
    rw [cellOf hE 1, ← hp]
    show some (Value.slice (s2.U a).p (s2.U a).n (s2.U a).cp) = _
    rw [hn]
  have cl := clone_own g0 0 (B1 a) (s2.U a).cp w2 hbb (by omega) (by omega)
  rw [hl] at cl
  have hblk2 : (s2.U a).block = block := by
    rw [he2]
    show (updU s1.U a _ a).block = block
    rw [updU_same]; exact H1.out.blk
  have hdat : (acOf s2 B1).dataOf block = B1 a := by rw [← hblk2]; exact dataOf_ent hI2.cm ha2
  have hB2 : But (cMine w s.h) w w2 := cMine_trans H1.out.but (by rw [← H1.out.h]; exact hU2.but)
  have hac : acOf s2 B1 = (acOf s B).meet block (vs.cont block) id := by
    rw [hac2, H1.out.blk, H1.out.ac]
    unfold AC.meet
    split <;> rfl
  have hcb : CB s2 (b + 1) := by
    obtain ⟨⟨q1, q2, q3, q4, q5⟩, q6⟩ := H1.out.cb
    have := hz.uses
    rw [he2]
    exact ⟨q1, by show s1.uses + 1 ≤ _; omega, q3, q4, q5⟩
  have hc2 : s2.c = s.c := by rw [he2]; exact H1.out.c
  have hh2 : s2.h = s.h := by rw [he2]; exact H1.out.h
  have H2 : Hid (CI w2 s2 vs B1 ∧ CB s2 (b + 1) ∧ s2.c = s.c ∧ s2.h = s.h ∧ But (cMine w s.h) w w2 ∧ acOf s2 B1 = (acOf s B).meet block (vs.cont block) id ∧ (acOf s2 B1).dataOf block = B1 a ∧ (B1 a).length = 512) := ⟨hI2, hcb, hc2, hh2, hB2, hac, hdat, hl⟩
  clear hI2 hU2 hac2 he2 ha2 hE hn hcp hp hbb htg hblk2 hdat hB2 hac hcb hc2 hh2 H1 hl
  go_wp2_with (go_at_call 92; refine cl.mono ?_; rintro e w3 ⟨g, cap, rfl, ho3, hB3⟩; clear cl)
  go_ret2
  obtain ⟨hI2, hcb, hc2, hh2, hB2, hac, hdat, hl⟩ := H2.out
  have hg2 : w2.heap.size ≤ g := by
    rcases ho3.2 with ⟨e, _⟩ | ⟨g', cap', cur', e, hg', _⟩
    · cases e
    · cases e; exact hg'
  have hBw : ∀ w'', But (fun k => k = g) w3 w'' → Below w2.heap.size w2 w'' := fun w'' hb => hB3.trans (hb.below hB3.size (fun k hk => by have : k = g := hk; omega))
  exact ⟨g, cap, rfl, s2, B1, fun w'' hb => ⟨hI2.below (hBw w'' hb), hcb, hc2, hh2, hB2.after (But.of_below (S := fun _ => False) (hBw w'' hb)) (fun _ _ h => h.elim)⟩, hac, by rw [hdat]; exact own_base ho3 hB2.size, by rw [hdat]; exact hl⟩

/- Pure: what the cache's list says. -/
def updF {α : Type} (f : Nat → α) (x : Nat) (v : α) : Nat → α := fun y => if y = x then v else f y
theorem updF_same {α : Type} (f : Nat → α) (x : Nat) (v : α) : updF f x v x = v := if_pos rfl
theorem updF_ne {α : Type} (f : Nat → α) {x y : Nat} (v : α) (h : y ≠ x) : updF f x v y = f y := if_neg h

structure GA (A : AC) (nb : Nat) (cont V : Nat → By) (pin : Nat → Nat) : Prop where
  room : A.room = 1000
  nd : (A.L.map (·.block)).Nodup
  el : ∀ e ∈ A.L, e.block < nb ∧ e.data = V e.block ∧ e.pins = pin e.block
  nh : ∀ x, A.held x = false → V x = cont x ∧ pin x = 0

theorem heldG_mem {A : AC} {x : Nat} : A.held x = true ↔ ∃ e ∈ A.L, e.block = x := by simp [AC.held]
theorem heldG_not {A : AC} {x : Nat} : A.held x = false ↔ ∀ e ∈ A.L, e.block ≠ x := by
  rw [← Bool.not_eq_true, heldG_mem]
  constructor
  · intro h e he hx; exact h ⟨e, he, hx⟩
  · rintro h ⟨e, he, hx⟩; exact h e he hx
theorem GA.len {A : AC} {nb : Nat} {cont V : Nat → By} {pin : Nat → Nat} (h : GA A nb cont V pin) : A.L.length ≤ nb := by
  have := len_sub (A := List.range nb) h.nd (fun a ha => by
    obtain ⟨e, he, rfl⟩ := List.mem_map.1 ha
    exact List.mem_range.2 (h.el e he).1)
  simpa using this
theorem GA.notFull {A : AC} {nb : Nat} {cont V : Nat → By} {pin : Nat → Nat} (h : GA A nb cont V pin) (hn : nb < 1000) : A.full = false := by
  have := h.len
  have hr := h.room
  unfold AC.full
  rw [decide_eq_false (by omega), Bool.false_and]
theorem GA.evict {A : AC} {nb : Nat} {cont V : Nat → By} {pin : Nat → Nat} (h : GA A nb cont V pin) (hn : nb < 1000) : A.evict = A := by
  have := h.len
  have hr := h.room
  unfold AC.evict
  rw [if_pos (by omega)]

/-- Each entry of one block is turned. -/
theorem GA.turn {A A' : AC} {nb x : Nat} {cont V V' : Nat → By} {pin pin' : Nat → Nat} (h : GA A nb cont V pin) (F : HE → HE) (hr : A'.room = A.room) (hL : A'.L = A.L.map fun e => if e.block = x then F e else e) (hx : A.held x = true)
    (hF : ∀ e ∈ A.L, e.block = x → (F e).block = x ∧ (F e).data = V' x ∧ (F e).pins = pin' x) (hV : ∀ y, y ≠ x → V' y = V y) (hp : ∀ y, y ≠ x → pin' y = pin y) : GA A' nb cont V' pin' := by
  have hb : A'.L.map (·.block) = A.L.map (·.block) := by
    rw [hL, List.map_map]
    refine List.map_congr_left fun e he => ?_
    show (if e.block = x then F e else e).block = e.block
    split
    · rename_i hb; rw [(hF e he hb).1, hb]
    · rfl
  have hh : ∀ y, A'.held y = A.held y := by
    intro y
    rw [Bool.eq_iff_iff, heldG_mem, heldG_mem]
    have e1 : (∃ e ∈ A'.L, e.block = y) ↔ y ∈ A'.L.map (·.block) := by simp
    have e2 : (∃ e ∈ A.L, e.block = y) ↔ y ∈ A.L.map (·.block) := by simp
    rw [e1, e2, hb]
  refine ⟨hr.trans h.room, by rw [hb]; exact h.nd, ?_, ?_⟩
  · intro e he
    rw [hL] at he
    obtain ⟨e0, he0, rfl⟩ := List.mem_map.1 he
    obtain ⟨h1, h2, h3⟩ := h.el e0 he0
    by_cases hb0 : e0.block = x
    · rw [if_pos hb0]
      obtain ⟨f1, f2, f3⟩ := hF e0 he0 hb0
      rw [f1, f2, f3]
      exact ⟨hb0 ▸ h1, rfl, rfl⟩
    · rw [if_neg hb0, hV _ hb0, hp _ hb0]
      exact ⟨h1, h2, h3⟩
  · intro y hy
    rw [hh] at hy
    have hne : y ≠ x := fun e => by rw [e, hx] at hy; cases hy
    rw [hV y hne, hp y hne]
    exact h.nh y hy

/-- A block that isn't held is held. -/
theorem GA.add {A A' : AC} {nb x : Nat} {cont V : Nat → By} {pin : Nat → Nat} (h : GA A nb cont V pin) (hr : A'.room = A.room) (hL : A'.L = A.L ++ [⟨x, 0, 0, false, cont x⟩]) (hx : A.held x = false) (hxn : x < nb) : GA A' nb cont V pin ∧ A'.held x = true := by
  have hn := heldG_not.1 hx
  obtain ⟨hv, hp⟩ := h.nh x hx
  refine ⟨⟨hr.trans h.room, ?_, ?_, ?_⟩, heldG_mem.2 ⟨_, by rw [hL]; exact List.mem_append_right _ (List.mem_singleton.2 rfl), rfl⟩⟩
  · rw [hL, List.map_append, List.nodup_append]
    refine ⟨h.nd, by simp, ?_⟩
    intro a ha b hb
    obtain ⟨e, he, rfl⟩ := List.mem_map.1 ha
    simp at hb
    subst hb
    exact hn e he
  · intro e he
    rw [hL] at he
    rcases List.mem_append.1 he with he | he
    · exact h.el e he
    · rw [List.mem_singleton.1 he]
      exact ⟨hxn, hv.symm, hp.symm⟩
  · intro y hy
    refine h.nh y (heldG_not.2 fun e he => ?_)
    exact heldG_not.1 hy e (by rw [hL]; exact List.mem_append_left _ he)

theorem GA.meet {A : AC} {nb x : Nat} {cont V : Nat → By} {pin pin' : Nat → Nat} (h : GA A nb cont V pin) (hn : nb < 1000) (hx : x < nb) (f : HE → HE) (hf : ∀ e, (f e).block = e.block ∧ (f e).data = e.data ∧ (e.pins = pin x → (f e).pins = pin' x)) (hp : ∀ y, y ≠ x → pin' y = pin y) :
    GA (A.meet x (cont x) f) nb cont V pin' ∧ (A.meet x (cont x) f).held x = true := by
  have key : ∀ (A1 : AC), GA A1 nb cont V pin → A1.held x = true → GA (AC.touch A1 x f) nb cont V pin' ∧ (AC.touch A1 x f).held x = true := by
    intro A1 h1 hh
    refine ⟨h1.turn (fun e => f { e with used := A1.time + 1 }) rfl rfl hh ?_ (fun _ _ => rfl) hp, ?_⟩
    · intro e he hb
      obtain ⟨f1, f2, f3⟩ := hf { e with used := A1.time + 1 }
      obtain ⟨e1, e2, e3⟩ := h1.el e he
      exact ⟨f1.trans hb, f2.trans (by rw [← hb]; exact e2), f3 (by rw [← hb]; exact e3)⟩
    · obtain ⟨e, he, hb⟩ := heldG_mem.1 hh
      refine heldG_mem.2 ⟨_, List.mem_map.2 ⟨e, he, rfl⟩, ?_⟩
      rw [if_pos hb]
      exact ((hf _).1).trans hb
  unfold AC.meet
  cases hh : A.held x with
  | true =>
    rw [if_pos rfl]
    exact key _ ⟨h.room, h.nd, h.el, h.nh⟩ hh
  | false =>
    rw [if_neg (by simp), h.evict hn]
    obtain ⟨h1, h2⟩ := h.add (A' := { A.add x (cont x) with miss := A.miss + 1 }) rfl rfl hh hx
    exact key _ h1 h2
theorem GA.dataOf {A : AC} {nb x : Nat} {cont V : Nat → By} {pin : Nat → Nat} (h : GA A nb cont V pin) (hx : A.held x = true) : A.dataOf x = V x := by
  unfold AC.dataOf
  cases hf : A.L.find? (fun e => e.block == x) with
  | none =>
    obtain ⟨e, he, hb⟩ := heldG_mem.1 hx
    have := List.find?_eq_none.1 hf e he
    simp [hb] at this
  | some e =>
    have h1 := List.mem_of_find?_eq_some hf
    have h2 : e.block = x := by simpa using List.find?_some hf
    show e.data = V x
    rw [← h2]; exact (h.el e h1).2.1

/-- A cache as a store. -/
structure LC (w0 w : World) (c : Nat) (vs : VS) (V : Nat → By) (pin : Nat → Nat) (b : Nat) : Prop where
  st : ∃ A, CW w0 w c vs A b ∧ GA A (nbOf vs.d.n) vs.cont V pin

theorem LC.nb {w0 w : World} {c : Nat} {vs : VS} {V : Nat → By} {pin : Nat → Nat} {b : Nat} (h : LC w0 w c vs V pin b) : nbOf vs.d.n ≤ 223 := by
  obtain ⟨A, h1, _⟩ := h.st
  obtain ⟨s, B, h2, _⟩ := h1.st
  exact h2.nb
theorem LC.below {w0 w w' : World} {c : Nat} {vs : VS} {V : Nat → By} {pin : Nat → Nat} {b : Nat} (h : LC w0 w c vs V pin b) (hb : Below w.heap.size w w') : LC w0 w' c vs V pin b := by
  obtain ⟨A, h1, h2⟩ := h.st
  exact ⟨A, h1.below hb, h2⟩
theorem LC.foreign {w0 w w' : World} {c : Nat} {vs : VS} {V : Nat → By} {pin : Nat → Nat} {b : Nat} {S : Nat → Prop} (h : LC w0 w c vs V pin b) (hb : But S w w') (hF : Foreign w S) : LC w0 w' c vs V pin b := by
  obtain ⟨A, h1, h2⟩ := h.st
  exact ⟨A, h1.foreign hb hF, h2⟩

theorem lc_get (w0 w : World) (c : Nat) (vs : VS) (V : Nat → By) (pin : Nat → Nat) (b x : Nat) (h : LC w0 w c vs V pin b) (hb : b < 800000) (hx : x < nbOf vs.d.n) :
    Calls Tryz.prog 68 #[ep c, .int .i64 (x : Nat)] w fun e w' => ∃ g cap, e = .returned (.tuple #[.slice (some ⟨g, 0, none⟩) 512 cap, .int .i64 0]) ∧ (∀ w'', But (fun k => k = g) w' w'' → LC w0 w'' c vs V pin (b + 1)) ∧ But (Cmn w0 w) w w' ∧ w'.ownsRow w.heap.size 5 1 (.slice (some ⟨g, 0, none⟩) 512 cap) 512 ((V x).map u8v) ∧ (V x).length = 512 := by
  have hn := h.nb
  obtain ⟨A, hC, hG⟩ := h.st
  obtain ⟨hG', hh⟩ := hG.meet (pin' := pin) (by omega) hx id (fun e => ⟨rfl, rfl, fun h => h⟩) (fun _ _ => rfl)
  obtain ⟨s, B, h1, h2, rfl, rfl, h5⟩ := hC.st
  refine (get_own s vs B x b w h1 h2 hb hx (.inr (hG.notFull (by omega)))).mono ?_
  rintro e w' ⟨g, cap, rfl, s', B', hC, hA, hby, hlen⟩
  rw [hA, hG'.dataOf hh] at hby hlen
  exact ⟨g, cap, rfl, fun w'' hb => ⟨_, ⟨s', B', (hC w'' hb).ci, (hC w'' hb).cb, (hC w'' hb).c, hA, by rw [(hC w'' hb).h]; exact h5⟩, hG'⟩, (hC w' (But.refl _ _)).but.mono (fun k _ hk => cmn_of h1 h5 k hk), hby, hlen⟩

theorem lc_pin (w0 w : World) (c : Nat) (vs : VS) (V : Nat → By) (pin : Nat → Nat) (b x : Nat) (h : LC w0 w c vs V pin b) (hb : b < 800000) (hx : x < nbOf vs.d.n) (hp : ∀ y, pin y < 1000000) :
    Calls Tryz.prog 85 #[ep c, .int .i64 (x : Nat)] w fun e w' => e = .returned (.int .i64 0) ∧ LC w0 w' c vs V (updF pin x (pin x + 1)) (b + 1) ∧ But (Cmn w0 w) w w' := by
  have hn := h.nb
  obtain ⟨A, hC, hG⟩ := h.st
  obtain ⟨hG', hh⟩ := hG.meet (pin' := updF pin x (pin x + 1)) (by omega) hx (fun x => { x with pins := x.pins + 1 }) (fun e => ⟨rfl, rfl, fun h => by rw [updF_same]; show e.pins + 1 = _; rw [h]⟩) (fun y hy => updF_ne _ _ hy)
  refine (cw_pin w0 w c vs A b x hC hb hx (.inr (hG.notFull (by omega))) (fun e he => by rw [(hG.el e he).2.2]; exact hp _)).mono ?_
  rintro e w' ⟨rfl, hC', hb'⟩
  exact ⟨rfl, ⟨_, hC', hG'⟩, hb'⟩

theorem lc_put (w0 w : World) (c : Nat) (vs : VS) (V : Nat → By) (pin : Nat → Nat) (b x : Nat) (q : Option Addr) (cp : Nat) (bs : By) (h : LC w0 w c vs V pin b) (hb : b < 800000) (hx : 0 < pin x) (hbs : Bytes w q bs) (hbl : bs.length = 512) (htag : ∀ g o, q = some ⟨g, o, none⟩ → ∃ cs fr, w.heap[g]? = some (.cells cs 5 fr)) :
    Calls Tryz.prog 87 #[ep c, .int .i64 (x : Nat), .slice q 512 cp] w fun e w' => e = .returned (.int .i64 0) ∧ LC w0 w' c vs (updF V x bs) pin (b + 1) ∧ But (Cmn w0 w) w w' := by
  obtain ⟨A, hC, hG⟩ := h.st
  have hh : A.held x = true := by
    cases hh : A.held x with
    | true => rfl
    | false => have := (hG.nh x hh).2; omega
  have hG' : GA (A.put x bs) (nbOf vs.d.n) vs.cont (updF V x bs) pin := by
    unfold AC.put
    rw [if_pos hh]
    refine hG.turn (fun e => putF bs { e with used := A.time + 1 }) rfl rfl hh ?_ (fun y hy => updF_ne _ _ hy) (fun _ _ => rfl)
    intro e he hb
    refine ⟨hb, (updF_same _ _ _).symm, ?_⟩
    rw [← hb]; exact (hG.el e he).2.2
  obtain ⟨s, B, h1, h2, rfl, rfl, h5⟩ := hC.st
  obtain ⟨e, hm, rfl⟩ := heldG_mem.1 hh
  obtain ⟨a, ha, rfl⟩ := List.mem_map.1 hm
  by_cases hd : (s.U a).dirty = true
  · refine (put_dirty s vs B a b q cp bs w h1 h2 ha hd hbs hbl hb).mono ?_
    rintro e w' ⟨rfl, s', B', hC, hA⟩
    exact ⟨rfl, ⟨_, ⟨s', B', hC.ci, hC.cb, hC.c, hA, by rw [hC.h]; exact h5⟩, hG'⟩, hC.but.mono (fun k _ hk => cmn_of h1 h5 k hk)⟩
  · refine (put_held s vs B a b q cp bs w h1 h2 ha (by simpa using hd) hbs hbl hb htag).mono ?_
    rintro e w' ⟨rfl, s', B', hC, hA⟩
    exact ⟨rfl, ⟨_, ⟨s', B', hC.ci, hC.cb, hC.c, hA, by rw [hC.h]; exact h5⟩, hG'⟩, hC.but.mono (fun k _ hk => cmn_of h1 h5 k hk)⟩

theorem lc_unpin (w0 w : World) (c : Nat) (vs : VS) (V : Nat → By) (pin : Nat → Nat) (b x : Nat) (h : LC w0 w c vs V pin b) (hx : 0 < pin x) (hx2 : pin x < 1000000) :
    Calls Tryz.prog 106 #[ep c, .int .i64 (x : Nat)] w fun e w' => e = .returned (.int .i64 0) ∧ LC w0 w' c vs V (updF pin x (pin x - 1)) (b + 1) ∧ But (Cmn w0 w) w w' := by
  obtain ⟨A, hC, hG⟩ := h.st
  have hh : A.held x = true := by
    cases hh : A.held x with
    | true => rfl
    | false => have := (hG.nh x hh).2; omega
  have hG' : GA (A.unpin x) (nbOf vs.d.n) vs.cont V (updF pin x (pin x - 1)) := by
    unfold AC.unpin
    refine hG.turn (fun e => { e with pins := e.pins - 1 }) rfl rfl hh ?_ (fun _ _ => rfl) (fun y hy => updF_ne _ _ hy)
    intro e he hb
    obtain ⟨e1, e2, e3⟩ := hG.el e he
    refine ⟨hb, by rw [← hb]; exact e2, ?_⟩
    rw [updF_same]
    show e.pins - 1 = pin x - 1
    rw [e3, hb]
  obtain ⟨e, hm, hb⟩ := heldG_mem.1 hh
  refine (cw_unpin w0 w c vs A b x hC ⟨e, hm, hb, by rw [(hG.el e hm).2.2, hb]; exact hx, by rw [(hG.el e hm).2.2, hb]; exact hx2⟩).mono ?_
  rintro e w' ⟨rfl, hC', hb'⟩
  exact ⟨rfl, ⟨_, hC', hG'⟩, hb'⟩

end Go.Proofs.YtebdgcoandfocaaGreatDoor

/-
  Package inode: blocks of numbers: tableOf and block.
-/
namespace Go.Proofs.YtebdgcoandfocaaGreatDoor
open Go.RowKit

/-- What a block of numbers says. -/
def tabOf (bs : By) : List (BitVec 32) := (List.range 64).map fun k => numOf bs k
def TabAt (w : World) (g : Nat) (ns : List (BitVec 32)) : Prop := w.heap[g]? = some (.cells (ns.map u32v).toArray 145 (0, 0))
theorem TabAt.num {w : World} {g : Nat} {ns : List (BitVec 32)} (h : TabAt w g ns) {i : Nat} {n : BitVec 32} (hn : ns[i]? = some n) : w.cell? ⟨g, i, none⟩ = some (u32v n) := by
  rw [cellOf h i, List.getElem?_toArray, List.getElem?_map, hn]; rfl
theorem TabAt.lt {w : World} {g : Nat} {ns : List (BitVec 32)} (h : TabAt w g ns) : g < w.heap.size := (Array.getElem?_eq_some_iff.1 h).1
theorem TabAt.set {w : World} {g : Nat} {ns : List (BitVec 32)} (h : TabAt w g ns) (i : Nat) (n : BitVec 32) : TabAt (w.setCell ⟨g, i, none⟩ (u32v n)) g (ns.set i n) := by
  unfold TabAt at *
  simp [World.setCell, Array.getElem?_modify, h, List.map_set]
theorem Tryz.infoTable : (Tryz.prog.info? 145).map (·.size) = some 64 := by kernel_rfl
theorem tab_done (bs : By) (ns : List (BitVec 32)) (hl : ns.length = 64) (h : ∀ k, k < 64 → ns[k]? = some (numOf bs k)) : ns = tabOf bs := by
  apply List.ext_getElem?
  intro k
  by_cases hk : k < 64
  · rw [h k hk]; simp [tabOf, hk]
  · rw [List.getElem?_eq_none (by omega), List.getElem?_eq_none (by simp [tabOf]; omega)]

/- The operations on whole tables. -/
def rowT (ns : List (BitVec 32)) : Array Value := (ns.map u32v).toArray
theorem rowT_size (ns : List (BitVec 32)) : (rowT ns).size = ns.length := by simp [rowT]
theorem rowT_one (ns : List (BitVec 32)) : (rowT ns).all (·.oneCell') = true := by
  rw [rowT, Array.all_eq_true']
  intro x hx
  obtain ⟨n, _, rfl⟩ := List.mem_map.1 (by simpa using hx)
  rfl
theorem wpList_loadT {w : World} {ops : Array Oper} {rest : List Oper} {o : Oper} {a : Act} {Q : Exit → Act → World → Prop} (hgd : o.guard = none) (x : Operand) (ho : o.op = .load 145 x)
    (g : Nat) (hx : a.eval x = .pointer (some ⟨g, 0, none⟩)) (ns : List (BitVec 32)) (hb : Hid (TabAt w g ns ∧ ns.length = 64))
    (h : wpList Tryz.prog ops Q rest (a.put o.dst (.agg (rowT ns))) w) : wpList Tryz.prog ops Q (o :: rest) a w :=
  wpList_load_row hgd 145 x ho g hx 145 (rowT ns) (0, 0) _ hb.out.1 Tryz.underlying145 rfl (by rw [rowT_size, hb.out.2]; exact Tryz.infoTable) h
theorem wpList_storeT {w : World} {ops : Array Oper} {rest : List Oper} {o : Oper} {a : Act} {Q : Exit → Act → World → Prop} (hgd : o.guard = none) (x y : Operand) (ho : o.op = .store 145 x y)
    (g : Nat) (hx : a.eval x = .pointer (some ⟨g, 0, none⟩)) (ns ms : List (BitVec 32)) (hy : a.eval y = .agg (rowT ms)) (hb : Hid (TabAt w g ns ∧ ns.length = 64)) (hm : ms.length = 64)
    (h : Hid (TabAt (w.setRow g (rowT ms)) g ms) → wpList Tryz.prog ops Q rest (a.put o.dst undef) (w.setRow g (rowT ms))) : wpList Tryz.prog ops Q (o :: rest) a w := by
  refine wpList_plain hgd fun K hK => ?_
  unfold Oper.wp execOp
  simp only [ho, hx, hy, Instr.storeAt, Instr.sureAddr, Sem.run_bind, Sem.run_pure, Result.andThen_ok, run_storeVar_row w g 145 145 (rowT ns) (rowT ms) hb.out.1 (by rw [rowT_size, hm]; exact Tryz.infoTable) (by rw [rowT_size, rowT_size, hb.out.2, hm]) (rowT_one ms)]
  exact hK _ _ (h (setRow_heap w g _ _ _ _ hb.out.1))

set_option maxRecDepth 8000 in
set_option maxHeartbeats 1000000 in
theorem tableOf_any (p : Option Addr) (bs : By) (cp : Nat) (w : World) (hb : Bytes w p bs) (hc : bs.length ≤ cp) (hl : bs.length = 512) :
    Calls Tryz.prog 108 #[.slice p 512 cp] w fun e w' => e = .returned (.agg ((tabOf bs).map u32v).toArray) ∧ Below w.heap.size w w' := by
  have cM : ∀ i : Nat, i < 64 → ∀ W, Below w.heap.size w W → Calls Tryz.prog 32 #[.slice p bs.length cp, .int .i64 ((i : Nat) : Int)] W fun e w' => e = .returned (u32v (numOf bs i)) ∧ w' = W := fun i hi W hW => number_bytes p bs cp i W (below_bytes hW hb) hc (by omega) (by omega)
  rw [hl] at cM
  obtain ⟨A, hA⟩ : ∃ A : Obj, A = .cells (Ino.zT.map u32v).toArray 145 := ⟨_, rfl⟩
  have H0 : Hid (TabAt ((w.alloc A).alloc A) (w.heap.size + 1) Ino.zT ∧ Below w.heap.size w ((w.alloc A).alloc A) ∧ ((w.alloc A).alloc A).heap[w.heap.size]? = some (.cells (Ino.zT.map u32v).toArray 145 (0, 0)) ∧ A = .cells (Ino.zT.map u32v).toArray 145) := by
    subst hA
    exact ⟨heap_alloc2_new w _ _, ((Below.refl _ w).alloc (Nat.le_refl _) _).alloc (by simp) _, heap_alloc2_old w _ _, rfl⟩
  clear hb hc hl hA
  go_enter Tryz.func108, Tryz.ntmps108
  go_wp2_with fail
  go_loopw [5] (fun ii wr => ∃ (i : Nat) (ns : List (BitVec 32)), i ≤ 64 ∧ ii = .int .i64 i ∧ Hid (TabAt wr (w.heap.size + 1) ns ∧ ns.length = 64 ∧ ∀ k, k < i → ns[k]? = some (numOf bs k)) ∧ Hid (Below w.heap.size w wr ∧ TabAt wr w.heap.size Ino.zT)) (fun ii _ => 64 - (intOf ii).toNat)
  case atStart =>
    have h0 := H0.out
    rw [h0.2.2.2] at h0
    exact ⟨0, Ino.zT, by omega, rfl, ⟨h0.1, rfl, fun k hk => absurd hk (by omega)⟩, h0.2.1, h0.2.2.1⟩
  case round =>
    clear H0
    obtain ⟨i, ns, hi, rfl, HB, HZ⟩ := hrel
    by_cases hlt : i < 64
    · have hlti : (i : Int) < 64 := by omega
      obtain ⟨x, hx⟩ : ∃ x, ns[i]? = some x := ⟨_, List.getElem?_eq_getElem (by have := HB.out.2.1; omega)⟩
      have d0 := HB.out.1.num hx
      have f0 : wr.frozen? ⟨w.heap.size + 1, i, none⟩ = false := frozenOf HB.out.1 _
      have cM' := cM i hlt wr HZ.out.1
      unfold u32v at cM' d0
      clear cM hx
      go_wp2_with (go_at_call 32; refine Calls_on cM' ?_; clear cM')
      have HS : Hid (TabAt (wr.setCell ⟨w.heap.size + 1, i, none⟩ (.int .u32 ((numOf bs i).toNat : Int))) (w.heap.size + 1) (ns.set i (numOf bs i)) ∧ Below w.heap.size w (wr.setCell ⟨w.heap.size + 1, i, none⟩ (.int .u32 ((numOf bs i).toNat : Int))) ∧ TabAt (wr.setCell ⟨w.heap.size + 1, i, none⟩ (.int .u32 ((numOf bs i).toNat : Int))) w.heap.size Ino.zT) := ⟨HB.out.1.set i (numOf bs i), HZ.out.1.setCell (by simp) _, (heap_setCell_other _ _ _ _ (by simp)).trans HZ.out.2⟩
      refine ⟨⟨i + 1, ns.set i (numOf bs i), by omega, by go_num, ⟨HS.out.1, by rw [List.length_set]; exact HB.out.2.1, fun k hk => ?_⟩, HS.out.2⟩, by simp [intOf]; omega⟩
      rw [List.getElem?_set]
      by_cases e : i = k
      · subst e
        rw [if_pos rfl, if_pos (by have := HB.out.2.1; omega)]
      · rw [if_neg e]
        exact HB.out.2.2 k (by omega)
    · obtain rfl : i = 64 := by omega
      have HN : Hid (ns = tabOf bs) := tab_done bs ns HB.out.2.1 HB.out.2.2
      have HL : Hid (TabAt wr (w.heap.size + 1) ns ∧ ns.length = 64) := ⟨HB.out.1, HB.out.2.1⟩
      have HL0 : Hid (TabAt wr w.heap.size Ino.zT ∧ Ino.zT.length = 64) := ⟨HZ.out.2, rfl⟩
      have HBz : Hid (Below w.heap.size w wr) := HZ.out.1
      clear HB HZ cM
      go_wp2_with (first | (refine wpList_loadT rfl _ rfl _ rfl ns HL ?_) | (refine wpList_storeT rfl _ _ rfl _ rfl Ino.zT ns rfl HL0 HL.out.2 ?_; intro HR))
      refine bodyPost_ret (v := .agg (rowT ns)) ?_ rfl ⟨by rw [HN.out]; rfl, below_setRow HBz.out (Nat.le_refl _) _⟩
      exact results_cell_row rfl _ _ w.heap.size 145 (rowT ns) (0, 0) _ rfl HR.out Tryz.underlying145 rfl (by rw [rowT_size, HL.out.2]; exact Tryz.infoTable)

theorem idx64 (cs : Array Value) (i : Nat) (v : Value) (hv : cs[i]? = some v) (l : Nat) (hi : i < l) (hu : Tryz.prog.underlying 145 = some (.array l 53)) (w : World) : (Instr.index 145 (.agg cs) (.int .i64 (i : Nat))).run Tryz.prog w = .ok v w := by
  simp [Instr.index, run_underlying hu, asIntOf, go_sem]
  rw [if_pos hi, hv]
  rfl
theorem idxT {ns : List (BitVec 32)} {k : Nat} {x : BitVec 32} (hl : ns.length = 64) (hx : ns[k]? = some x) (w : World) : (Instr.index 145 (.agg (rowT ns)) (.int .i64 (k : Nat))).run Tryz.prog w = .ok (u32v x) w := by
  have hk : k < 64 := by have := (List.getElem?_eq_some_iff.1 hx).1; omega
  have h2 : (rowT ns)[k]? = some (u32v x) := by rw [rowT, List.getElem?_toArray, List.getElem?_map, hx]; rfl
  exact idx64 _ _ _ h2 64 hk Tryz.underlying145 w

/-- A block of numbers of which i are laid. -/
def tabPart (ns : List (BitVec 32)) (i : Nat) : By := (ns.take i).flatMap le4 ++ List.replicate (512 - 4 * i) 0#8
theorem tabPart_length (ns : List (BitVec 32)) (hn : ns.length = 64) (i : Nat) (hi : i ≤ 64) : (tabPart ns i).length = 512 := by
  unfold tabPart
  rw [List.length_append, flat4_length, List.length_replicate, List.length_take]
  omega
theorem tabPart_full (ns : List (BitVec 32)) (hn : ns.length = 64) : tabPart ns 64 = Ino.tabB ns := by
  unfold tabPart Ino.tabB
  rw [List.take_of_length_le (by omega), List.flatMap_def]
theorem tabPart_step (ns : List (BitVec 32)) (i : Nat) (n : BitVec 32) (h : ns[i]? = some n) (hn : ns.length = 64) : splice ((tabPart ns i).map u8v) (4 * i) ((le4 n).map u8v) = (tabPart ns (i + 1)).map u8v := by
  have hi : i < ns.length := (List.getElem?_eq_some_iff.1 h).1
  have hl : ((ns.take i).flatMap le4).length = 4 * i := by rw [flat4_length, List.length_take]; omega
  have e1 : tabPart ns i = (ns.take i).flatMap le4 ++ (List.replicate 4 0#8 ++ List.replicate (512 - 4 * (i + 1)) 0#8) := by
    unfold tabPart
    rw [List.replicate_append_replicate, show 4 + (512 - 4 * (i + 1)) = 512 - 4 * i by omega]
  have e2 : tabPart ns (i + 1) = (ns.take i).flatMap le4 ++ (le4 n ++ List.replicate (512 - 4 * (i + 1)) 0#8) := by
    unfold tabPart
    rw [List.take_add_one, h]
    simp
  rw [e1, e2]
  unfold splice
  simp only [List.map_append, List.length_map]
  have hl' : (List.map u8v (List.flatMap le4 (List.take i ns))).length = 4 * i := by rw [List.length_map]; exact hl
  rw [List.take_left' hl', ← List.append_assoc, le4_length, List.append_assoc]
  congr 2
  rw [← List.append_assoc, List.drop_left' (by rw [List.length_append, hl']; simp)]

set_option maxRecDepth 8000 in
set_option maxHeartbeats 1000000 in
theorem tblock_any (ns : List (BitVec 32)) (hn : ns.length = 64) (w : World) :
    Calls Tryz.prog 89 #[.agg (rowT ns)] w fun e w' => e = .returned (.slice (some ⟨w.heap.size + 1, 0, none⟩) 512 512) ∧ w'.heap[w.heap.size + 1]? = some (.cells ((Ino.tabB ns).map u8v).toArray 5 (0, 0)) ∧ Below w.heap.size w w' := by
  obtain ⟨w0, hw0⟩ : ∃ w0, w0 = w.alloc (.cells (rowT ns) 145) := ⟨_, rfl⟩
  have hz0 : w0.heap.size = w.heap.size + 1 := by rw [hw0]; simp
  have hmk : (Instr.makeSlice 30 (.int .i64 512) (.int .i64 512)).run Tryz.prog w0 = .ok (.slice (some ⟨w0.heap.size, 0, none⟩) 512 512) (w0.alloc (.cells (List.replicate 512 (.int .u8 0)).toArray 5)) := imake w0 512 (by omega)
  obtain ⟨w1, hw1⟩ : ∃ w1, w1 = w0.alloc (.cells (List.replicate 512 (.int .u8 0)).toArray 5) := ⟨_, rfl⟩
  rw [← hw1, hz0, hw0] at hmk
  have H1 : Hid (w1.heap[w.heap.size + 1]? = some (.cells ((tabPart ns 0).map u8v).toArray 5 (0, 0)) ∧ Below w.heap.size w w1 ∧ TabAt w1 w.heap.size ns) := by
    rw [hw1]
    have hB0 : Below w.heap.size w w0 := by rw [hw0]; exact (Below.refl _ w).alloc (Nat.le_refl _) _
    refine ⟨?_, hB0.alloc (by omega) _, ?_⟩
    · rw [show (tabPart ns 0).map u8v = List.replicate 512 (Value.int .u8 0) by unfold tabPart; rw [List.take_zero, List.flatMap_nil, List.nil_append, List.map_replicate]; rfl, ← hz0]
      exact heap_alloc_new w0 _
    · refine (heap_alloc_old w0 _ (by omega)).trans ?_
      rw [hw0]; exact heap_alloc_new w _
  have HT : Hid (TabAt w1 w.heap.size ns ∧ ns.length = 64) := ⟨H1.out.2.2, hn⟩
  have hlp : ∀ i, i ≤ 64 → ((tabPart ns i).map u8v).length = 512 := fun i hi => by rw [List.length_map]; exact tabPart_length ns hn i hi
  clear hw1 hw0 hz0
  go_enter Tryz.func89, Tryz.ntmps89
  go_wp2_with (refine wpList_loadT rfl _ rfl _ rfl ns HT ?_)
  go_loopw [8] (fun ii wr => ∃ i : Nat, i ≤ 64 ∧ ii = .int .i64 i ∧ Hid (wr.heap[w.heap.size + 1]? = some (.cells ((tabPart ns i).map u8v).toArray 5 (0, 0)) ∧ Below w.heap.size w wr)) (fun ii _ => 64 - (intOf ii).toNat)
  case atStart => exact ⟨0, by omega, rfl, H1.out.1, H1.out.2.1⟩
  case round =>
    clear H1
    obtain ⟨i, hi, rfl, HB⟩ := hrel
    by_cases hlt : i < 64
    · have hlti : (i : Int) < 64 := by omega
      obtain ⟨x, hx⟩ : ∃ x, ns[i]? = some x := ⟨_, List.getElem?_eq_getElem (by omega)⟩
      have hix := fun W => idxT hn hx W
      have cS := setNumber_any x (w.heap.size + 1) 512 512 i ((tabPart ns i).map u8v) wr HB.out.1 (by rw [hlp _ (by omega)]; omega) (hlp _ (by omega)) (by omega)
      have HX : Hid (ns[i]? = some x) := hx
      unfold u32v at cS hix
      clear hx hlp
      go_wp2_with (go_at_call 33; refine cS.mono ?_; rintro e w3 ⟨rfl, hL3, hB3, hz3⟩; clear cS; have H3 : Hid (w3.heap[w.heap.size + 1]? = some (.cells ((tabPart ns (i + 1)).map u8v).toArray 5 (0, 0)) ∧ Below w.heap.size w w3) := ⟨by rw [tabPart_step ns i x HX.out hn] at hL3; exact hL3, HB.out.2.trans (hB3.mono (Nat.le_succ _))⟩; clear hL3 hB3 hz3)
      exact ⟨⟨i + 1, by omega, by go_num, H3.out⟩, by simp [intOf]; omega⟩
    · obtain rfl : i = 64 := by omega
      go_wp2
      go_ret
      refine ⟨rfl, ?_, HB.out.2⟩
      have := HB.out.1
      rw [tabPart_full ns hn] at this
      exact this

end Go.Proofs.YtebdgcoandfocaaGreatDoor

/-
  Package inode: a walk's level with any visits, over numbers that lie in a row of any kind.
-/
namespace Go.Proofs.YtebdgcoandfocaaGreatDoor
open Go.RowKit

theorem tabOf_tabB (ns : List (BitVec 32)) (hn : ns.length = 64) : tabOf (Ino.tabB ns) = ns := by
  refine (tab_done _ ns hn fun k hk => ?_).symm
  obtain ⟨n, hx⟩ : ∃ n, ns[k]? = some n := ⟨_, List.getElem?_eq_getElem (by omega)⟩
  rw [hx]
  refine congrArg some ?_
  have hl : ((ns.take k).flatMap le4).length = 4 * k := by rw [flat4_length, List.length_take]; omega
  have e : Ino.tabB ns = (ns.take k).flatMap le4 ++ (le4 n ++ ((ns.drop (k + 1)).flatMap le4 ++ List.replicate 256 0#8)) := by
    unfold Ino.tabB
    rw [← List.flatMap_def]
    have h1 : ns = ns.take k ++ n :: ns.drop (k + 1) := by
      obtain ⟨h2, h3⟩ := List.getElem?_eq_some_iff.1 hx
      rw [← h3, List.getElem_cons_drop, List.take_append_drop]
    conv => lhs; rw [h1]
    rw [List.flatMap_append, List.flatMap_cons, List.append_assoc, List.append_assoc]
  unfold numOf
  rw [e, List.drop_left' hl, List.take_left' (le4_length n), leN_le4, BitVec.ofNat_toNat, BitVec.setWidth_eq]

def RowU (w : World) (g : Nat) (ns : List (BitVec 32)) (tt : TypeId) : Prop := w.heap[g]? = some (.cells (ns.map u32v).toArray tt (0, 0))
theorem RowU.num {w : World} {g : Nat} {ns : List (BitVec 32)} {tt : TypeId} (h : RowU w g ns tt) {i : Nat} {n : BitVec 32} (hn : ns[i]? = some n) : w.cell? ⟨g, i, none⟩ = some (u32v n) := by
  rw [cellOf h i, List.getElem?_toArray, List.getElem?_map, hn]; rfl

/-- What a level asks of each visit: J is what is known ahead of place i, E behind an error. -/
structure Steps (k g o len first f t L : Nat) (ch rec : Value) (holes : Bool) (V : Nat) (tt : TypeId) (J : Nat → List (BitVec 32) → World → Prop) (E : Int → World → Prop) : Prop where
  walk : ∀ i ns w, J i ns w → WalkAt w k ch f t holes (.func (.func V) #[rec] #[])
  row : ∀ i ns w, J i ns w → RowU w g ns tt ∧ ns.length = L
  skip : ∀ i ns w, i < len → (first + i + 1 ≤ f ∨ t ≤ first + i) → J i ns w → J (i + 1) ns w
  step : ∀ i ns w n, i < len → f ≤ first + i → first + i < t → ns[o + i]? = some n → J i ns w → Calls Tryz.prog V #[rec, .int .i64 ((first + i : Nat) : Int), u32v n] w fun e w' => ∃ (n' : BitVec 32) (er : Int), e = .returned (.tuple #[u32v n', .int .i64 er]) ∧ RowU w' g ns tt ∧ ((er = 0 ∧ J (i + 1) (ns.set (o + i) n') (w'.setCell ⟨g, o + i, none⟩ (u32v n'))) ∨ (er ≠ 0 ∧ E er (w'.setCell ⟨g, o + i, none⟩ (u32v n'))))

set_option maxRecDepth 8000 in
set_option maxHeartbeats 1000000 in
theorem level_visit {k g o len first f t L cp : Nat} {ch rec : Value} {holes : Bool} {V : Nat} {tt : TypeId} {J : Nat → List (BitVec 32) → World → Prop} {E : Int → World → Prop} (hS : Steps k g o len first f t L ch rec holes V tt J E)
    (hE : ∀ args w, (callFunc V args).run Tryz.prog w = .ok (.enter V args) w) (ho : o + len ≤ L) (hl : len ≤ 64) (hf : first ≤ 100000) (w : World) (ns : List (BitVec 32)) (h : J 0 ns w) :
    Calls Tryz.prog 46 #[.pointer (some ⟨k, 0, none⟩), .slice (some ⟨g, o, none⟩) len cp, .int .i64 (first : Nat), .int .i64 1] w fun e w' => (e = .returned (.int .i64 0) ∧ ∃ ns', J len ns' w') ∨ (∃ er : Int, er ≠ 0 ∧ e = .returned (.int .i64 er) ∧ E er w') := by
  have HS : Hid (Steps k g o len first f t L ch rec holes V tt J E) := hS
  have H0 : Hid (J 0 ns w) := h
  clear hS h
  go_enter Tryz.func46, Tryz.ntmps46
  go_wp2_with fail
  go_loopw [15] (fun ii wr => ∃ i : Nat, i ≤ len ∧ ii = .int .i64 i ∧ Hid (∃ ns, J i ns wr)) (fun ii _ => len - (intOf ii).toNat)
  case atStart => exact ⟨0, Nat.zero_le _, rfl, ns, H0.out⟩
  case round =>
    clear H0
    obtain ⟨i, hi, rfl, HJ⟩ := hrel
    by_cases hlt : i < len
    · have hlti : (i : Int) < len := by omega
      obtain ⟨ms, hJ⟩ := HJ.out
      have hk := HS.out.walk i ms wr hJ
      obtain ⟨hr, hL⟩ := HS.out.row i ms wr hJ
      have k1 : wr.cell? ⟨k, 1, none⟩ = some (.int .i64 (f : Nat)) := by rw [cellOf hk 1]; rfl
      have k2 : wr.cell? ⟨k, 2, none⟩ = some (.int .i64 (t : Nat)) := by rw [cellOf hk 2]; rfl
      have k4 : wr.cell? ⟨k, 4, none⟩ = some (.func (.func V) #[rec] #[]) := by rw [cellOf hk 4]; rfl
      obtain ⟨n, hn⟩ : ∃ n, ms[o + i]? = some n := ⟨_, List.getElem?_eq_getElem (by omega)⟩
      have d0 := hr.num hn
      unfold u32v at d0
      clear hk hr HJ
      by_cases h1 : first + i + 1 ≤ f
      · have h1' : (first : Int) + (i : Int) + 1 ≤ (f : Int) := by omega
        have HN : Hid (∃ ns, J (i + 1) ns wr) := ⟨ms, HS.out.skip i ms wr hlt (.inl h1) hJ⟩
        clear hJ hn
        go_wp2
        exact ⟨⟨i + 1, by omega, by go_num, HN.out⟩, by simp [intOf]; omega⟩
      · have h1' : ¬ (first : Int) + (i : Int) + 1 ≤ (f : Int) := by omega
        by_cases h2 : t ≤ first + i
        · have h2' : (t : Int) ≤ (first : Int) + (i : Int) := by omega
          have HN : Hid (∃ ns, J (i + 1) ns wr) := ⟨ms, HS.out.skip i ms wr hlt (.inr h2) hJ⟩
          clear hJ hn
          go_wp2
          exact ⟨⟨i + 1, by omega, by go_num, HN.out⟩, by simp [intOf]; omega⟩
        · have h2' : ¬ (t : Int) ≤ (first : Int) + (i : Int) := by omega
          have hV := HS.out.step i ms wr n hlt (by omega) (by omega) hn hJ
          have e1 : ((first + i : Nat) : Int) = (first : Int) + (i : Int) := by omega
          rw [e1] at hV
          have HM : Hid (ms.length = L) := hL
          unfold u32v at hV
          clear hJ hn hL
          go_wp2_with fail
          refine hV.mono ?_
          rintro e w1 ⟨n', er, rfl, hr1, hres⟩
          obtain ⟨x, hx⟩ : ∃ x, ms[o + i]? = some x := ⟨_, List.getElem?_eq_getElem (by have := HM.out; omega)⟩
          have d1 := hr1.num hx
          have f1 : w1.frozen? ⟨g, o + i, none⟩ = false := frozenOf hr1 _
          have HR : Hid ((er = 0 ∧ J (i + 1) (ms.set (o + i) n') (w1.setCell ⟨g, o + i, none⟩ (.int .u32 (n'.toNat : Int)))) ∨ (er ≠ 0 ∧ E er (w1.setCell ⟨g, o + i, none⟩ (.int .u32 (n'.toNat : Int))))) := hres
          unfold u32v at d1
          clear hV hres hr1 hx d0 k1 k2 k4
          by_cases her : er = 0
          · subst her
            have H1 : Hid (J (i + 1) (ms.set (o + i) n') (w1.setCell ⟨g, o + i, none⟩ (.int .u32 (n'.toNat : Int)))) := by
              rcases HR.out with ⟨_, h⟩ | ⟨h, _⟩
              · exact h
              · exact absurd rfl h
            clear HR
            go_wp2
            go_roundw
            case rel => exact ⟨i + 1, by omega, by go_num, _, H1.out⟩
            case measure => simp [intOf]; omega
          · have H1 : Hid (E er (w1.setCell ⟨g, o + i, none⟩ (.int .u32 (n'.toNat : Int)))) := by
              rcases HR.out with ⟨h, _⟩ | ⟨_, h⟩
              · exact absurd h her
              · exact h
            have q1 : (er != 0) = true := by simp [her]
            have q2 : (er == 0) = false := by simp [her]
            clear HR
            go_wp2
            go_ret
            exact .inr ⟨er, her, rfl, H1.out⟩
    · obtain rfl : i = len := by omega
      go_wp2
      go_ret
      exact .inl ⟨rfl, HJ.out⟩

end Go.Proofs.YtebdgcoandfocaaGreatDoor

/-
  Package inode: a walk's level over numbers of blocks of numbers.
-/
namespace Go.Proofs.YtebdgcoandfocaaGreatDoor
open Go.RowKit

/-- What a level asks of each block of numbers: J is what is known ahead of place i, E behind an error. -/
structure StepsT (k g o len first sp f t L : Nat) (ch vis : Value) (holes : Bool) (tt : TypeId) (J : Nat → List (BitVec 32) → World → Prop) (E : Int → World → Prop) : Prop where
  walk : ∀ i ns w, J i ns w → WalkAt w k ch f t holes vis
  row : ∀ i ns w, J i ns w → RowU w g ns tt ∧ ns.length = L
  skip : ∀ i ns w, i < len → (first + i * sp + sp ≤ f ∨ t ≤ first + i * sp) → J i ns w → J (i + 1) ns w
  step : ∀ i ns w n, i < len → f < first + i * sp + sp → first + i * sp < t → ns[o + i]? = some n → J i ns w → Calls Tryz.prog 67 #[.pointer (some ⟨k, 0, none⟩), .int .i64 ((first + i * sp : Nat) : Int), u32v n, .int .i64 ((sp / 64 : Nat) : Int)] w fun e w' => ∃ (n' : BitVec 32) (er : Int), e = .returned (.tuple #[u32v n', .int .i64 er]) ∧ RowU w' g ns tt ∧ ((er = 0 ∧ J (i + 1) (ns.set (o + i) n') (w'.setCell ⟨g, o + i, none⟩ (u32v n'))) ∨ (er ≠ 0 ∧ E er (w'.setCell ⟨g, o + i, none⟩ (u32v n'))))

set_option maxRecDepth 8000 in
set_option maxHeartbeats 1000000 in
theorem level_through {k g o len first sp f t L cp : Nat} {ch vis : Value} {holes : Bool} {tt : TypeId} {J : Nat → List (BitVec 32) → World → Prop} {E : Int → World → Prop} (hS : StepsT k g o len first sp f t L ch vis holes tt J E)
    (ho : o + len ≤ L) (hl : len ≤ 64) (hf : first ≤ 100000) (hs1 : 1 < sp) (hs2 : sp ≤ 4096) (w : World) (ns : List (BitVec 32)) (h : J 0 ns w) :
    Calls Tryz.prog 46 #[.pointer (some ⟨k, 0, none⟩), .slice (some ⟨g, o, none⟩) len cp, .int .i64 (first : Nat), .int .i64 (sp : Nat)] w fun e w' => (e = .returned (.int .i64 0) ∧ ∃ ns', J len ns' w') ∨ (∃ er : Int, er ≠ 0 ∧ e = .returned (.int .i64 er) ∧ E er w') := by
  have HS : Hid (StepsT k g o len first sp f t L ch vis holes tt J E) := hS
  have H0 : Hid (J 0 ns w) := h
  have hsp : ((sp : Int) == 1) = false := by simp; omega
  obtain ⟨u, hu⟩ : ∃ u, sp / 64 = u := ⟨_, rfl⟩
  have hsq : (sp : Int) / 64 = (u : Nat) := by omega
  have hsr : Int.tdiv (sp : Int) 64 = (u : Nat) := by rw [Int.tdiv_eq_ediv_of_nonneg (by omega)]; exact hsq
  have HU : Hid (sp / 64 = u) := hu
  clear hu
  clear hS h
  go_enter Tryz.func46, Tryz.ntmps46
  go_wp2_with fail
  go_loopw [15] (fun ii wr => ∃ i : Nat, i ≤ len ∧ ii = .int .i64 i ∧ Hid (∃ ns, J i ns wr)) (fun ii _ => len - (intOf ii).toNat)
  case atStart => exact ⟨0, Nat.zero_le _, rfl, ns, H0.out⟩
  case round =>
    clear H0
    obtain ⟨i, hi, rfl, HJ⟩ := hrel
    by_cases hlt : i < len
    · have hlti : (i : Int) < len := by omega
      obtain ⟨ms, hJ⟩ := HJ.out
      have hk := HS.out.walk i ms wr hJ
      obtain ⟨hr, hL⟩ := HS.out.row i ms wr hJ
      have k1 : wr.cell? ⟨k, 1, none⟩ = some (.int .i64 (f : Nat)) := by rw [cellOf hk 1]; rfl
      have k2 : wr.cell? ⟨k, 2, none⟩ = some (.int .i64 (t : Nat)) := by rw [cellOf hk 2]; rfl
      obtain ⟨q, hq⟩ : ∃ q, i * sp = q := ⟨_, rfl⟩
      have hq2 : q ≤ 64 * 4096 := by rw [← hq]; exact Nat.mul_le_mul (by omega) hs2
      have e0 : (i : Int) * (sp : Int) = (q : Nat) := by rw [← hq]; simp
      obtain ⟨n, hn⟩ : ∃ n, ms[o + i]? = some n := ⟨_, List.getElem?_eq_getElem (by omega)⟩
      have d0 := hr.num hn
      unfold u32v at d0
      clear hk hr HJ
      by_cases h1 : first + q + sp ≤ f
      · have h1' : (first : Int) + (q : Int) + (sp : Int) ≤ (f : Int) := by omega
        have HN : Hid (∃ ns, J (i + 1) ns wr) := ⟨ms, HS.out.skip i ms wr hlt (.inl (by rw [hq]; exact h1)) hJ⟩
        clear hJ hn hq
        go_wp2_with (simp only [e0])
        exact ⟨⟨i + 1, by omega, by go_num, HN.out⟩, by simp [intOf]; omega⟩
      · have h1' : ¬ (first : Int) + (q : Int) + (sp : Int) ≤ (f : Int) := by omega
        by_cases h2 : t ≤ first + q
        · have h2' : (t : Int) ≤ (first : Int) + (q : Int) := by omega
          have HN : Hid (∃ ns, J (i + 1) ns wr) := ⟨ms, HS.out.skip i ms wr hlt (.inr (by rw [hq]; exact h2)) hJ⟩
          clear hJ hn hq
          go_wp2_with (simp only [e0])
          exact ⟨⟨i + 1, by omega, by go_num, HN.out⟩, by simp [intOf]; omega⟩
        · have h2' : ¬ (t : Int) ≤ (first : Int) + (q : Int) := by omega
          have hV := HS.out.step i ms wr n hlt (by omega) (by omega) hn hJ
          rw [hq, HU.out] at hV
          have e1 : ((first + q : Nat) : Int) = (first : Int) + (q : Int) := by omega
          rw [e1] at hV
          have HM : Hid (ms.length = L) := hL
          unfold u32v at hV
          clear hJ hn hL hq
          go_wp2_with (first | (go_at_call 67; refine hV.mono ?_; rintro e w1 ⟨n', er, rfl, hr1, hres⟩; refine Stop.out ?_) | rw [e0])
          refine Stop.mk ?_
          obtain ⟨x, hx⟩ : ∃ x, ms[o + i]? = some x := ⟨_, List.getElem?_eq_getElem (by have := HM.out; omega)⟩
          have d1 := hr1.num hx
          have f1 : w1.frozen? ⟨g, o + i, none⟩ = false := frozenOf hr1 _
          have HR : Hid ((er = 0 ∧ J (i + 1) (ms.set (o + i) n') (w1.setCell ⟨g, o + i, none⟩ (.int .u32 (n'.toNat : Int)))) ∨ (er ≠ 0 ∧ E er (w1.setCell ⟨g, o + i, none⟩ (.int .u32 (n'.toNat : Int))))) := hres
          unfold u32v at d1
          clear hV hres hr1 hx d0 k1 k2
          by_cases her : er = 0
          · subst her
            have H1 : Hid (J (i + 1) (ms.set (o + i) n') (w1.setCell ⟨g, o + i, none⟩ (.int .u32 (n'.toNat : Int)))) := by
              rcases HR.out with ⟨_, h⟩ | ⟨h, _⟩
              · exact h
              · exact absurd rfl h
            clear HR
            go_wp2
            go_roundw
            case rel => exact ⟨i + 1, by omega, by go_num, _, H1.out⟩
            case measure => simp [intOf]; omega
          · have H1 : Hid (E er (w1.setCell ⟨g, o + i, none⟩ (.int .u32 (n'.toNat : Int)))) := by
              rcases HR.out with ⟨h, _⟩ | ⟨_, h⟩
              · exact absurd h her
              · exact h
            have q1 : (er != 0) = true := by simp [her]
            have q2 : (er == 0) = false := by simp [her]
            clear HR
            go_wp2
            go_ret
            exact .inr ⟨er, her, rfl, H1.out⟩
    · obtain rfl : i = len := by omega
      go_wp2
      go_ret
      exact .inl ⟨rfl, HJ.out⟩

end Go.Proofs.YtebdgcoandfocaaGreatDoor

/-
  Whole tables compared.
-/
namespace Go.Proofs.YtebdgcoandfocaaGreatDoor
open Go.RowKit

theorem partT (ns : List (BitVec 32)) (k : Nat) (x : BitVec 32) (hx : ns[k]? = some x) (w : World) : (part 53 (rowT ns) k).run Tryz.prog w = .ok (.int .u32 (x.toNat : Int)) w := by
  have h2 : (rowT ns)[k]? = some (u32v x) := by rw [rowT, List.getElem?_toArray, List.getElem?_map, hx]; rfl
  simp [part, go_sem, h2, u32v]

theorem eqLoop (xs ys : List (BitVec 32)) (d : Nat) (hx : xs.length = 64) (hy : ys.length = 64) (w : World) : ∀ (n s : Nat), s + n = 64 →
    (forIn (List.range' s n) ((none, ()) : Option Bool × Unit) (fun i _ => do
      let a ← part 53 (rowT xs) i
      let b ← part 53 (rowT ys) i
      let r ← Op.equalIn (d + 1) 53 a b
      if (!r) = true then pure (ForInStep.done (some false, ())) else pure (ForInStep.yield (none, ()))) : Sem (Option Bool × Unit)).run Tryz.prog w = .ok (if xs.drop s = ys.drop s then none else some false, ()) w
  | 0, s, h => by
    rw [List.range'_zero, List.forIn_nil, Sem.run_pure, List.drop_of_length_le (by omega), List.drop_of_length_le (by omega), if_pos rfl]
  | n + 1, s, h => by
    obtain ⟨x, h1⟩ : ∃ x, xs[s]? = some x := ⟨_, List.getElem?_eq_getElem (by omega)⟩
    obtain ⟨y, h2⟩ : ∃ y, ys[s]? = some y := ⟨_, List.getElem?_eq_getElem (by omega)⟩
    have e1 : xs.drop s = x :: xs.drop (s + 1) := by
      obtain ⟨h3, rfl⟩ := List.getElem?_eq_some_iff.1 h1
      exact List.drop_eq_getElem_cons h3
    have e2 : ys.drop s = y :: ys.drop (s + 1) := by
      obtain ⟨h3, rfl⟩ := List.getElem?_eq_some_iff.1 h2
      exact List.drop_eq_getElem_cons h3
    rw [List.range'_succ, List.forIn_cons]
    simp only [Sem.run_bind, partT xs s x h1, partT ys s y h2, Result.andThen_ok, run_equalIn_int w d 53 .u32 .u32 _ _ Tryz.underlying53]
    rw [e1, e2]
    by_cases he : x = y
    · subst he
      simp only [beq_self_eq_true, Bool.not_true, Bool.false_eq_true, if_false, Sem.run_pure, Result.andThen_ok, List.cons.injEq, true_and]
      exact eqLoop xs ys d hx hy w n (s + 1) (by omega)
    · have hb : ((x.toNat : Int) == (y.toNat : Int)) = false := by
        rw [beq_eq_false_iff_ne]
        intro h3
        exact he (BitVec.eq_of_toNat_eq (by omega))
      simp only [hb, Bool.not_false, if_true, Sem.run_pure, Result.andThen_ok, List.cons.injEq, he, false_and, if_false]

theorem eqT (xs ys : List (BitVec 32)) (d : Nat) (hx : xs.length = 64) (hy : ys.length = 64) (w : World) : (Op.equalIn (d + 2) 145 (.agg (rowT xs)) (.agg (rowT ys))).run Tryz.prog w = .ok (decide (xs = ys)) w := by
  have hz : ∀ w, (sizeOf 53).run Tryz.prog w = .ok 1 w := fun w => by kernel_rfl
  have := eqLoop xs ys d hx hy w 64 0 rfl
  simp only [List.drop_zero] at this
  rw [Op.equalIn]
  simp only [Sem.run_bind, run_underlying Tryz.underlying145, Result.andThen_ok, hz, Nat.mul_one]
  rw [Std.Legacy.Range.forIn_eq_forIn_range', show (Std.Legacy.Range.size [:64]) = 64 from rfl]
  show ((Sem.run Tryz.prog (forIn (List.range' 0 64) _ _) w).andThen _) = _
  rw [this, Result.andThen_ok]
  by_cases he : xs = ys
  · rw [if_pos he, decide_eq_true he]; rfl
  · rw [if_neg he, decide_eq_false he]; rfl

end Go.Proofs.YtebdgcoandfocaaGreatDoor

/-
  Package inode: operations on whole tables for a walk; through of a hole that is not filled.
-/
namespace Go.Proofs.YtebdgcoandfocaaGreatDoor
open Go.RowKit

theorem hide {p : Prop} (h : p) : Hid p := h
theorem zeroT (w : World) : (zeroValue 145).run Tryz.prog w = .ok (.agg (rowT Ino.zT)) w := by
  rw [Tryz.zeroValue145 w]
  rfl
theorem wpList_allocT {w : World} {ops : Array Oper} {rest : List Oper} {o : Oper} {a : Act} {Q : Exit → Act → World → Prop} (hgd : o.guard = none) (ho : o.op = .alloc 145) (g : Nat) (hg : Hid (w.heap.size = g))
    (h : ∀ w', Hid (TabAt w' g Ino.zT ∧ Below g w w' ∧ w'.heap.size = g + 1) → wpList Tryz.prog ops Q rest (a.put o.dst (.pointer (some ⟨g, 0, none⟩))) w') : wpList Tryz.prog ops Q (o :: rest) a w := by
  obtain rfl := hg.out
  refine wpList_plain hgd fun K hK => ?_
  unfold Oper.wp execOp
  simp only [ho, Sem.run_bind, Instr.alloc, newVar, newRow, zeroT, run_newObj_alloc, Sem.run_pure, Result.andThen_ok, Value.cells]
  exact hK _ _ (h _ ⟨heap_alloc_new w _, (Below.refl _ w).alloc (Nat.le_refl _) _, by simp⟩)
theorem wpList_setT {w : World} {ops : Array Oper} {rest : List Oper} {o : Oper} {a : Act} {Q : Exit → Act → World → Prop} (hgd : o.guard = none) (x y : Operand) (ho : o.op = .store 145 x y)
    (g : Nat) (hx : a.eval x = .pointer (some ⟨g, 0, none⟩)) (ns ms : List (BitVec 32)) (hy : a.eval y = .agg (rowT ms)) (hb : Hid (TabAt w g ns ∧ ns.length = 64)) (hm : ms.length = 64)
    (h : ∀ w', Hid (TabAt w' g ms ∧ Below g w w' ∧ w'.heap.size = w.heap.size) → wpList Tryz.prog ops Q rest (a.put o.dst undef) w') : wpList Tryz.prog ops Q (o :: rest) a w :=
  wpList_storeT hgd x y ho g hx ns ms hy hb hm fun hT => h _ ⟨hT.out, below_setRow (Below.refl _ w) (Nat.le_refl _) _, by simp⟩
theorem wpList_eqlT {w : World} {ops : Array Oper} {rest : List Oper} {o : Oper} {a : Act} {Q : Exit → Act → World → Prop} (hgd : o.guard = none) (x y : Operand) (ho : o.op = .binOp .eql 145 x y 145) (xs ys : List (BitVec 32)) (hx : a.eval x = .agg (rowT xs)) (hy : a.eval y = .agg (rowT ys)) (h1 : xs.length = 64) (h2 : ys.length = 64)
    (h : wpList Tryz.prog ops Q rest (a.put o.dst (.bool (decide (xs = ys)))) w) : wpList Tryz.prog ops Q (o :: rest) a w := by
  refine wpList_plain hgd fun K hK => ?_
  have hq : ∀ W, (binOp .eql 145 (.agg (rowT xs)) (.agg (rowT ys))).run Tryz.prog W = .ok (.bool (decide (xs = ys))) W := fun W => by
    rw [run_eql_struct, eqT xs ys 9998 h1 h2]; rfl
  have hm : Tryz.prog.eqGuardType Tryz.prog.depth 145 = false := by kernel_rfl
  unfold Oper.wp execOp
  simp only [ho, hx, hy, Sem.run_bind, run_eqGuard_agg _ _ _ _ _ _ _ hm, hq, Sem.run_pure, Result.andThen_ok]
  exact hK _ _ h
theorem wpList_neqT {w : World} {ops : Array Oper} {rest : List Oper} {o : Oper} {a : Act} {Q : Exit → Act → World → Prop} (hgd : o.guard = none) (x y : Operand) (ho : o.op = .binOp .neq 145 x y 145) (xs ys : List (BitVec 32)) (hx : a.eval x = .agg (rowT xs)) (hy : a.eval y = .agg (rowT ys)) (h1 : xs.length = 64) (h2 : ys.length = 64)
    (h : wpList Tryz.prog ops Q rest (a.put o.dst (.bool (!decide (xs = ys)))) w) : wpList Tryz.prog ops Q (o :: rest) a w := by
  refine wpList_plain hgd fun K hK => ?_
  have hq : ∀ W, (binOp .neq 145 (.agg (rowT xs)) (.agg (rowT ys))).run Tryz.prog W = .ok (.bool (!decide (xs = ys))) W := fun W => by
    rw [run_neq_struct, eqT xs ys 9998 h1 h2]; rfl
  have hm : Tryz.prog.eqGuardType Tryz.prog.depth 145 = false := by kernel_rfl
  unfold Oper.wp execOp
  simp only [ho, hx, hy, Sem.run_bind, run_eqGuard_agg _ _ _ _ _ _ _ hm, hq, Sem.run_pure, Result.andThen_ok]
  exact hK _ _ h
theorem sliceT (g : Nat) (w : World) : (Instr.sliceAt 145 (.pointer (some ⟨g, 0, none⟩)) none none none).run Tryz.prog w = .ok (.slice (some ⟨g, 0, none⟩) 64 64) w := by
  simp [Instr.sliceAt, run_underlying Tryz.underlying145, Instr.sureAddr, Instr.sliceBounds, Addr.add_lit]

set_option maxRecDepth 8000 in
set_option maxHeartbeats 1000000 in
theorem through_hole (k place q f t : Nat) (ch vis : Value) (w : World) (hk : WalkAt w k ch f t false vis) : Calls Tryz.prog 67 #[.pointer (some ⟨k, 0, none⟩), .int .i64 (place : Nat), u32v 0, .int .i64 (q : Nat)] w fun e w' => e = .returned (.tuple #[u32v 0, .int .i64 0]) ∧ Below w.heap.size w w' := by
  have k3 : w.cell? ⟨k, 3, none⟩ = some (.bool false) := by rw [cellOf hk 3]; rfl
  clear hk
  go_enter Tryz.func67, Tryz.ntmps67
  go_wp2
  go_ret2
  exact ⟨rfl, Below.refl _ _⟩

end Go.Proofs.YtebdgcoandfocaaGreatDoor
