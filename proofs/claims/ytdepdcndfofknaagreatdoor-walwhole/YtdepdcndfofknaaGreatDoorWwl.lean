/-
  What write of package wal lays on the device, page by page.
-/
import Derived.Test.YtdepdcndfofknaaGreatDoorWrst
namespace Go.Proofs.YtdepdcndfofknaaGreatDoor
open Go.RowKit Go.Maps Go.Sort Go.Shelf

attribute [local go_sem] Oper.semAt_some

/-- Blocks laid one behind the other. -/
def laidP (B : Nat → By) (nx : Nat) (pg : List By) : Nat → By := fun j => if nx ≤ j then (pg[j - nx]?).getD (B j) else B j
theorem laidP_nil (B : Nat → By) (nx : Nat) : laidP B nx [] = B := by funext j; unfold laidP; split <;> simp
theorem laidP_step (B : Nat → By) (nx : Nat) (pg : List By) (l : By) : upd (laidP B nx pg) (nx + pg.length) l = laidP B nx (pg ++ [l]) := by
  funext j
  unfold upd laidP
  by_cases h : j = nx + pg.length
  · subst h
    rw [if_pos rfl, if_pos (by omega), show nx + pg.length - nx = pg.length by omega]
    simp
  · rw [if_neg h]
    by_cases h2 : nx ≤ j
    · rw [if_pos h2, if_pos h2, List.getElem?_append]
      split
      · rfl
      · rename_i h3
        rw [List.getElem?_eq_none (by omega), List.getElem?_eq_none (by simp; omega)]
    · rw [if_neg h2, if_neg h2]

/-- The device behind some pages. -/
def DS.paged (d : DS) (nx : Nat) (pg : List By) (D : DataW Value) : DS := { d with nn := d.nn + pg.length, D := D, B := laidP d.B nx pg, count := d.count + pg.length }

theorem wpListIn_append_bytes {l n : Nat} {W : World} {ops : Array Oper} {rest : List Oper} {o : Oper} {a : Act} {Q : Exit → Act → World → Prop} (hgd : o.guard = none) (s x : Operand)
    (ho : o.op = .call { callee := .builtin .append, args := #[s, x], argTypes := #[33, 33] })
    (base : Nat) (v : Value) (k : Nat) (xs : List Value) (hs : a.eval s = v) (hown : W.ownsRow base 5 1 v k xs)
    (p : Option Addr) (bs : By) (cp : Nat) (hx : a.eval x = .slice p bs.length cp) (hb : Bytes W p bs) (h63 : k + bs.length ≤ 1099511627776) (hbase : base ≤ W.heap.size)
    (h : ∀ v' w', w'.ownsRow base 5 1 v' (k + bs.length) (xs ++ bs.map u8v) → W.grownBy w' v.ownBlock → wpListIn (Fence.wide.inRound l) n Tryz.prog ops Q rest (a.put o.dst v') w') :
    wpListIn (Fence.wide.inRound l) n Tryz.prog ops Q (o :: rest) a W := by
  refine wpListIn_plain hgd fun K hK => ?_
  obtain ⟨v', w', hr, h2, h3, _⟩ := run_append_bytes (ty := o.type) hown p bs cp hb h63 hbase
  unfold Oper.wpIn
  refine ⟨fun _ _ => trivial, ?_⟩
  rw [Oper.semAt_plain _ _ _ (by rw [ho]; intro c hc'; cases hc')]
  simp only [execOp, ho, resolve, invoke, builtin, Sem.run_bind, Sem.run_pure, Result.andThen_ok, List.map_toArray, List.map_cons, List.map_nil, hs, hx, hr]
  exact hK _ _ (h v' w' h2 h3)

/-- What write has done behind some pages. -/
structure WInv (W1 W : World) (d : DS) (v commits turn nx f b0 : Nat) (g : Nat) (rc : By) (pg : List By) : Prop where
  vol : IsVol W v (dp d.a) commits turn (nx + pg.length) (some f) 0
  dev : ∃ D, Dev W (d.paged nx pg D)
  bV : Boxed W b0 24 (dp v)
  bR : Boxed W (b0 + 1) 36 (.int .i64 0)
  byt : Bytes W (some ⟨g, 0, none⟩) rc
  map : W.heap[f]? = some (.map #[] 0)
  but : But (fun k => k = v ∨ d.mine k) W1 W

theorem WInv.own {β : Type} (W1 : World) (d : DS) (v commits turn nx f b0 g : Nat) (rc : By) (pg : β → List By) (B : Nat) (hB : B = W1.heap.size) (hm : d.m < B) (hf : f < B) :
    OwnFrom B (fun (pre : β) W => WInv W1 W d v commits turn nx f b0 g rc (pg pre)) := by
  rintro s X Y row hi hgr hrow
  have key : ∀ (b : Nat) cs (t : TypeId) fr, X.heap[b]? = some (.cells cs t fr) → Y.heap[b]? = some (.cells cs t fr) := by
    intro b cs t fr hx
    refine (hgr.block b (Array.getElem?_eq_some_iff.1 hx).1 (fun e => ?_)).trans hx
    obtain ⟨_, o, ho, hcell⟩ := hrow b e.symm
    rw [hx] at ho; cases ho; cases hcell
  have keyL : ∀ (b : Nat) o, b < B → X.heap[b]? = some o → Y.heap[b]? = some o := by
    intro b o hb hx
    refine (hgr.block b (Array.getElem?_eq_some_iff.1 hx).1 (fun e => ?_)).trans hx
    have := (hrow b e.symm).1
    omega
  have keyC : ∀ (b j : Nat) x, X.cell? ⟨b, j, none⟩ = some x → Y.cell? ⟨b, j, none⟩ = some x := by
    intro b j x hx
    refine hgr.cell hx (fun e => ?_)
    obtain ⟨_, o, ho, hcell⟩ := hrow b e.symm
    simp only [World.cell?, ho] at hx
    cases o <;> simp [Obj.isCells] at hcell hx
  have hbut : But (fun k => some k = row) X Y := But.of_grown hgr (fun k e => e.symm)
  refine ⟨key _ _ _ _ hi.vol, ?_, key _ _ _ _ hi.bV, key _ _ _ _ hi.bR, fun hp => ?_, keyL _ _ hf hi.map, ?_⟩
  · obtain ⟨D, hD⟩ := hi.dev
    refine ⟨D, hD.but hbut (fun k hk e => ?_) (fun g l hg e => ?_)⟩
    · obtain ⟨hBk, o, ho, hcell⟩ := hrow k e.symm
      rcases hk with rfl | rfl | rfl
      · have := hD.dev; rw [IsDevAt] at this; rw [show X.heap[(d.paged nx (pg s) D).a]? = some o from ho] at this; cases this; cases hcell
      · obtain ⟨_, hr, _⟩ := hD.row; rw [show X.heap[(d.paged nx (pg s) D).s]? = some o from ho] at hr; cases hr; cases hcell
      · have : d.m = (d.paged nx (pg s) D).m := rfl
        omega
    · obtain ⟨_, o, ho, hcell⟩ := hrow g e.symm
      rw [hg] at ho; cases ho; cases hcell
  · obtain ⟨b, o, e, hx⟩ := hi.byt hp
    exact ⟨b, o, e, fun j x hj => keyC _ _ _ (hx j x hj)⟩
  · refine ⟨hgr.os.trans hi.but.os, hgr.tape.trans hi.but.tape, hgr.output.trans hi.but.output, Nat.le_trans hi.but.size hgr.size, fun k hk hn => (hgr.block k (Nat.lt_of_lt_of_le hk hi.but.size) (fun e => ?_)).trans (hi.but.block k hk hn)⟩
    have := (hrow k e.symm).1
    omega

end Go.Proofs.YtdepdcndfofknaaGreatDoor
