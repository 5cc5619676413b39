/-
  CacheAll's law: a round of the loop that fills the document's volume, said of the document's cache.
-/
import Derived.Test.YtlcojcldbdikgaaGreatDoorSq
namespace Go.Proofs.YtlcojcldbdikgaaGreatDoor.Rc
open Go.RowKit Go.Maps

theorem zeros_row {w : World} {q lo : Nat} (n : Nat) (hq : w.heap[q]? = some (.cells (List.replicate n (.int .u8 0)).toArray 5 (0, 0))) (hlo : lo ≤ q) : BRow w lo ⟨some ⟨q, 0, none⟩, n, n⟩ (List.replicate n 0#8) := by
  refine ⟨q, _, rfl, (List.length_replicate).symm, hlo, hq, fun _ => ⟨q, 0, rfl, fun j x hj => ?_⟩⟩
  rw [cellOf hq]
  have hl : j < n := by
    have := (List.getElem?_eq_some_iff.1 hj).1
    rwa [List.length_replicate] at this
  rw [List.getElem?_replicate, if_pos hl] at hj
  injection hj with hj
  subst hj
  rw [Nat.zero_add, List.getElem?_toArray, List.getElem?_replicate, if_pos hl]
  rfl
theorem zero512_row {w : World} {q lo : Nat} (hq : w.heap[q]? = some (.cells zero512 5 (0, 0))) (hlo : lo ≤ q) : BRow w lo ⟨some ⟨q, 0, none⟩, 512, 512⟩ (List.replicate 512 0#8) := zeros_row 512 hq hlo

set_option maxRecDepth 8000 in
set_option maxHeartbeats 1000000 in
theorem law_fill {Q : Exit → Act → World → Prop} {base : Array Value} {d : List Deferred} {ops : Array Oper} (hops : Tryz.f3.body.bind (regs 16) = some ops) (r lo : Nat) (vv lv : Value) (S : RS) (w1 : World) (hsz : base.size = 216)
    (b10 : base.getD 10 undef = .pointer (some ⟨r, 0, none⟩)) (hRF : RF w1 lo r vv lv S) (hsm : S.V.length ≤ 100000)
    (hQ : ∀ (x1 x2 x3 x4 : Value) W vv' sv, Fr lo w1 W → RF W lo r vv' lv { S with V := S.V ++ [sv] } → sv.n = 512 → BRow W w1.heap.size sv (List.replicate 512 0#8) → Q .normal ⟨putAll base [(some 67, .pointer (some ⟨r, 0, none⟩)), (some 68, .pointer (some ⟨r, 0, none⟩)), (some 69, .pointer (some ⟨r, 0, none⟩)), (some 70, .pointer (some ⟨r, 0, none⟩)), (some 71, x1), (some 72, x2), (some 73, x3), (some 74, x4), (some 75, .pointer (some ⟨r, 0, none⟩)), (some 76, .pointer (some ⟨r, 0, none⟩)), (none, undef)], d⟩ W) :
    (Code.region 16 ops true).wp Tryz.prog Q ⟨base, d⟩ w1 := by
  have hrl := block_lt hRF.cell
  have hlo : lo ≤ w1.heap.size := Nat.le_trans hRF.lo (Nat.le_of_lt hrl)
  obtain ⟨pV, cV, rfl, _⟩ := own_form hRF.vrow
  have nVr : ¬ (.slice pV S.V.length cV : Value).ownBlock = some r := fun e => by
    obtain ⟨_, cur, hcur⟩ := own_tag hRF.vrow e
    rw [hRF.cell] at hcur
    injection hcur with hcur
    injection hcur with _ h
    exact absurd h (by decide)
  have nLr : ¬ lv.ownBlock = some r := fun e => by
    obtain ⟨_, cur, hcur⟩ := own_tag hRF.row e
    rw [hRF.cell] at hcur
    injection hcur with hcur
    injection hcur with _ h
    exact absurd h (by decide)
  refine law_reg16 hops r S.V.length cV lo pV _ _ w1 hsz b10 hRF.cell rfl hRF.vrow hsm hlo nVr ?_
  intro g W q ho e1 hq1 hq2 hown hr hat
  refine hQ _ _ _ _ W g.2.2 ⟨some ⟨q, 0, none⟩, 512, 512⟩ (ho.weak ?_) ⟨hRF.lo, ?_, ho.owns hRF.row ?_, ?_⟩ rfl (zero512_row hq2 hq1)
  · intro k hk h
    rcases h with h | rfl
    · obtain ⟨h1, cur, hcur⟩ := own_tag hRF.vrow h
      exact ⟨h1, cur, _, _, hcur, .inr (.inr rfl)⟩
    · exact ⟨hRF.lo, _, _, _, hRF.cell, .inl rfl⟩
  · rw [hr]; rfl
  · intro b hb h
    rcases h with h | rfl
    · obtain ⟨_, cur, hcur⟩ := own_tag hRF.vrow h
      obtain ⟨_, cur2, hcur2⟩ := own_tag hRF.row hb
      rw [hcur] at hcur2
      injection hcur2 with h2
      injection h2 with _ h2
      exact absurd h2 (by decide)
    · exact nLr hb
  · have : (S.V ++ [(⟨some ⟨q, 0, none⟩, 512, 512⟩ : SV)]).map SV.val = S.V.map SV.val ++ [g.1] := by rw [List.map_append, e1]; rfl
    show W.ownsRow lo 33 1 g.2.2 (S.V ++ [(⟨some ⟨q, 0, none⟩, 512, 512⟩ : SV)]).length _
    rw [this, List.length_append]
    exact hown

end Go.Proofs.YtlcojcldbdikgaaGreatDoor.Rc
