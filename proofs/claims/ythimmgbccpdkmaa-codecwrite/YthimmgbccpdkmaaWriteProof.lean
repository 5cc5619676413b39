/-
  CodecWrite, for every slice of items (their bytes and vectors may share memory), whatever the memory and the order that Go leaves open, returns true and leaves its argument and all memory that was there as it was. There is no condition.
-/
import Derived.Test.YthimmgbccpdkmaaRows
import Derived.Test.YthimmgbccpdkmaaWrite
import Derived.Test.YthimmgbccpdkmaaOpen
import Derived.ProofKit
import Derived.OpenShut
import Derived.ChangeOld
import Derived.Below
import Derived.Deep.Grids
namespace Go.Proofs.Ythimmgbccpdkmaa
open Go.ChangeShapes Go.WideShapes Go.ChangeAt Go.RowKit Go.Deep

theorem writeKnobs : ownKnob Try.prog.godebug = none := by kernel_rfl
theorem writeLaid : laidOutB Try.prog = true := by kernel_rfl
theorem Try.cells33 : Try.prog.cellsOf 33 = 6 := by kernel_rfl
theorem Try.cells29 : Try.prog.cellsOf 29 = 2 := by kernel_rfl
theorem Try.cells26 : Try.prog.cellsOf 26 = 1 := by kernel_rfl
theorem Try.cells31 : Try.prog.cellsOf 31 = 1 := by kernel_rfl

theorem list6 {α : Type} {l : List α} (h : l.length = 6) : ∃ a b c d e f, l = [a, b, c, d, e, f] := by
  match l, h with
  | [a, b, c, d, e, f], _ => exact ⟨a, b, c, d, e, f, rfl⟩
theorem list5 {α : Type} {l : List α} (h : l.length = 5) : ∃ a b c d e, l = [a, b, c, d, e] := by
  match l, h with
  | [a, b, c, d, e], _ => exact ⟨a, b, c, d, e, rfl⟩
theorem list2 {α : Type} {l : List α} (h : l.length = 2) : ∃ a b, l = [a, b] := by
  match l, h with
  | [a, b], _ => exact ⟨a, b, rfl⟩

theorem bytes_of {H : Type} {enc : TypeId × Value → H} {W : World} {fuel : Nat} {v : Value} {r : DataW H × List MemPlace} (h : DataW.trod enc Try.prog W 0 (fun _ => true) true fuel 26 [v] = some r) :
    ∃ (p : Option Addr) (c : Nat) (bs : List (BitVec 8)), v = .slice p bs.length c ∧ bs.length ≤ c ∧ Bytes W p bs := by
  have hv : ∃ a l c, v = .slice a l c := by
    rcases open_ints Try.underlying26 Try.underlying5 Try.cells5 h with ⟨hcs, _⟩ | ⟨x, l, c, zs, hcs, _⟩
    · simp at hcs; exact ⟨_, _, _, hcs⟩
    · simp at hcs; exact ⟨_, _, _, hcs⟩
  obtain ⟨a, l, c, rfl⟩ := hv
  obtain ⟨bs, rfl, h1, h2⟩ := bytes_in h
  exact ⟨a, c, bs, rfl, h1, h2⟩
theorem vec_of {H : Type} {enc : TypeId × Value → H} {W : World} {fuel : Nat} {v : Value} {r : DataW H × List MemPlace} (h : DataW.trod enc Try.prog W 0 (fun _ => true) true fuel 31 [v] = some r) :
    ∃ (p : Option Addr) (c : Nat) (ns : List Int), v = .slice p ns.length c ∧ ns.length ≤ c ∧ Lies W p (ns.map iv) := by
  have hv : ∃ a l c, v = .slice a l c := by
    rcases open_ints Try.underlying31 Try.underlying2 Try.cells2 h with ⟨hcs, _⟩ | ⟨x, l, c, zs, hcs, _⟩
    · simp at hcs; exact ⟨_, _, _, hcs⟩
    · simp at hcs; exact ⟨_, _, _, hcs⟩
  obtain ⟨a, l, c, rfl⟩ := hv
  obtain ⟨ns, rfl, h1, h2⟩ := ints_in Try.underlying31 Try.underlying2 Try.cells2 h
  exact ⟨a, c, ns, rfl, h1, h2⟩

/-- One item, from its reading. -/
theorem itm_at {H : Type} {enc : TypeId × Value → H} {W : World} {fuel ob oo k : Nat} {cs : List Value} {x : DataW H × List MemPlace}
    (hc : W.cells? 0 ⟨ob, oo + k * 6, none⟩ 6 = some cs) (h : DataW.trod enc Try.prog W 0 (fun _ => true) true fuel 33 cs = some x) :
    ∃ i : ItmAt, Fits W i ∧ ∀ (j : Nat) (v : Value), i.cells[j]? = some v → W.cell? ⟨ob, oo + k * 6 + j, none⟩ = some v := by
  obtain ⟨xs, n, _, _, hl, hlen, hf⟩ := DataW.trod_struct Try.underlying33 h
  rw [Try.cells33] at hl
  obtain ⟨v0, v1, v2, v3, v4, v5, rfl⟩ := list6 hl
  obtain ⟨y0, y1, y2, y3, y4, rfl⟩ := list5 (show xs.length = 5 from hlen)
  have f0 := hf 0 _ rfl
  have f1 := hf 1 _ rfl
  have f2 := hf 2 _ rfl
  have f3 := hf 3 _ rfl
  have f4 := hf 4 _ rfl
  simp [Try.cells3, Try.cells2, Try.cells26, Try.cells29, Try.cells31] at f0 f1 f2 f3 f4
  obtain ⟨kind, e0, _, w0⟩ := DataW.trod_int Try.underlying3 f0
  obtain ⟨nn, e1, _, w1⟩ := DataW.trod_int Try.underlying2 f1
  simp at e0 e1
  subst e0 e1
  obtain ⟨zs, n', _, _, hl2, hlen2, hf2⟩ := DataW.trod_struct Try.underlying29 f3
  obtain ⟨z0, z1, rfl⟩ := list2 (show zs.length = 2 from hlen2)
  have g0 := hf2 0 _ rfl
  have g1 := hf2 1 _ rfl
  simp [Try.cells3, Try.cells2] at g0 g1
  obtain ⟨tt, e3, _, w3⟩ := DataW.trod_int Try.underlying2 g0
  obtain ⟨dd, e4, _, w4⟩ := DataW.trod_int Try.underlying3 g1
  simp at e3 e4
  subst e3 e4
  obtain ⟨_, _, hcell⟩ := World.cells?_some hc
  have c0 := hcell 0 (by omega)
  have c1 := hcell 1 (by omega)
  have c2 := hcell 2 (by omega)
  have c3 := hcell 3 (by omega)
  have c4 := hcell 4 (by omega)
  have c5 := hcell 5 (by omega)
  simp only [Addr.add_lit, Nat.add_zero] at c0 c1 c2 c3 c4 c5
  obtain ⟨bp, bc, bs, rfl, hbl, hbs⟩ := bytes_of f2
  obtain ⟨qp, qc, ns, rfl, hnl, hns⟩ := vec_of f4
  refine ⟨⟨⟨kind, nn, bs, tt, dd, ns⟩, bp, bc, qp, qc⟩, ⟨hbs, hns, hbl, hnl⟩, fun j v hj => ?_⟩
  match j, hj with
  | 0, hj => cases hj; exact c0
  | 1, hj => cases hj; exact c1
  | 2, hj => cases hj; exact c2
  | 3, hj => cases hj; exact c3
  | 4, hj => cases hj; exact c4
  | 5, hj => cases hj; exact c5
  | j + 6, hj => simp [ItmAt.cells] at hj

theorem fits_old {W : World} {i : ItmAt} (h : Fits W i) : (∀ b o, 0 < i.x.bs.length → i.p = some ⟨b, o, none⟩ → b < W.heap.size) ∧ (∀ b o, 0 < i.x.vs.length → i.q = some ⟨b, o, none⟩ → b < W.heap.size) := by
  constructor
  · intro b o hl e
    obtain ⟨b', o', e', hx⟩ := h.bytes hl
    rw [e] at e'
    cases e'
    exact cell_lt (hx 0 _ (List.getElem?_eq_getElem hl))
  · intro b o hl e
    obtain ⟨b', o', e', hx⟩ := h.vec (by simpa using hl)
    rw [e] at e'
    cases e'
    exact cell_lt (hx 0 _ (List.getElem?_eq_getElem (by simpa using hl)))

theorem items_none (W : World) (a : Option Addr) : Items W a [] := ⟨fun h => absurd h (by simp), (fun x hx => by cases hx), (fun x hx => by cases hx)⟩

/-- All items. -/
theorem items_at {H : Type} {enc : TypeId × Value → H} {W : World} {fuel : Nat} {a : Option Addr} {len cap : Nat} {y : DataW H × List MemPlace} (h : DataW.trod enc Try.prog W 0 (fun _ => true) true fuel 22 [.slice a len cap] = some y) :
    ∃ its : List ItmAt, its.length = len ∧ Items W a its := by
  rcases open_slice Try.underlying22 h with ⟨hcs, _⟩ | ⟨⟨b, off, spot⟩, len', cap', m, n, D, Pl, hcs, _, hl, _, hm, _, hel⟩
  · simp at hcs
    obtain ⟨rfl, rfl, rfl⟩ := hcs
    exact ⟨[], rfl, items_none W _⟩
  · simp at hcs
    obtain ⟨rfl, rfl, rfl⟩ := hcs
    simp only [if_true] at hm
    subst hm
    rw [Try.cells33] at hel
    by_cases hp : 0 < len
    · have hspot : spot = none := by
        obtain ⟨cs, hc, _⟩ := hel 0 (by omega)
        obtain ⟨_, _, hcell⟩ := World.cells?_some hc
        have h0 := hcell 0 (by omega)
        have hl6 := (World.cells?_some hc).2.1
        rw [List.getElem?_eq_getElem (by omega)] at h0
        simpa [Addr.add] using World.cell?_spot h0
      subst hspot
      have hex : ∀ k, ∃ i : ItmAt, k < len → Fits W i ∧ ∀ (j : Nat) (v : Value), i.cells[j]? = some v → W.cell? ⟨b, off + k * 6 + j, none⟩ = some v := by
        intro k
        by_cases hk : k < len
        · obtain ⟨cs, hc, ht⟩ := hel k (by omega)
          rw [Addr.add_lit] at hc
          obtain ⟨i, h1, h2⟩ := itm_at hc ht
          exact ⟨i, fun _ => ⟨h1, h2⟩⟩
        · exact ⟨⟨⟨0, 0, [], 0, 0, []⟩, none, 0, none, 0⟩, fun h => absurd h hk⟩
      obtain ⟨f, hf⟩ : ∃ f : Nat → ItmAt, ∀ k, k < len → Fits W (f k) ∧ ∀ (j : Nat) (v : Value), (f k).cells[j]? = some v → W.cell? ⟨b, off + k * 6 + j, none⟩ = some v := ⟨fun k => (hex k).choose, fun k => (hex k).choose_spec⟩
      have hlen : ((List.range len).map f).length = len := by simp
      have hmem : ∀ x ∈ (List.range len).map f, Fits W x := fun x hx => by
        obtain ⟨k, hk, rfl⟩ := List.mem_map.1 hx
        exact (hf k (List.mem_range.1 hk)).1
      refine ⟨(List.range len).map f, hlen, fun _ => ⟨b, off, rfl, fun j x hj => ?_⟩, hmem, fun x hx => fits_old (hmem x hx)⟩
      have hlt := (List.getElem?_eq_some_iff.1 hj).1
      rw [hlen] at hlt
      rw [List.getElem?_map, List.getElem?_range hlt] at hj
      cases hj
      exact (hf j hlt).2
    · have h0 : len = 0 := by omega
      subst h0
      exact ⟨[], rfl, items_none W _⟩

set_option maxRecDepth 100000 in
theorem write_lifted (os : Os) (started : os.Started) (H : Type) (enc : TypeId × Value → H) :
    ReturnsInHanded {} Try.checked os 3 .any (Rows.codecWriteSpec.pre6 enc Try.prog Try.f3 Rows.codecWriteRow.domain false) (Rows.codecWriteSpec.post enc Try.prog Try.f3 false true false false) := by
  refine returnsInHanded_of_change (C := Try.checked) writeKnobs started (by kernel_rfl) Try.func3
    (ChangeSpec.witness6 (enc := enc) (C := Try.checked) false ⟨#[], #[.slice none 0 0], []⟩ 8 (by kernel_rfl) (by kernel_rfl) (by kernel_rfl) (by kernel_rfl)) ?_
  intro W base args ds gs before hval0 hW hcnd _
  have hval : ∀ (j : Nat) t v, Try.f3.params[j]? = some t → args[j]? = some v → Value.okWide Try.prog W .any base t v := hval0
  have hW' := hW
  obtain ⟨p, q, hA0, hV, rfl, hfz, hnd⟩ := hW
  have hA : DataW.TrodAll enc Try.prog W 0 (fun _ => true) true Try.f3.params.toList args.toList ds p := hA0
  rw [Try.params3] at hA hval
  obtain ⟨v0, vs0, d0, ds0, p0, q0, hargs, rfl, rfl, h0, r0⟩ := trodAll_cons hA
  obtain ⟨rfl, rfl, rfl⟩ := trodAll_nil r0
  obtain rfl : args = #[v0] := by cases args; simp_all
  obtain ⟨rfl, rfl⟩ := trodVars_none hV
  obtain ⟨a0, len0, cap0, rfl⟩ := okWide_slice Try.underlying22 (hval 0 22 v0 rfl rfl)
  have k0 := h0
  have lt0 : ∀ x ∈ p0, x.block < W.heap.size := by obtain ⟨m, hm⟩ := k0; exact DataW.trod_lt m _ _ _ hm
  obtain ⟨its, rfl, hits⟩ : ∃ its : List ItmAt, its.length = len0 ∧ Items W a0 its := by
    obtain ⟨fuel, hf⟩ := h0
    exact items_at (by simpa [Value.cells] using hf)
  clear hA0 hval0
  refine (write_any a0 its cap0 W hits).mono fun e W' ⟨he, bel⟩ => ?_
  subst he
  exact ⟨_, rfl, _, _, _, [], _, [], hW', trodAll_mk1 (shut_bool Try.underlying4 _), (trodAll_cons_mk (Below.trod writeLaid (by kernel_rfl) (of_decide_eq_true (by kernel_rfl)) k0 bel lt0) trodAll_mk0), rfl, bel.frame _, fun h => by cases h⟩

theorem codecWrite_holds : Rows.CodecWriteSaid :=
  OpenClaim.holds_of_wide 3 Try.f3 rfl rfl rfl rfl rfl rfl rfl ⟨rfl, rfl, rfl, rfl, rfl⟩ rfl rfl rfl rfl rfl (by kernel_rfl) Try.func3 (by kernel_rfl)
    (of_decide_eq_true (by kernel_rfl)) (by unfold Func.isWrapper; first | (rw [if_pos (by decide +kernel)]; kernel_rfl) | (rw [if_neg (by decide +kernel)]; exact ⟨rfl, rfl⟩))
    (fun os started H enc _ => write_lifted os started H enc)

#print axioms codecWrite_holds
end Go.Proofs.Ythimmgbccpdkmaa
