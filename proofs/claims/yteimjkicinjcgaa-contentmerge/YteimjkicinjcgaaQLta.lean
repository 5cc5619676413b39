/-
  ContentMerge: its end.
-/
import Derived.Test.YteimjkicinjcgaaQOmx
import Derived.Deep.RegionWith
import Derived.ProofKit
import Derived.OpenShut
import Derived.ChangeOld
import Derived.Deep.Slices
import Derived.Deep.Grids
import Derived.Test.YteimjkicinjcgaaQLk

/-
  The law's operations, added to a file.
-/
namespace Go.Proofs.Yteimjkicinjcgaa.Ck.Y.L
open Go.RowKit Go.Maps Go.Lib

/-- What the operations say: numbers and bytes. -/
structure Con (u : World) (nsf : OG → List Int) (bsf : OG → List (BitVec 8)) (l : List OG) : Prop where
  each : ∀ o ∈ l, WIn u o (nsf o) (bsf o) ∧ mayW o (nsf o) = true
  apart : l.Pairwise fun a b => (a.t, a.n) ≠ (b.t, b.n)
theorem Taken.con {u : World} {l : List OG} (h : Taken u l) : ∃ nsf bsf, Con u nsf bsf l := by
  classical
  refine ⟨fun o => if q : ∃ ns bs, WIn u o ns bs ∧ mayW o ns = true then q.choose else [], fun o => if q : ∃ ns bs, WIn u o ns bs ∧ mayW o ns = true then q.choose_spec.choose else [], ⟨fun o ho => ?_, h.apart⟩⟩
  obtain ⟨ns, bs, h1, h2, _⟩ := h.each o ho
  have q : ∃ ns bs, WIn u o ns bs ∧ mayW o ns = true := ⟨ns, bs, h1, h2⟩
  simp only [dif_pos q]
  exact q.choose_spec.choose_spec
section
variable {nsf : OG → List Int} {bsf : OG → List (BitVec 8)}
theorem may_sq {o : OG} {ns : List Int} (h : mayW o ns = true) : 1 ≤ o.sq := by
  unfold mayW Cd.mayO Cd.countB at h
  simp only [Bool.and_eq_true, decide_eq_true_eq] at h
  exact h.1.2.1.1.1
theorem pairwise_at {l : List OG} (h : l.Pairwise fun a b => (a.t, a.n) ≠ (b.t, b.n)) {i : Nat} {x : OG} (hx : l[i]? = some x) : ∀ y ∈ l.take i, (y.t, y.n) ≠ (x.t, x.n) := by
  intro y hy
  obtain ⟨j, hj, e⟩ := List.getElem_of_mem hy
  rw [List.length_take] at hj
  obtain ⟨hi, ex⟩ := List.getElem?_eq_some_iff.1 hx
  have := List.pairwise_iff_getElem.1 h j i (by omega) hi (by omega)
  rw [ex] at this
  rw [List.getElem_take] at e
  rw [e] at this
  exact this
end
theorem new_at (w : World) : Calls Try.prog 8 #[] w fun e w' => ∃ fb, e = .returned (.pointer (some ⟨fb, 0, none⟩)) ∧ fb = w.heap.size ∧ Below w.heap.size w w' ∧ FileS (fun b => b = fb) w' fb [] := by
  refine (new_any w).mono ?_
  rintro e w' ⟨rfl, h1, h2⟩
  exact ⟨_, rfl, rfl, h1, h2⟩

section
variable {u wr : World} {base fb gb : Nat} {v : Value} {l : List OG} {F G : Nat → Prop} {S T : List VC}
end
section
variable {u wr : World} {base fb gb : Nat} {v : Value} {nsf : OG → List Int} {bsf : OG → List (BitVec 8)} {l : List OG} {i j : Nat}
end

end Go.Proofs.Yteimjkicinjcgaa.Ck.Y.L

/-
  ContentOrders, the law.
-/
namespace Go.Proofs.Yteimjkicinjcgaa.Ck.Y.L
open Go.RowKit Go.Maps Go.Lib

theorem fheadsR {F : Nat → Prop} {w w0 : World} {fb : Nat} {S HC : List VC} (h : FileS F w0 fb S) (hb : Below w0.heap.size w0 w) (hq : ∀ x ∈ S, 1 ≤ x.sq) (hs : IsHd S HC) :
    Calls Try.prog 14 #[.pointer (some ⟨fb, 0, none⟩)] w fun e w' => ∃ p c M, e = .returned (.slice p HC.length c) ∧ RowV w' w.heap.size (.slice p HC.length c) M ∧ M.map VG.c = HC ∧ Below w.heap.size w w' := by
  refine (fheads (h.below hb) hq hs).mono ?_
  rintro e w' ⟨v, M, rfl, hr, hm, _, hb'⟩
  obtain ⟨p, c, rfl, _⟩ := hr.caps
  have : M.length = HC.length := by rw [← hm, List.length_map]
  rw [this] at hr ⊢
  exact ⟨p, c, M, rfl, hr, hm, hb'⟩
theorem fvalueR {F : Nat → Prop} {w w0 : World} {fb : Nat} {S HC : List VC} (h : FileS F w0 fb S) (hb : Below w0.heap.size w0 w) (hq : ∀ x ∈ S, 1 ≤ x.sq) (hs : IsHd S HC) :
    Calls Try.prog 15 #[.pointer (some ⟨fb, 0, none⟩)] w fun e w' => ∃ p n c, e = .returned (.slice p n c) ∧ (∀ W, Below w'.heap.size w' W → (convert 31 9 (.slice p n c)).run Try.prog W = .ok (.string (Cd.strOf (lastC HC))) W) ∧ Below w.heap.size w w' := by
  refine (fvalue (h.below hb) hq hs).mono ?_
  rintro e w' ⟨v, rfl, ho, hb'⟩
  obtain ⟨_, p, c, rfl, _, hby, _⟩ := Cd.owns_bytes ho
  exact ⟨p, _, c, rfl, fun W hW => Cd.run_str W p (lastC HC) c (Cd.below_bytes hW hby), hb'⟩

end Go.Proofs.Yteimjkicinjcgaa.Ck.Y.L

/-
  An operation, and bytes, that came in, read cell by cell.
-/
namespace Go.Proofs.Yteimjkicinjcgaa.Cd
open Go.ChangeShapes Go.WideShapes Go.ChangeAt Go.RowKit Go.Deep

theorem cellsU8 : Try.prog.cellsOf 5 = 1 := by kernel_rfl
theorem cellsI64 : Try.prog.cellsOf 2 = 1 := by kernel_rfl
theorem cellsInt : Try.prog.cellsOf 3 = 1 := by kernel_rfl
theorem cellsStr : Try.prog.cellsOf 9 = 1 := by kernel_rfl
theorem cellsId : Try.prog.cellsOf 30 = 2 := by kernel_rfl
theorem cellsBs : Try.prog.cellsOf 31 = 1 := by kernel_rfl
theorem cellsVec : Try.prog.cellsOf 33 = 1 := by kernel_rfl
theorem cellsOp : Try.prog.cellsOf 35 = 11 := by kernel_rfl

def byteOf (z : Int) : BitVec 8 := BitVec.ofNat 8 z.toNat
theorem byteOf_val {z : Int} (h : (Lit.int .u8 z).wf = true) : u8v (byteOf z) = .int .u8 z := by
  simp [Lit.wf] at h
  have h1 : (0 : Int) ≤ z := h.1
  have h2 : z ≤ 255 := h.2
  unfold u8v byteOf
  rw [BitVec.toNat_ofNat, Nat.mod_eq_of_lt (by omega)]
  congr 1
  omega
theorem row_of_cells {W : World} {k : IntKind} {a : Addr} {len cap : Nat} {zs : List Int} (hl : len ≤ cap) (hz : zs.length = cap)
    (hc : ∀ i, i < cap → W.cell? (a.add i) = some (.int k (zs.getD i 0))) (hp : 0 < len) : ∃ b o, a = ⟨b, o, none⟩ ∧ ∀ (j : Nat) (x : Int), (zs.take len)[j]? = some x → W.cell? ⟨b, o + j, none⟩ = some (.int k x) := by
  obtain ⟨b, off, spot⟩ := a
  have h0 := hc 0 (by omega)
  have hspot : spot = none := by simpa [Addr.add] using World.cell?_spot h0
  subst hspot
  refine ⟨b, off, rfl, fun j x hj => ?_⟩
  rw [List.getElem?_take] at hj
  split at hj
  · have hcell := hc j (by omega)
    rw [Addr.add_lit, List.getD, hj, Option.getD_some] at hcell
    exact hcell
  · cases hj

/-- A slice of bytes, by its value. -/
theorem bytes_in {H : Type} {enc : TypeId × Value → H} {W : World} {fuel : Nat} {cs : List Value} {r : DataW H × List MemPlace} (h : DataW.trod enc Try.prog W 0 (fun _ => true) true fuel 31 cs = some r) :
    ∃ a cap, ∃ bs : List (BitVec 8), cs = [.slice a bs.length cap] ∧ bs.length ≤ cap ∧ bs.length ≤ maxLen ∧ Bytes W a bs := by
  rcases open_ints Try.underlying31 Try.underlying5 cellsU8 h with ⟨hcs, _⟩ | ⟨x, len, cap, zs, hcs, _, hl, hm, hz, _, hcell, hw⟩
  · exact ⟨none, 0, [], hcs, Nat.le_refl _, Nat.zero_le _, bytes_nil _ _⟩
  · have hz' : zs.length = cap := by simpa using hz
    have hlen : ((zs.take len).map byteOf).length = len := by simp; omega
    refine ⟨some x, cap, (zs.take len).map byteOf, by rw [hlen]; exact hcs, by rw [hlen]; exact hl, by rw [hlen]; omega, fun hp => ?_⟩
    rw [hlen] at hp
    obtain ⟨b, o, rfl, hx⟩ := row_of_cells hl hz' (fun i hi => hcell i (by omega)) hp
    refine ⟨b, o, rfl, fun j y hj => ?_⟩
    rw [List.getElem?_map] at hj
    obtain ⟨z, hzj, rfl⟩ := Option.map_eq_some_iff.1 hj
    rw [hx j z hzj, byteOf_val (hw z (List.mem_of_mem_take (List.mem_of_getElem? hzj)))]
/-- A slice of numbers, by its value. -/
theorem ints_in {H : Type} {enc : TypeId × Value → H} {W : World} {fuel : Nat} {cs : List Value} {r : DataW H × List MemPlace} (h : DataW.trod enc Try.prog W 0 (fun _ => true) true fuel 33 cs = some r) :
    ∃ a cap, ∃ ns : List Int, cs = [.slice a ns.length cap] ∧ ns.length ≤ cap ∧ ns.length ≤ maxLen ∧ Lies W a (ns.map iv) := by
  rcases open_ints Try.underlying33 Try.underlying2 cellsI64 h with ⟨hcs, _⟩ | ⟨x, len, cap, zs, hcs, _, hl, hm, hz, _, hcell, hw⟩
  · exact ⟨none, 0, [], hcs, Nat.le_refl _, Nat.zero_le _, lies_nil _ _⟩
  · have hz' : zs.length = cap := by simpa using hz
    have hlen : (zs.take len).length = len := by simp; omega
    refine ⟨some x, cap, zs.take len, by rw [hlen]; exact hcs, by rw [hlen]; exact hl, by rw [hlen]; omega, fun hp => ?_⟩
    rw [List.length_map, hlen] at hp
    obtain ⟨b, o, rfl, hx⟩ := row_of_cells hl hz' (fun i hi => hcell i (by omega)) hp
    refine ⟨b, o, rfl, fun j y hj => ?_⟩
    rw [List.getElem?_map] at hj
    obtain ⟨z, hzj, rfl⟩ := Option.map_eq_some_iff.1 hj
    exact hx j z hzj

theorem list2 {α : Type} {l : List α} (h : l.length = 2) : ∃ a b, l = [a, b] := by
  match l, h with
  | [a, b], _ => exact ⟨a, b, rfl⟩
theorem list8 {α : Type} {l : List α} (h : l.length = 8) : ∃ a b c d e f g i, l = [a, b, c, d, e, f, g, i] := by
  match l, h with
  | [a, b, c, d, e, f, g, i], _ => exact ⟨a, b, c, d, e, f, g, i, rfl⟩
theorem list11 {α : Type} {l : List α} (h : l.length = 11) : ∃ a b c d e f g i j k m, l = [a, b, c, d, e, f, g, i, j, k, m] := by
  match l, h with
  | [a, b, c, d, e, f, g, i, j, k, m], _ => exact ⟨a, b, c, d, e, f, g, i, j, k, m, rfl⟩

/-- The cells of a stamp. -/
theorem id_cells {H : Type} {enc : TypeId × Value → H} {W : World} {fuel : Nat} {cs : List Value} {x : DataW H × List MemPlace} (h : DataW.trod enc Try.prog W 0 (fun _ => true) true fuel 30 cs = some x) :
    ∃ t n : Int, cs = [.int .i64 t, .int .i64 n] := by
  obtain ⟨zs, n', _, _, hl, hlen, hf⟩ := DataW.trod_struct Try.underlying30 h
  rw [cellsId] at hl
  obtain ⟨v0, v1, rfl⟩ := list2 hl
  obtain ⟨z0, z1, rfl⟩ := list2 (show zs.length = 2 from hlen)
  have g0 := hf 0 _ rfl
  have g1 := hf 1 _ rfl
  simp [cellsInt, cellsI64] at g0 g1
  obtain ⟨tt, e3, _, _⟩ := DataW.trod_int Try.underlying2 g0
  obtain ⟨dd, e4, _, _⟩ := DataW.trod_int Try.underlying3 g1
  simp at e3 e4
  subst e3 e4
  exact ⟨tt, dd, rfl⟩

end Go.Proofs.Yteimjkicinjcgaa.Cd

/-
  The law's operations, as they come in.
-/
namespace Go.Proofs.Yteimjkicinjcgaa.Ck.Y.L
open Go.ChangeShapes Go.WideShapes Go.ChangeAt Go.RowKit Go.Deep

theorem elems_in {H : Type} {enc : TypeId × Value → H} {W : World} {fuel : Nat} {a : Option Addr} {len cap : Nat} {y : DataW H × List MemPlace} {t e : TypeId} {S : Nat} (hu : Try.prog.underlying t = some (.slice e)) (hS : Try.prog.cellsOf e = S) (h0 : 0 < S)
    {α : Type} (dflt : α) (R : Nat → Nat → α → Prop) (h : DataW.trod enc Try.prog W 0 (fun _ => true) true fuel t [.slice a len cap] = some y)
    (hel : ∀ (b o : Nat) (cs : List Value) (n : Nat) (x : DataW H × List MemPlace), W.cells? 0 ⟨b, o, none⟩ S = some cs → DataW.trod enc Try.prog W 0 (fun _ => true) true n e cs = some x → ∃ i, R b o i) :
    ∃ l : List α, l.length = len ∧ (0 < len → ∃ g o, a = some ⟨g, o, none⟩ ∧ ∀ (j : Nat) (x : α), l[j]? = some x → R g (o + j * S) x) := by
  rcases open_slice hu h with ⟨hcs, _⟩ | ⟨⟨b, off, spot⟩, len', cap', m, n, D, Pl, hcs, _, hl, hmax, hm, hx, hel'⟩
  · simp at hcs
    obtain ⟨rfl, rfl, rfl⟩ := hcs
    exact ⟨[], rfl, fun h => absurd h (by simp)⟩
  · simp at hcs
    obtain ⟨rfl, rfl, rfl⟩ := hcs
    simp only [if_true] at hm
    subst hm
    rw [hS] at hel'
    by_cases hp : 0 < len
    · have hspot : spot = none := by
        obtain ⟨cs, hc, _⟩ := hel' 0 (by omega)
        obtain ⟨_, _, hcell⟩ := World.cells?_some hc
        have h0' := hcell 0 (by omega)
        have hl6 := (World.cells?_some hc).2.1
        rw [List.getElem?_eq_getElem (by omega)] at h0'
        simpa [Addr.add] using World.cell?_spot h0'
      subst hspot
      have hex : ∀ k, ∃ i : α, k < len → R b (off + k * S) i := by
        intro k
        by_cases hk : k < len
        · obtain ⟨cs, hc, ht⟩ := hel' k (by omega)
          rw [Addr.add_lit] at hc
          obtain ⟨i, h2⟩ := hel b (off + k * S) cs n _ hc ht
          exact ⟨i, fun _ => h2⟩
        · exact ⟨dflt, fun h => absurd h hk⟩
      obtain ⟨f, hf⟩ : ∃ f : Nat → α, ∀ k, k < len → R b (off + k * S) (f k) := ⟨fun k => (hex k).choose, fun k => (hex k).choose_spec⟩
      have hlen : ((List.range len).map f).length = len := by simp
      refine ⟨(List.range len).map f, hlen, fun _ => ⟨b, off, rfl, fun j x hj => ?_⟩⟩
      have hlt := (List.getElem?_eq_some_iff.1 hj).1
      rw [hlen] at hlt
      rw [List.getElem?_map, List.getElem?_range hlt] at hj
      cases hj
      exact hf j hlt
    · have h0' : len = 0 := by omega
      subst h0'
      exact ⟨[], rfl, fun h => absurd h (by simp)⟩


set_option maxRecDepth 8000 in
set_option maxHeartbeats 1000000 in
/-- An operation's cells. -/
theorem opcells_in {H : Type} {enc : TypeId × Value → H} {W : World} {fuel : Nat} {cs : List Value} {x : DataW H × List MemPlace} (h : DataW.trod enc Try.prog W 0 (fun _ => true) true fuel 35 cs = some x) :
    ∃ o : OG, cs = opG o ∧ ∃ ns bs, RawIn W o ns bs := by
  obtain ⟨zs, n', _, _, hl, hlen, hf⟩ := DataW.trod_struct Try.underlying35 h
  rw [Cd.cellsOp] at hl
  obtain ⟨v0, v1, v2, v3, v4, v5, v6, v7, v8, v9, v10, rfl⟩ := Cd.list11 hl
  obtain ⟨z0, z1, z2, z3, z4, z5, z6, z7, rfl⟩ := Cd.list8 (show zs.length = 8 from hlen)
  have g0 := hf 0 _ rfl
  have g1 := hf 1 _ rfl
  have g2 := hf 2 _ rfl
  have g3 := hf 3 _ rfl
  have g4 := hf 4 _ rfl
  have g5 := hf 5 _ rfl
  have g6 := hf 6 _ rfl
  have g7 := hf 7 _ rfl
  simp [Cd.cellsInt, Cd.cellsI64, Cd.cellsId, Cd.cellsStr, Cd.cellsBs, Cd.cellsVec] at g0 g1 g2 g3 g4 g5 g6 g7
  obtain ⟨t, n, e0⟩ := Cd.id_cells g0
  obtain ⟨sq, e1, _, _⟩ := DataW.trod_int Try.underlying2 g1
  obtain ⟨kd, e2, _, _⟩ := DataW.trod_int Try.underlying3 g2
  obtain ⟨ot, on, e3⟩ := Cd.id_cells g3
  obtain ⟨pt, pn, e4⟩ := Cd.id_cells g4
  obtain ⟨s, e5, _, _⟩ := DataW.trod_string Try.underlying9 g5
  obtain ⟨p, c, data, e6, k1, _, k2⟩ := Cd.bytes_in g6
  obtain ⟨q, d, ns, e7, k3, k4, k5⟩ := Cd.ints_in g7
  simp at e0 e1 e2 e3 e4 e5 e6 e7
  refine ⟨⟨t, n, sq, kd, ot, on, pt, pn, s, p, data.length, c, q, ns.length, d⟩, ?_, ns, data, ⟨k5, rfl, k3, k4, k2, rfl, k1⟩⟩
  show _ = [_, _, _, _, _, _, _, _, _, _, _]
  rw [e0.1, e0.2, e1, e2, e3.1, e3.2, e4.1, e4.2, e5, e6, e7]
/-- A row of operations. -/
theorem ops_in {H : Type} {enc : TypeId × Value → H} {W : World} {fuel : Nat} {a : Option Addr} {len cap : Nat} {y : DataW H × List MemPlace} (h : DataW.trod enc Try.prog W 0 (fun _ => true) true fuel 22 [.slice a len cap] = some y) :
    ∃ L : List OG, L.length = len ∧ OpsL W a L ∧ L.length ≤ maxLen := by
  have hmax : len ≤ maxLen := by
    rcases open_slice Try.underlying22 h with ⟨hcs, _⟩ | ⟨_, len', cap', _, _, _, _, hcs, _, hl, hmax, _⟩
    · simp at hcs; rw [hcs.2.1]; exact Nat.zero_le _
    · simp at hcs
      rw [hcs.2.1]
      omega
  obtain ⟨l, hl, hr⟩ := elems_in Try.underlying22 Cd.cellsOp (by decide) (⟨0, 0, 0, 0, 0, 0, 0, 0, ⟨#[]⟩, none, 0, 0, none, 0, 0⟩ : OG) (fun b o x => (∀ k : Nat, k < 11 → W.cell? ⟨b, o + k, none⟩ = (opG x)[k]?) ∧ ∃ ns bs, RawIn W x ns bs) h (fun b o cs n x hc ht => by
    obtain ⟨z, rfl, hz⟩ := opcells_in ht
    obtain ⟨_, _, hcell⟩ := World.cells?_some hc
    exact ⟨z, fun k hk => by have := hcell k hk; rwa [Addr.add_lit] at this, hz⟩)
  refine ⟨l, hl, fun h0 => ?_, by omega⟩
  obtain ⟨g, o, e, hc⟩ := hr (by omega)
  refine ⟨g, o, e, fun j x hj => ?_⟩
  obtain ⟨h1, h2⟩ := hc j x hj
  exact ⟨⟨h1 0 (by omega), h1 1 (by omega), h1 2 (by omega), h1 3 (by omega), h1 4 (by omega), h1 5 (by omega), h1 6 (by omega), h1 7 (by omega), h1 8 (by omega), h1 9 (by omega), h1 10 (by omega)⟩, h2⟩

end Go.Proofs.Yteimjkicinjcgaa.Ck.Y.L

/-
  The document's With at node 2.
-/
namespace Go.Proofs.Yteimjkicinjcgaa.Vc
open Go.RowKit

attribute [local go_sem] Oper.semAt_some

/-- A vector in new memory. -/
def AnsN (w : World) (ns : List Int) (e : Ending) (w' : World) : Prop := ∃ b, e = .returned (.slice (some ⟨b, 0, none⟩) ns.length ns.length) ∧ w.heap.size ≤ b ∧ Lies w' (some ⟨b, 0, none⟩) (ns.map iv) ∧ Below w.heap.size w w'
theorem short_new {W w : World} {vv : Value} {n : Nat} {f : Nat → Int} (hb : Below W.heap.size W w) (ho : w.ownsRow W.heap.size 2 1 vv n ((nums f).map iv)) : Calls Try.prog 38 #[vv] w (AnsN W (vec f)) := by
  obtain ⟨_, p, c, rfl, hc, hl⟩ := owns_lies ho
  rw [List.length_map] at hc ⊢
  obtain ⟨b, o, rfl, hx⟩ := hl (by rw [List.length_map, nums_length]; decide)
  have hb0 : o = 0 ∧ W.heap.size ≤ b := by
    rcases ho.2 with ⟨e, _⟩ | ⟨g, cap, cur, e, hg, _⟩
    · cases e
    · cases e; exact ⟨rfl, hg⟩
  obtain ⟨rfl, hge⟩ := hb0
  refine (short_any b (nums f) c w hc (by rw [nums_length]; decide) hl).mono ?_
  rintro e w' ⟨rfl, rfl⟩
  rw [nums_length]
  have hlv := vec_length f
  rw [← hlv]
  refine ⟨b, rfl, hge, ?_, hb⟩
  unfold vec
  exact lies_take hl _

end Go.Proofs.Yteimjkicinjcgaa.Vc

/-
  The document's With, at any node.
-/
namespace Go.Proofs.Yteimjkicinjcgaa.Vc
open Go.RowKit

attribute [local go_sem] Oper.semAt_some

def wdF (ns : List Int) (d : Nat) (q : Int) (k : Nat) : Int := if k = d then q else atOf ns k
set_option maxRecDepth 8000 in
set_option maxRecDepth 8000 in
set_option maxHeartbeats 1000000 in
theorem rwith_at (p : Option Addr) (ns : List Int) (cp d : Nat) (q : Int) (hd : d < 64) (hq0 : 0 ≤ q) (hq1 : q ≤ 1152921504606846976) (w : World) (hp : Lies w p (ns.map iv)) :
    Calls Try.prog 23 #[.slice p ns.length cp, .int .i64 (d : Nat), .int .i64 q] w (AnsN w (vec (wdF ns d q))) := by
  have C : Hid (∀ (w' : World) (k : Nat), Below w.heap.size w w' → k < 64 → Calls Try.prog 22 #[.slice p ns.length cp, .int .i64 k] w' fun e w'' => e = .returned (.int .i64 (atOf ns k)) ∧ w'' = w') :=
    fun w' k hB hk => rat_nat p ns cp k w' (below_lies hB hp) hk
  have HF : Hid (wdF ns d q d = q ∧ ∀ k, k ≠ d → wdF ns d q k = atOf ns k) := ⟨by simp [wdF], fun k hk => by simp [wdF, hk]⟩
  have g0 : ¬ q < 0 := by omega
  have g1 : ¬ (1152921504606846976 : Int) < q := by omega
  have gd : (d : Int) < 64 := by omega
  have ge : ¬ (64 : Int) ≤ d := by omega
  have gf : ¬ (d : Int) < 0 := by omega
  have HD : Hid (d < 64) := hd
  clear hp hq0 hq1 hd
  generalize wdF ns d q = f at *
  go_enter Try.func23, Try.ntmps23
  go_wp2_with fail
  go_loopw [7, 8] (fun vv ii wr => ∃ i : Nat, ii = .int .i64 i ∧ i ≤ 64 ∧ Hid (wr.ownsRow w.heap.size 2 1 vv i ((numsTo f i).map iv)) ∧ Hid (Below w.heap.size w wr)) (fun _ ii _ => 64 - (intOf ii).toNat)
  case atStart => exact ⟨0, rfl, by omega, World.ownsRow_nil _ _ _ _, Below.refl _ _⟩
  case round =>
    obtain ⟨i, rfl, hi, HO, HB⟩ := hrel
    by_cases hlt : i < 64
    · have hltI : (i : Int) < 64 := by omega
      have H1 : Hid (i ≤ 1000000) := by show _ ≤ _; omega
      have H2 : Hid (w.heap.size ≤ wr.heap.size) := HB.out.size
      by_cases h2 : i = d
      · have h2I : ((i : Int) == (d : Int)) = true := by rw [h2]; simp
        have h2J : (i : Int) = (d : Int) := by omega
        have HY : Hid (f i = q) := by rw [h2]; exact HF.out.1
        have tok : True := trivial
        clear h2
        go_wp2_with (have tk := tok; refine wpList_append_num rfl _ _ 33 2 rfl Try.underlying33 Try.info2 w.heap.size _ i _ rfl wr q rfl HO rfl H1 H2 ?_; clear tk tok; intro v' w1 K1 K2)
        go_roundw
        case rel =>
          refine ⟨i + 1, by go_num, by omega, ?_, below_grown HB.out (Nat.le_refl _) HO.out K2.out⟩
          rw [numsTo_succ, List.map_append, HY.out]; exact K1
        case measure => simp [intOf]; omega
      · have h2I : ((i : Int) == (d : Int)) = false := by rw [beq_eq_false_iff_ne]; omega
        have h2J : ¬ (i : Int) = (d : Int) := by omega
        have c7 := C.out wr i HB.out hlt
        have hy := HF.out.2 i h2
        generalize atOf ns i = y at c7 hy
        have HY : Hid (f i = y) := hy
        have tok : True := trivial
        clear hy h2
        go_wp2_with (first
          | (go_at_call 22; refine Calls_on c7 ?_)
          | (have tk := tok; refine wpList_append_num rfl _ _ 33 2 rfl Try.underlying33 Try.info2 w.heap.size _ i _ rfl wr y rfl HO rfl H1 H2 ?_; clear tk tok; intro v' w1 K1 K2))
        go_roundw
        case rel =>
          refine ⟨i + 1, by go_num, by omega, ?_, below_grown HB.out (Nat.le_refl _) HO.out K2.out⟩
          rw [numsTo_succ, List.map_append, HY.out]; exact K1
        case measure => simp [intOf]; omega
    · obtain rfl : i = 64 := by omega
      have c31 := short_new (f := f) HB.out HO.out
      obtain ⟨_, p', c', rfl, _, _⟩ := owns_lies HO.out
      clear hlt HO C
      generalize (List.map iv (numsTo f 64)).length = m at *
      go_wp2_with (go_at_call 38; refine Calls.mono c31 ?_; rintro e w2 ⟨p2, rfl, hge, hl2, hb2⟩; have HL : Hid (Lies w2 (some ⟨p2, 0, none⟩) ((vec f).map iv)) := hl2; have HGE : Hid (w.heap.size ≤ p2) := hge; clear hge; have HB2 : Hid (Below w.heap.size w w2) := hb2; clear hl2 hb2)
      go_ret
      exact ⟨p2, rfl, HGE.out, HL.out, HB2.out⟩
theorem wdF_range (ns : List Int) (d : Nat) (q : Int) (h0 : 0 ≤ q) (h1 : q ≤ 1152921504606846976) (k : Nat) : 0 ≤ wdF ns d q k ∧ wdF ns d q k ≤ 1152921504606846976 := by
  unfold wdF
  by_cases h : k = d
  · rw [if_pos h]; exact ⟨h0, h1⟩
  · rw [if_neg h]; exact atOf_range ns k
theorem at_wd (ns : List Int) (d : Nat) (q : Int) (h0 : 0 ≤ q) (h1 : q ≤ 1152921504606846976) {k : Nat} (hk : k < 64) : atOf (vec (wdF ns d q)) k = if k = d then q else atOf ns k :=
  atOf_vec hk (wdF_range ns d q h0 h1 k).1 (wdF_range ns d q h0 h1 k).2
theorem vec_ok {f : Nat → Int} (h : ∀ k, 0 ≤ f k ∧ f k ≤ 1152921504606846976) : ∀ x ∈ vec f, 0 ≤ x ∧ x ≤ 1152921504606846976 := by
  intro x hx
  unfold vec at hx
  obtain ⟨i, hi, e⟩ := List.getElem_of_mem (List.mem_of_mem_take hx)
  rw [nums_length] at hi
  have e2 := nums_get f hi
  rw [List.getElem?_eq_getElem (by rw [nums_length]; exact hi), e] at e2
  cases e2
  exact h i

end Go.Proofs.Yteimjkicinjcgaa.Vc

/-
  ContentMerge: what the last version sees.
-/
namespace Go.Proofs.Yteimjkicinjcgaa.Ck.Y.L
open Go.RowKit Go.Maps Go.Lib

/-- What the law's list of what was seen says of the versions. -/
structure SeenAll (S : List VC) (ns : List Int) : Prop where
  sees : ∀ x ∈ S, x.sq ≤ Vc.atZ ns x.n
  node : ∀ x ∈ S, x.n ≠ 40 ∧ Vc.atZ x.ns 40 = 0 ∧ x.t < 1152921504606846976
  free : Vc.atOf ns 40 = 0
  len : ns.length ≤ 64
  ok : ∀ x ∈ ns, 0 ≤ x ∧ x ≤ 1152921504606846976
theorem SeenAll.nil : SeenAll [] [] := ⟨by simp, by simp, by simp [Vc.atOf], by simp, by simp⟩
theorem may_of {ns : List Int} (h : ns.length ≤ 64) (h1 : ∀ x ∈ ns, 0 ≤ x ∧ x ≤ 1152921504606846976) : Cd.mayB ns = true := by
  unfold Cd.mayB
  rw [Bool.and_eq_true, decide_eq_true_eq, List.all_eq_true]
  refine ⟨Nat.le_trans (Cd.tl_le _ _) h, fun x hx => ?_⟩
  have := h1 x (List.mem_of_mem_take hx)
  simp [Cd.okN, this.1, this.2]
theorem seenall_keep {S : List VC} {ns : List Int} (h : SeenAll S ns) {c : VC} (h1 : c.n ≠ 40 ∧ Vc.atZ c.ns 40 = 0 ∧ c.t < 1152921504606846976) (hs : c.sq ≤ Vc.atZ ns c.n) : SeenAll (S ++ [c]) ns := by
  refine ⟨fun x hx => ?_, fun x hx => ?_, h.free, h.len, h.ok⟩
  all_goals rcases List.mem_append.1 hx with hx | hx
  · exact h.sees x hx
  · obtain rfl : x = c := by simpa using hx
    exact hs
  · exact h.node x hx
  · obtain rfl : x = c := by simpa using hx
    exact h1
theorem seenall_with {S : List VC} {ns : List Int} (h : SeenAll S ns) {c : VC} {d : Nat} (hd : d < 64) (hn : c.n = d) (h1 : c.n ≠ 40 ∧ Vc.atZ c.ns 40 = 0 ∧ c.t < 1152921504606846976) (h0 : 0 ≤ c.sq) (h2 : c.sq ≤ 1152921504606846976) (hs : Vc.atZ ns c.n < c.sq) : SeenAll (S ++ [c]) (Vc.vec (Vc.wdF ns d c.sq)) := by
  have hat : ∀ z : Int, Vc.atZ ns z ≤ Vc.atZ (Vc.vec (Vc.wdF ns d c.sq)) z := fun z => by
    unfold Vc.atZ at hs ⊢
    by_cases hz : 0 ≤ z ∧ z < 64
    · rw [if_pos hz, if_pos hz, Vc.at_wd ns d c.sq h0 h2 (by omega)]
      by_cases e : z.toNat = d
      · rw [if_pos e]
        rw [hn, if_pos (by omega)] at hs
        rw [e]
        have : ((d : Int)).toNat = d := by omega
        rw [this] at hs
        omega
      · rw [if_neg e]; exact Int.le_refl _
    · rw [if_neg hz, if_neg hz]; exact Int.le_refl _
  refine ⟨fun x hx => ?_, fun x hx => ?_, ?_, Vc.vec_le _, Vc.vec_ok (Vc.wdF_range ns d c.sq h0 h2)⟩
  · rcases List.mem_append.1 hx with hx | hx
    · exact Int.le_trans (h.sees x hx) (hat x.n)
    · obtain rfl : x = c := by simpa using hx
      unfold Vc.atZ
      rw [hn, if_pos (by omega), show ((d : Int)).toNat = d by omega, Vc.at_wd ns d x.sq h0 h2 hd, if_pos rfl]
      exact Int.le_refl _
  · rcases List.mem_append.1 hx with hx | hx
    · exact h.node x hx
    · obtain rfl : x = c := by simpa using hx
      exact h1
  · rw [Vc.at_wd ns d c.sq h0 h2 (by decide), if_neg (by have := h1.1; omega)]
    exact h.free
/-- The last version, at a greatest time. -/
def endC (ns : List Int) (bs : List (BitVec 8)) : VC := ⟨1152921504606846976, 40, 1, ns, bs⟩
theorem end_unseen {S : List VC} {ns : List Int} (h : SeenAll S ns) {ms : List Int} (hm : Vc.atZ ms 40 = 0) (bs : List (BitVec 8)) : headC (S ++ [endC ms bs]) (endC ms bs) = true := by
  have key : ∀ c : VC, Vc.atZ c.ns 40 = 0 → (!seenB (endC ms bs).sq (endC ms bs).n c.ns) = true := fun c hc => by
    unfold seenB endC
    show (!decide ((1 : Int) ≤ Vc.atZ c.ns 40)) = true
    rw [hc]; rfl
  unfold headC
  rw [List.all_eq_true]
  intro c hc
  rcases List.mem_append.1 hc with hc | hc
  · exact key c (h.node c hc).2.1
  · obtain rfl : c = endC ms bs := by simpa using hc
    exact key _ hm
/-- It has seen all. -/
theorem end_all {S : List VC} {ns : List Int} (h : SeenAll S ns) (bs : List (BitVec 8)) : IsHd (S ++ [endC ns bs]) [endC ns bs] := by
  have h40 : Vc.atZ ns 40 = 0 := by unfold Vc.atZ; rw [if_pos (by omega)]; exact h.free
  refine ⟨List.pairwise_singleton _ _, fun x => ?_⟩
  constructor
  · intro hx
    obtain rfl : x = endC ns bs := by simpa using hx
    exact ⟨by simp, end_unseen h h40 bs⟩
  · rintro ⟨hx, hh⟩
    rcases List.mem_append.1 hx with hx | hx
    · exfalso
      unfold headC at hh
      rw [List.all_eq_true] at hh
      have := hh (endC ns bs) (by simp)
      unfold seenB endC at this
      rw [decide_eq_true (h.sees x hx)] at this
      cases this
    · exact hx
/-- It has seen none. -/
theorem end_none {S : List VC} {ns : List Int} (h : SeenAll S ns) {HC : List VC} (hh : IsHd S HC) (hq : ∀ x ∈ S, 1 ≤ x.sq) (bs : List (BitVec 8)) : IsHd (S ++ [endC [] bs]) (HC ++ [endC [] bs]) := by
  have h0 : ∀ z : Int, Vc.atZ [] z = 0 := fun z => by unfold Vc.atZ Vc.atOf; simp
  refine ⟨List.pairwise_append.2 ⟨hh.rise, List.pairwise_singleton _ _, fun x hx y hy => ?_⟩, fun x => ?_⟩
  · obtain rfl : y = endC [] bs := by simpa using hy
    have := (h.node x ((hh.mem x).1 hx).1).2.2
    unfold ltC lessB endC
    simp; omega
  · have hx1 : ∀ x ∈ S, headC (S ++ [endC [] bs]) x = headC S x := fun x hx => by
      unfold headC
      rw [List.all_append]
      have : seenB x.sq x.n (endC [] bs).ns = false := by
        unfold seenB endC
        rw [h0]
        have := hq x hx
        exact decide_eq_false (by omega)
      simp [this]
    constructor
    · intro hx
      rcases List.mem_append.1 hx with hx | hx
      · obtain ⟨a, b⟩ := (hh.mem x).1 hx
        exact ⟨List.mem_append_left _ a, by rw [hx1 x a]; exact b⟩
      · obtain rfl : x = endC [] bs := by simpa using hx
        exact ⟨by simp, end_unseen h (h0 40) bs⟩
    · rintro ⟨hx, hb⟩
      rcases List.mem_append.1 hx with hx | hx
      · rw [hx1 x hx] at hb
        exact List.mem_append_left _ ((hh.mem x).2 ⟨hx, hb⟩)
      · exact List.mem_append_right _ hx
theorem end_last (HC : List VC) (ns : List Int) (bs : List (BitVec 8)) : lastC (HC ++ [endC ns bs]) = bs := by
  unfold lastC
  rw [List.getLast?_append]
  rfl
theorem end_may {S : List VC} {ns : List Int} (h : SeenAll S ns) (bs : List (BitVec 8)) (hb : bs.length ≤ 65536) {ms : List Int} (hm : ms = ns ∨ ms = []) {p q : Option Addr} {c d : Nat} : mayW ⟨1152921504606846976, 40, 1, 4, 1, 0, 0, 0, ⟨#[]⟩, p, bs.length, c, q, ms.length, d⟩ ms = true := by
  have h1 : Cd.mayB ms = true ∧ Vc.atZ ms 40 = 0 := by
    rcases hm with rfl | rfl
    · exact ⟨may_of h.len h.ok, by unfold Vc.atZ; rw [if_pos (by omega)]; exact h.free⟩
    · exact ⟨by decide, by simp [Vc.atZ, Vc.atOf]⟩
  unfold mayW Cd.mayO Cd.countB Cd.kindB
  rw [h1.1, h1.2]
  simp [Ck.validB, Cd.olderB, Cd.rootB, hb, Ck.lessB]

end Go.Proofs.Yteimjkicinjcgaa.Ck.Y.L

/-
  ContentMerge: what its loop keeps.
-/
namespace Go.Proofs.Yteimjkicinjcgaa.Ck.Y.L
open Go.RowKit Go.Maps Go.Lib

/-- A file and the law's operations. -/
structure One (u wr : World) (base fb : Nat) (v : Value) (l : List OG) (F : Nat → Prop) (S : List VC) : Prop where
  f : FileS F wr fb S
  fu : ∀ b, F b → u.heap.size ≤ b
  row : RowG wr base v l
  below : Below u.heap.size u wr
/-- A list of numbers that no turn of the file touches. -/
structure NumF (w : World) (F : Nat → Prop) (sp : Option Addr) (ns : List Int) : Prop where
  lies : Cd.Lies w sp (ns.map Cd.iv)
  off : ns.length = 0 ∨ ∃ b, sp = some ⟨b, 0, none⟩ ∧ b < w.heap.size ∧ ¬ F b
theorem NumF.later {w w' : World} {F : Nat → Prop} {sp : Option Addr} {ns : List Int} (h : NumF w F sp ns) (hb : Below w.heap.size w w') : NumF w' F sp ns :=
  ⟨Cd.below_lies hb h.lies, h.off.imp id fun ⟨b, e, h1, h2⟩ => ⟨b, e, Nat.lt_of_lt_of_le h1 hb.size, h2⟩⟩
theorem NumF.lies' {w w' : World} {F : Nat → Prop} {sp : Option Addr} {ns : List Int} (h : NumF w F sp ns) (ho : Only F w w') : Cd.Lies w' sp (ns.map Cd.iv) := by
  rcases h.off with e | ⟨b, rfl, hb, hn⟩
  · have : ns = [] := List.eq_nil_of_length_eq_zero e
    subst this
    exact fun h => absurd h (by simp)
  · intro hl
    obtain ⟨b', k, e, hc⟩ := h.lies hl
    cases e
    refine ⟨b, 0, rfl, fun j v hj => ?_⟩
    have := hc j v hj
    rw [← this]
    unfold World.cell?
    rw [ho.block b hb hn]
theorem NumF.turn {w w' : World} {F F' : Nat → Prop} {sp : Option Addr} {ns : List Int} (h : NumF w F sp ns) (ho : Only F w w') (hF : ∀ b, F' b → F b ∨ w.heap.size ≤ b) : NumF w' F' sp ns := by
  refine ⟨h.lies' ho, h.off.imp id fun ⟨b, e, h1, h2⟩ => ⟨b, e, Nat.lt_of_lt_of_le h1 ho.size, fun h3 => ?_⟩⟩
  rcases hF b h3 with h3 | h3
  · exact h2 h3
  · omega
section
variable {u wr : World} {base fb : Nat} {v : Value} {l : List OG} {F : Nat → Prop} {S : List VC}
theorem One.later (h : One u wr base fb v l F S) {w : World} (hb : Below wr.heap.size wr w) : One u w base fb v l F S := ⟨h.f.below hb, h.fu, h.row.below hb, below_thenH h.below hb⟩
theorem One.turn (h : One u wr base fb v l F S) {w : World} {F' : Nat → Prop} {S' : List VC} (h1 : FileS F' w fb S') (h2 : ∀ b, F' b → F b ∨ wr.heap.size ≤ b) (h3 : Only F wr w) : One u w base fb v l F' S' := by
  refine ⟨h1, fun b hb => ?_, h.row.kept h3 fun g hg => ?_, h.below.trans (h3.below h.below.size h.fu)⟩
  · rcases h2 b hb with e | e
    · exact h.fu b e
    · have := h.below.size; omega
  · obtain ⟨cs, hcs, _⟩ := h.row.tag hg
    exact h.f.notF hcs (by decide) (by decide)
end
/-- What ContentMerge keeps: S: the versions so far, T: those of which ns tells. -/
structure MgF (u wr : World) (base fb : Nat) (v : Value) (l : List OG) (F : Nat → Prop) (S T : List VC) (ns : List Int) (sp : Option Addr) (i : Nat) : Prop where
  one : One u wr base fb v l F S
  sees : SeenAll T ns
  sq : ∀ x ∈ S, 1 ≤ x.sq
  len : S.length ≤ i
  keys : ∀ k ∈ S.map VC.key, ∃ y ∈ l.take i, (y.t, y.n) = k
  num : NumF wr F sp ns
def MgI (u wr : World) (base fb : Nat) (v : Value) (l : List OG) (S T : List VC) (ns : List Int) (sp : Option Addr) (i : Nat) : Prop := ∃ F, MgF u wr base fb v l F S T ns sp i
theorem take_more {l : List OG} {i : Nat} {k : KP} (h : ∃ y ∈ l.take i, (y.t, y.n) = k) : ∃ y ∈ l.take (i + 1), (y.t, y.n) = k := by
  obtain ⟨y, hy, e⟩ := h
  exact ⟨y, by rw [List.take_add_one]; exact List.mem_append_left _ hy, e⟩
section
variable {u wr : World} {base fb : Nat} {v : Value} {nsf : OG → List Int} {bsf : OG → List (BitVec 8)} {l : List OG} {S T : List VC} {ns : List Int} {sp : Option Addr} {i : Nat}
theorem MgI.row (h : MgI u wr base fb v l S T ns sp i) : RowG wr base v l := by obtain ⟨F, h⟩ := h; exact h.one.row
theorem MgI.lies (h : MgI u wr base fb v l S T ns sp i) : Cd.Lies wr sp (ns.map Cd.iv) := by obtain ⟨F, h⟩ := h; exact h.num.lies
theorem MgI.later (h : MgI u wr base fb v l S T ns sp i) {w : World} (hb : Below wr.heap.size wr w) : MgI u w base fb v l S T ns sp i := by obtain ⟨F, h⟩ := h; exact ⟨F, h.one.later hb, h.sees, h.sq, h.len, h.keys, h.num.later hb⟩
theorem MgI.skip (h : MgI u wr base fb v l S T ns sp i) : MgI u wr base fb v l S T ns sp (i + 1) := by obtain ⟨F, h⟩ := h; exact ⟨F, h.one, h.sees, h.sq, Nat.le_succ_of_le h.len, fun k hk => take_more (h.keys k hk), h.num⟩
theorem MgI.start {fb : Nat} (hf : FileS (fun b => b = fb) wr fb []) (h1 : u.heap.size ≤ fb) (hr : RowG wr base v l) (hb : Below u.heap.size u wr) : MgI u wr base fb v l [] [] [] none 0 :=
  ⟨_, ⟨hf, fun b hb => by rw [show b = fb from hb]; exact h1, hr, hb⟩, SeenAll.nil, by simp, Nat.zero_le _, by simp, ⟨fun h => absurd h (by simp), .inl rfl⟩⟩
/-- Add of a write. -/
theorem MgI.add (h : MgI u wr base fb v l S S ns sp i) (hc : Con u nsf bsf l) (hl : l.length ≤ 700) {x : OG} (hx : l[i]? = some x) (hk : x.kd = 4) :
    Calls Try.prog 10 #[.pointer (some ⟨fb, 0, none⟩), opgv x] wr fun e w' => e = .returned (.int .i64 0) ∧ MgI u w' base fb v l (S ++ [vcOf x (nsf x) (bsf x)]) S ns sp (i + 1) := by
  obtain ⟨F, h⟩ := h
  obtain ⟨h1, h2⟩ := hc.each x (List.mem_of_getElem? hx)
  have hi := (List.getElem?_eq_some_iff.1 hx).1
  refine (add_new h.one.f (h1.below h.one.below) hk h2 (fun hm => ?_) (by have := h.len; omega) (fun W hW => h1.below (h.one.below.trans (hW.below h.one.below.size h.one.fu)))).mono ?_
  · obtain ⟨y, hy, e⟩ := h.keys _ hm
    exact pairwise_at hc.apart hx y hy e
  · rintro e w' ⟨rfl, F', k1, k2, k3⟩
    refine ⟨rfl, F', h.one.turn k1 k2 k3, h.sees, fun y hy => ?_, ?_, fun k hk => ?_, h.num.turn k3 k2⟩
    · rcases List.mem_append.1 hy with hy | hy
      · exact h.sq y hy
      · obtain rfl : y = vcOf x (nsf x) (bsf x) := by simpa using hy
        exact may_sq h2
    · rw [List.length_append]; have := h.len; simp; omega
    · rw [List.map_append] at hk
      rcases List.mem_append.1 hk with hk | hk
      · exact take_more (h.keys k hk)
      · obtain rfl : k = (x.t, x.n) := by simpa [VC.key, vcOf] using hk
        exact ⟨x, by rw [List.take_add_one, hx]; simp, rfl⟩
theorem MgI.keep {c : VC} (h : MgI u wr base fb v l (S ++ [c]) S ns sp i) (h1 : c.n ≠ 40 ∧ Vc.atZ c.ns 40 = 0 ∧ c.t < 1152921504606846976) (hs : c.sq ≤ Vc.atZ ns c.n) : MgI u wr base fb v l (S ++ [c]) (S ++ [c]) ns sp i := by
  obtain ⟨F, h⟩ := h
  exact ⟨F, h.one, seenall_keep h.sees h1 hs, h.sq, h.len, h.keys, h.num⟩
theorem MgI.with {c : VC} (h : MgI u wr base fb v l (S ++ [c]) S ns sp i) (h1 : c.n ≠ 40 ∧ Vc.atZ c.ns 40 = 0 ∧ c.t < 1152921504606846976) {d : Nat} (hd : d < 64) (hn : c.n = d) (h2 : c.sq ≤ 1152921504606846976) (hs : Vc.atZ ns c.n < c.sq) {w : World} {b : Nat} (hb : wr.heap.size ≤ b) (hl : Cd.Lies w (some ⟨b, 0, none⟩) ((Vc.vec (Vc.wdF ns d c.sq)).map Cd.iv)) (hw : Below wr.heap.size wr w) :
    MgI u w base fb v l (S ++ [c]) (S ++ [c]) (Vc.vec (Vc.wdF ns d c.sq)) (some ⟨b, 0, none⟩) i := by
  obtain ⟨F, h⟩ := h
  have h0 : 1 ≤ c.sq := h.sq c (by simp)
  refine ⟨F, h.one.later hw, seenall_with h.sees hd hn h1 (by omega) h2 hs, h.sq, h.len, h.keys, hl, ?_⟩
  by_cases e : (Vc.vec (Vc.wdF ns d c.sq)).length = 0
  · exact .inl e
  · right
    obtain ⟨b', k, e2, hc⟩ := hl (by rw [List.length_map]; omega)
    cases e2
    obtain ⟨z, hz⟩ : ∃ z, ((Vc.vec (Vc.wdF ns d c.sq)).map Cd.iv)[0]? = some z := ⟨_, List.getElem?_eq_getElem (by rw [List.length_map]; omega)⟩
    exact ⟨b, rfl, cell_lt (hc 0 z hz), fun hF => by have := h.one.f.lt b hF; omega⟩
/-- The last Add. -/
theorem MgI.end (h : MgI u wr base fb v l S S ns sp i) (hi : i ≤ 700) {bs : List (BitVec 8)} {p : Option Addr} {c : Nat} (hb : Cd.Bytes u p bs) (hbl : bs.length ≤ 100) (hbc : bs.length ≤ c) {ms : List Int} {q : Option Addr} {d : Nat} (hm : (ms = ns ∧ q = sp ∧ ms.length ≤ d) ∨ (ms = [] ∧ q = none ∧ d = 0)) {w : World} (hw : Below wr.heap.size wr w) :
    Calls Try.prog 10 #[.pointer (some ⟨fb, 0, none⟩), opgv ⟨1152921504606846976, 40, 1, 4, 1, 0, 0, 0, ⟨#[]⟩, p, bs.length, c, q, ms.length, d⟩] w fun e w' => e = .returned (.int .i64 0) ∧ (∃ F, FileS F w' fb (S ++ [endC ms bs])) ∧ Below u.heap.size u w' := by
  obtain ⟨F, h⟩ := h.later hw
  have hmd : ms.length ≤ d ∧ ms.length ≤ 64 := by
    rcases hm with ⟨rfl, _, e⟩ | ⟨rfl, _, _⟩
    · exact ⟨e, h.sees.len⟩
    · exact ⟨Nat.zero_le _, Nat.zero_le _⟩
  have hin : ∀ W, Only F w W → WIn W ⟨1152921504606846976, 40, 1, 4, 1, 0, 0, 0, ⟨#[]⟩, p, bs.length, c, q, ms.length, d⟩ ms bs := fun W hW => by
    refine ⟨?_, rfl, hmd.1, by omega, Cd.below_bytes (h.one.below.trans (hW.below h.one.below.size h.one.fu)) hb, rfl, hbc, by omega, Nat.zero_le _⟩
    rcases hm with ⟨rfl, rfl, _⟩ | ⟨rfl, rfl, _⟩
    · exact h.num.lies' hW
    · exact fun h => absurd h (by simp)
  refine (add_new h.one.f (hin w (Below.only (Below.refl _ w) _)) rfl (end_may h.sees bs (by omega) (hm.imp (·.1) (·.1))) (fun hk => ?_) (by have := h.len; omega) hin).mono ?_
  · rw [List.mem_map] at hk
    obtain ⟨x, hx, e⟩ := hk
    have := (h.sees.node x hx).1
    exact this (congrArg Prod.snd e)
  · rintro e w' ⟨rfl, F', k1, k2, k3⟩
    exact ⟨rfl, ⟨F', k1⟩, (h.one.turn k1 k2 k3).below⟩
end

end Go.Proofs.Yteimjkicinjcgaa.Ck.Y.L

namespace Go.Proofs.Yteimjkicinjcgaa.Ck.Y.L
open Go.RowKit Go.Maps Go.Lib

/-- The file behind the last Add. -/
structure EndF (u w : World) (fb : Nat) (S HC : List VC) (bs : List (BitVec 8)) : Prop where
  f : ∃ F, FileS F w fb S
  sq : ∀ x ∈ S, 1 ≤ x.sq
  hd : IsHd S HC
  last : lastC HC = bs
  below : Below u.heap.size u w
section
variable {u w : World} {fb : Nat} {S HC : List VC} {bs : List (BitVec 8)}
theorem EndF.value (h : EndF u w fb S HC bs) {W : World} (hW : Below w.heap.size w W) : Calls Try.prog 15 #[.pointer (some ⟨fb, 0, none⟩)] W fun e w' => ∃ p n c, e = .returned (.slice p n c) ∧ (∀ W2, Below w'.heap.size w' W2 → (convert 31 9 (.slice p n c)).run Try.prog W2 = .ok (.string (Cd.strOf bs)) W2) ∧ Below W.heap.size W w' := by
  obtain ⟨F, hf⟩ := h.f
  have := fvalueR hf hW h.sq h.hd
  rw [h.last] at this
  exact this
theorem EndF.len (h : EndF u w fb S HC bs) {W : World} (hW : Below w.heap.size w W) : Calls Try.prog 17 #[.pointer (some ⟨fb, 0, none⟩)] W fun e w' => e = .returned (.int .i64 (S.length : Nat)) ∧ Below W.heap.size W w' := by
  obtain ⟨F, hf⟩ := h.f
  exact len_any (hf.below hW)
theorem EndF.heads (h : EndF u w fb S HC bs) {W : World} (hW : Below w.heap.size w W) : Calls Try.prog 14 #[.pointer (some ⟨fb, 0, none⟩)] W fun e w' => ∃ p c, e = .returned (.slice p HC.length c) ∧ Below W.heap.size W w' := by
  obtain ⟨F, hf⟩ := h.f
  refine (fheadsR hf hW h.sq h.hd).mono ?_
  rintro e w' ⟨p, c, _, rfl, _, _, hb⟩
  exact ⟨p, c, rfl, hb⟩
end
section
variable {u wr : World} {base fb : Nat} {v : Value} {l : List OG} {S : List VC} {ns : List Int} {sp : Option Addr} {i : Nat}
theorem MgI.end_all (h : MgI u wr base fb v l S S ns sp i) (hi : i ≤ 700) {bs : List (BitVec 8)} {p : Option Addr} {n c : Nat} (hb : Cd.Bytes u p bs) (hn : bs.length = n) (hbl : n ≤ 100) (hbc : n ≤ c) {sc : Nat} (hs : ns.length ≤ sc) {w : World} (hw : Below wr.heap.size wr w) :
    Calls Try.prog 10 #[.pointer (some ⟨fb, 0, none⟩), .agg #[.int .i64 1152921504606846976, .int .i64 40, .int .i64 1, .int .i64 4, .int .i64 1, .int .i64 0, .int .i64 0, .int .i64 0, .string ⟨#[]⟩, .slice p n c, .slice sp ns.length sc]] w fun e w' => e = .returned (.int .i64 0) ∧ EndF u w' fb (S ++ [endC ns bs]) [endC ns bs] bs := by
  subst hn
  have hsq : ∀ x ∈ S, 1 ≤ x.sq := by obtain ⟨F, k⟩ := h; exact k.sq
  have hse : SeenAll S ns := by obtain ⟨F, k⟩ := h; exact k.sees
  refine (h.end hi hb hbl hbc (ms := ns) (q := sp) (d := sc) (.inl ⟨rfl, rfl, hs⟩) hw).mono ?_
  rintro e w' ⟨rfl, h1, h2⟩
  refine ⟨rfl, h1, fun x hx => ?_, L.end_all hse bs, end_last [] ns bs, h2⟩
  rcases List.mem_append.1 hx with hx | hx
  · exact hsq x hx
  · obtain rfl : x = endC ns bs := by simpa using hx
    exact Int.le_refl _
theorem MgI.end_none (h : MgI u wr base fb v l S S ns sp i) (hi : i ≤ 700) {HC : List VC} (hh : IsHd S HC) {bs : List (BitVec 8)} {p : Option Addr} {n c : Nat} (hb : Cd.Bytes u p bs) (hn : bs.length = n) (hbl : n ≤ 100) (hbc : n ≤ c) {w : World} (hw : Below wr.heap.size wr w) :
    Calls Try.prog 10 #[.pointer (some ⟨fb, 0, none⟩), .agg #[.int .i64 1152921504606846976, .int .i64 40, .int .i64 1, .int .i64 4, .int .i64 1, .int .i64 0, .int .i64 0, .int .i64 0, .string ⟨#[]⟩, .slice p n c, .slice none 0 0]] w fun e w' => e = .returned (.int .i64 0) ∧ EndF u w' fb (S ++ [endC [] bs]) (HC ++ [endC [] bs]) bs := by
  subst hn
  have hsq : ∀ x ∈ S, 1 ≤ x.sq := by obtain ⟨F, k⟩ := h; exact k.sq
  have hse : SeenAll S ns := by obtain ⟨F, k⟩ := h; exact k.sees
  refine (h.end hi hb hbl hbc (ms := []) (q := none) (d := 0) (.inr ⟨rfl, rfl, rfl⟩) hw).mono ?_
  rintro e w' ⟨rfl, h1, h2⟩
  refine ⟨rfl, h1, fun x hx => ?_, L.end_none hse hh hsq bs, end_last HC [] bs, h2⟩
  rcases List.mem_append.1 hx with hx | hx
  · exact hsq x hx
  · obtain rfl : x = endC [] bs := by simpa using hx
    exact Int.le_refl _
end

end Go.Proofs.Yteimjkicinjcgaa.Ck.Y.L
