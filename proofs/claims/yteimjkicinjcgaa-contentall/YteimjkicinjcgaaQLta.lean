/-
  The document's own Sorted.
-/
import Derived.Test.YteimjkicinjcgaaQLw
import Derived.Deep.RegionWith
import Derived.ProofKit
import Derived.OpenShut
import Derived.ChangeOld
import Derived.Deep.Slices
import Derived.Deep.Grids
import Derived.Test.YteimjkicinjcgaaQLk
import Derived.Test.YteimjkicinjcgaaKQa

/-
  The law's operations, added to a file.
-/
namespace Go.Proofs.Yteimjkicinjcgaa.Ck.Y.L
open Go.RowKit Go.Maps Go.Lib

/-- What the operations say: numbers and bytes. -/
structure Con (u : World) (nsf : OG → List Int) (bsf : OG → List (BitVec 8)) (l : List OG) : Prop where
  each : ∀ o ∈ l, WIn u o (nsf o) (bsf o) ∧ mayW o (nsf o) = true
  apart : l.Pairwise fun a b => (a.t, a.n) ≠ (b.t, b.n)
theorem Taken.con {u : World} {l : List OG} (h : Taken u l) : ∃ nsf bsf, Con u nsf bsf l := by
  classical
  refine ⟨fun o => if q : ∃ ns bs, WIn u o ns bs ∧ mayW o ns = true then q.choose else [], fun o => if q : ∃ ns bs, WIn u o ns bs ∧ mayW o ns = true then q.choose_spec.choose else [], ⟨fun o ho => ?_, h.apart⟩⟩
  obtain ⟨ns, bs, h1, h2, _⟩ := h.each o ho
  have q : ∃ ns bs, WIn u o ns bs ∧ mayW o ns = true := ⟨ns, bs, h1, h2⟩
  simp only [dif_pos q]
  exact q.choose_spec.choose_spec
def isW (o : OG) : Bool := decide (o.kd = 4)
def vcs (nsf : OG → List Int) (bsf : OG → List (BitVec 8)) (l : List OG) : List VC := (l.filter isW).map fun o => vcOf o (nsf o) (bsf o)
section
variable {nsf : OG → List Int} {bsf : OG → List (BitVec 8)}
theorem vcs_snoc (l : List OG) (o : OG) : vcs nsf bsf (l ++ [o]) = if o.kd = 4 then vcs nsf bsf l ++ [vcOf o (nsf o) (bsf o)] else vcs nsf bsf l := by
  unfold vcs
  rw [List.filter_append]
  by_cases h : o.kd = 4
  · rw [if_pos h]; simp [isW, h]
  · rw [if_neg h]; simp [isW, h]
theorem vcs_len (l : List OG) : (vcs nsf bsf l).length ≤ l.length := by
  unfold vcs
  rw [List.length_map]
  exact List.length_filter_le _ _
theorem vcs_key {l : List OG} {k : KP} (h : k ∈ (vcs nsf bsf l).map VC.key) : ∃ o ∈ l, (o.t, o.n) = k := by
  unfold vcs at h
  rw [List.mem_map] at h
  obtain ⟨c, hc, rfl⟩ := h
  rw [List.mem_map] at hc
  obtain ⟨o, ho, rfl⟩ := hc
  exact ⟨o, (List.mem_filter.1 ho).1, rfl⟩
theorem may_sq {o : OG} {ns : List Int} (h : mayW o ns = true) : 1 ≤ o.sq := by
  unfold mayW Cd.mayO Cd.countB at h
  simp only [Bool.and_eq_true, decide_eq_true_eq] at h
  exact h.1.2.1.1.1
theorem pairwise_at {l : List OG} (h : l.Pairwise fun a b => (a.t, a.n) ≠ (b.t, b.n)) {i : Nat} {x : OG} (hx : l[i]? = some x) : ∀ y ∈ l.take i, (y.t, y.n) ≠ (x.t, x.n) := by
  intro y hy
  obtain ⟨j, hj, e⟩ := List.getElem_of_mem hy
  rw [List.length_take] at hj
  obtain ⟨hi, ex⟩ := List.getElem?_eq_some_iff.1 hx
  have := List.pairwise_iff_getElem.1 h j i (by omega) hi (by omega)
  rw [ex] at this
  rw [List.getElem_take] at e
  rw [e] at this
  exact this
theorem vcs_new {l : List OG} (h : l.Pairwise fun a b => (a.t, a.n) ≠ (b.t, b.n)) {i : Nat} {x : OG} (hx : l[i]? = some x) : (x.t, x.n) ∉ (vcs nsf bsf (l.take i)).map VC.key := by
  intro hk
  obtain ⟨o, ho, e⟩ := vcs_key hk
  exact pairwise_at h hx o ho e
end
theorem new_at (w : World) : Calls Try.prog 8 #[] w fun e w' => ∃ fb, e = .returned (.pointer (some ⟨fb, 0, none⟩)) ∧ fb = w.heap.size ∧ Below w.heap.size w w' ∧ FileS (fun b => b = fb) w' fb [] := by
  refine (new_any w).mono ?_
  rintro e w' ⟨rfl, h1, h2⟩
  exact ⟨_, rfl, rfl, h1, h2⟩

section
variable {u wr : World} {base fb gb : Nat} {v : Value} {l : List OG} {F G : Nat → Prop} {S T : List VC}
end
section
variable {u wr : World} {base fb gb : Nat} {v : Value} {nsf : OG → List Int} {bsf : OG → List (BitVec 8)} {l : List OG} {i j : Nat}
end

end Go.Proofs.Yteimjkicinjcgaa.Ck.Y.L

/-
  ContentOrders, the law.
-/
namespace Go.Proofs.Yteimjkicinjcgaa.Ck.Y.L
open Go.RowKit Go.Maps Go.Lib

theorem fvalueR {F : Nat → Prop} {w w0 : World} {fb : Nat} {S HC : List VC} (h : FileS F w0 fb S) (hb : Below w0.heap.size w0 w) (hq : ∀ x ∈ S, 1 ≤ x.sq) (hs : IsHd S HC) :
    Calls Try.prog 15 #[.pointer (some ⟨fb, 0, none⟩)] w fun e w' => ∃ p n c, e = .returned (.slice p n c) ∧ (∀ W, Below w'.heap.size w' W → (convert 31 9 (.slice p n c)).run Try.prog W = .ok (.string (Cd.strOf (lastC HC))) W) ∧ Below w.heap.size w w' := by
  refine (fvalue (h.below hb) hq hs).mono ?_
  rintro e w' ⟨v, rfl, ho, hb'⟩
  obtain ⟨_, p, c, rfl, _, hby, _⟩ := Cd.owns_bytes ho
  exact ⟨p, _, c, rfl, fun W hW => Cd.run_str W p (lastC HC) c (Cd.below_bytes hW hby), hb'⟩

end Go.Proofs.Yteimjkicinjcgaa.Ck.Y.L

/-
  An operation, and bytes, that came in, read cell by cell.
-/
namespace Go.Proofs.Yteimjkicinjcgaa.Cd
open Go.ChangeShapes Go.WideShapes Go.ChangeAt Go.RowKit Go.Deep

theorem cellsU8 : Try.prog.cellsOf 5 = 1 := by kernel_rfl
theorem cellsI64 : Try.prog.cellsOf 2 = 1 := by kernel_rfl
theorem cellsInt : Try.prog.cellsOf 3 = 1 := by kernel_rfl
theorem cellsStr : Try.prog.cellsOf 9 = 1 := by kernel_rfl
theorem cellsId : Try.prog.cellsOf 30 = 2 := by kernel_rfl
theorem cellsBs : Try.prog.cellsOf 31 = 1 := by kernel_rfl
theorem cellsVec : Try.prog.cellsOf 33 = 1 := by kernel_rfl
theorem cellsOp : Try.prog.cellsOf 35 = 11 := by kernel_rfl

def byteOf (z : Int) : BitVec 8 := BitVec.ofNat 8 z.toNat
theorem byteOf_val {z : Int} (h : (Lit.int .u8 z).wf = true) : u8v (byteOf z) = .int .u8 z := by
  simp [Lit.wf] at h
  have h1 : (0 : Int) ≤ z := h.1
  have h2 : z ≤ 255 := h.2
  unfold u8v byteOf
  rw [BitVec.toNat_ofNat, Nat.mod_eq_of_lt (by omega)]
  congr 1
  omega
theorem row_of_cells {W : World} {k : IntKind} {a : Addr} {len cap : Nat} {zs : List Int} (hl : len ≤ cap) (hz : zs.length = cap)
    (hc : ∀ i, i < cap → W.cell? (a.add i) = some (.int k (zs.getD i 0))) (hp : 0 < len) : ∃ b o, a = ⟨b, o, none⟩ ∧ ∀ (j : Nat) (x : Int), (zs.take len)[j]? = some x → W.cell? ⟨b, o + j, none⟩ = some (.int k x) := by
  obtain ⟨b, off, spot⟩ := a
  have h0 := hc 0 (by omega)
  have hspot : spot = none := by simpa [Addr.add] using World.cell?_spot h0
  subst hspot
  refine ⟨b, off, rfl, fun j x hj => ?_⟩
  rw [List.getElem?_take] at hj
  split at hj
  · have hcell := hc j (by omega)
    rw [Addr.add_lit, List.getD, hj, Option.getD_some] at hcell
    exact hcell
  · cases hj

/-- A slice of bytes, by its value. -/
theorem bytes_in {H : Type} {enc : TypeId × Value → H} {W : World} {fuel : Nat} {cs : List Value} {r : DataW H × List MemPlace} (h : DataW.trod enc Try.prog W 0 (fun _ => true) true fuel 31 cs = some r) :
    ∃ a cap, ∃ bs : List (BitVec 8), cs = [.slice a bs.length cap] ∧ bs.length ≤ cap ∧ bs.length ≤ maxLen ∧ Bytes W a bs := by
  rcases open_ints Try.underlying31 Try.underlying5 cellsU8 h with ⟨hcs, _⟩ | ⟨x, len, cap, zs, hcs, _, hl, hm, hz, _, hcell, hw⟩
  · exact ⟨none, 0, [], hcs, Nat.le_refl _, Nat.zero_le _, bytes_nil _ _⟩
  · have hz' : zs.length = cap := by simpa using hz
    have hlen : ((zs.take len).map byteOf).length = len := by simp; omega
    refine ⟨some x, cap, (zs.take len).map byteOf, by rw [hlen]; exact hcs, by rw [hlen]; exact hl, by rw [hlen]; omega, fun hp => ?_⟩
    rw [hlen] at hp
    obtain ⟨b, o, rfl, hx⟩ := row_of_cells hl hz' (fun i hi => hcell i (by omega)) hp
    refine ⟨b, o, rfl, fun j y hj => ?_⟩
    rw [List.getElem?_map] at hj
    obtain ⟨z, hzj, rfl⟩ := Option.map_eq_some_iff.1 hj
    rw [hx j z hzj, byteOf_val (hw z (List.mem_of_mem_take (List.mem_of_getElem? hzj)))]
/-- A slice of numbers, by its value. -/
theorem ints_in {H : Type} {enc : TypeId × Value → H} {W : World} {fuel : Nat} {cs : List Value} {r : DataW H × List MemPlace} (h : DataW.trod enc Try.prog W 0 (fun _ => true) true fuel 33 cs = some r) :
    ∃ a cap, ∃ ns : List Int, cs = [.slice a ns.length cap] ∧ ns.length ≤ cap ∧ ns.length ≤ maxLen ∧ Lies W a (ns.map iv) := by
  rcases open_ints Try.underlying33 Try.underlying2 cellsI64 h with ⟨hcs, _⟩ | ⟨x, len, cap, zs, hcs, _, hl, hm, hz, _, hcell, hw⟩
  · exact ⟨none, 0, [], hcs, Nat.le_refl _, Nat.zero_le _, lies_nil _ _⟩
  · have hz' : zs.length = cap := by simpa using hz
    have hlen : (zs.take len).length = len := by simp; omega
    refine ⟨some x, cap, zs.take len, by rw [hlen]; exact hcs, by rw [hlen]; exact hl, by rw [hlen]; omega, fun hp => ?_⟩
    rw [List.length_map, hlen] at hp
    obtain ⟨b, o, rfl, hx⟩ := row_of_cells hl hz' (fun i hi => hcell i (by omega)) hp
    refine ⟨b, o, rfl, fun j y hj => ?_⟩
    rw [List.getElem?_map] at hj
    obtain ⟨z, hzj, rfl⟩ := Option.map_eq_some_iff.1 hj
    exact hx j z hzj

theorem list2 {α : Type} {l : List α} (h : l.length = 2) : ∃ a b, l = [a, b] := by
  match l, h with
  | [a, b], _ => exact ⟨a, b, rfl⟩
theorem list8 {α : Type} {l : List α} (h : l.length = 8) : ∃ a b c d e f g i, l = [a, b, c, d, e, f, g, i] := by
  match l, h with
  | [a, b, c, d, e, f, g, i], _ => exact ⟨a, b, c, d, e, f, g, i, rfl⟩
theorem list11 {α : Type} {l : List α} (h : l.length = 11) : ∃ a b c d e f g i j k m, l = [a, b, c, d, e, f, g, i, j, k, m] := by
  match l, h with
  | [a, b, c, d, e, f, g, i, j, k, m], _ => exact ⟨a, b, c, d, e, f, g, i, j, k, m, rfl⟩

/-- The cells of a stamp. -/
theorem id_cells {H : Type} {enc : TypeId × Value → H} {W : World} {fuel : Nat} {cs : List Value} {x : DataW H × List MemPlace} (h : DataW.trod enc Try.prog W 0 (fun _ => true) true fuel 30 cs = some x) :
    ∃ t n : Int, cs = [.int .i64 t, .int .i64 n] := by
  obtain ⟨zs, n', _, _, hl, hlen, hf⟩ := DataW.trod_struct Try.underlying30 h
  rw [cellsId] at hl
  obtain ⟨v0, v1, rfl⟩ := list2 hl
  obtain ⟨z0, z1, rfl⟩ := list2 (show zs.length = 2 from hlen)
  have g0 := hf 0 _ rfl
  have g1 := hf 1 _ rfl
  simp [cellsInt, cellsI64] at g0 g1
  obtain ⟨tt, e3, _, _⟩ := DataW.trod_int Try.underlying2 g0
  obtain ⟨dd, e4, _, _⟩ := DataW.trod_int Try.underlying3 g1
  simp at e3 e4
  subst e3 e4
  exact ⟨tt, dd, rfl⟩

end Go.Proofs.Yteimjkicinjcgaa.Cd

/-
  The law's operations, as they come in.
-/
namespace Go.Proofs.Yteimjkicinjcgaa.Ck.Y.L
open Go.ChangeShapes Go.WideShapes Go.ChangeAt Go.RowKit Go.Deep

theorem elems_in {H : Type} {enc : TypeId × Value → H} {W : World} {fuel : Nat} {a : Option Addr} {len cap : Nat} {y : DataW H × List MemPlace} {t e : TypeId} {S : Nat} (hu : Try.prog.underlying t = some (.slice e)) (hS : Try.prog.cellsOf e = S) (h0 : 0 < S)
    {α : Type} (dflt : α) (R : Nat → Nat → α → Prop) (h : DataW.trod enc Try.prog W 0 (fun _ => true) true fuel t [.slice a len cap] = some y)
    (hel : ∀ (b o : Nat) (cs : List Value) (n : Nat) (x : DataW H × List MemPlace), W.cells? 0 ⟨b, o, none⟩ S = some cs → DataW.trod enc Try.prog W 0 (fun _ => true) true n e cs = some x → ∃ i, R b o i) :
    ∃ l : List α, l.length = len ∧ (0 < len → ∃ g o, a = some ⟨g, o, none⟩ ∧ ∀ (j : Nat) (x : α), l[j]? = some x → R g (o + j * S) x) := by
  rcases open_slice hu h with ⟨hcs, _⟩ | ⟨⟨b, off, spot⟩, len', cap', m, n, D, Pl, hcs, _, hl, hmax, hm, hx, hel'⟩
  · simp at hcs
    obtain ⟨rfl, rfl, rfl⟩ := hcs
    exact ⟨[], rfl, fun h => absurd h (by simp)⟩
  · simp at hcs
    obtain ⟨rfl, rfl, rfl⟩ := hcs
    simp only [if_true] at hm
    subst hm
    rw [hS] at hel'
    by_cases hp : 0 < len
    · have hspot : spot = none := by
        obtain ⟨cs, hc, _⟩ := hel' 0 (by omega)
        obtain ⟨_, _, hcell⟩ := World.cells?_some hc
        have h0' := hcell 0 (by omega)
        have hl6 := (World.cells?_some hc).2.1
        rw [List.getElem?_eq_getElem (by omega)] at h0'
        simpa [Addr.add] using World.cell?_spot h0'
      subst hspot
      have hex : ∀ k, ∃ i : α, k < len → R b (off + k * S) i := by
        intro k
        by_cases hk : k < len
        · obtain ⟨cs, hc, ht⟩ := hel' k (by omega)
          rw [Addr.add_lit] at hc
          obtain ⟨i, h2⟩ := hel b (off + k * S) cs n _ hc ht
          exact ⟨i, fun _ => h2⟩
        · exact ⟨dflt, fun h => absurd h hk⟩
      obtain ⟨f, hf⟩ : ∃ f : Nat → α, ∀ k, k < len → R b (off + k * S) (f k) := ⟨fun k => (hex k).choose, fun k => (hex k).choose_spec⟩
      have hlen : ((List.range len).map f).length = len := by simp
      refine ⟨(List.range len).map f, hlen, fun _ => ⟨b, off, rfl, fun j x hj => ?_⟩⟩
      have hlt := (List.getElem?_eq_some_iff.1 hj).1
      rw [hlen] at hlt
      rw [List.getElem?_map, List.getElem?_range hlt] at hj
      cases hj
      exact hf j hlt
    · have h0' : len = 0 := by omega
      subst h0'
      exact ⟨[], rfl, fun h => absurd h (by simp)⟩


set_option maxRecDepth 8000 in
set_option maxHeartbeats 1000000 in
/-- An operation's cells. -/
theorem opcells_in {H : Type} {enc : TypeId × Value → H} {W : World} {fuel : Nat} {cs : List Value} {x : DataW H × List MemPlace} (h : DataW.trod enc Try.prog W 0 (fun _ => true) true fuel 35 cs = some x) :
    ∃ o : OG, cs = opG o ∧ ∃ ns bs, RawIn W o ns bs := by
  obtain ⟨zs, n', _, _, hl, hlen, hf⟩ := DataW.trod_struct Try.underlying35 h
  rw [Cd.cellsOp] at hl
  obtain ⟨v0, v1, v2, v3, v4, v5, v6, v7, v8, v9, v10, rfl⟩ := Cd.list11 hl
  obtain ⟨z0, z1, z2, z3, z4, z5, z6, z7, rfl⟩ := Cd.list8 (show zs.length = 8 from hlen)
  have g0 := hf 0 _ rfl
  have g1 := hf 1 _ rfl
  have g2 := hf 2 _ rfl
  have g3 := hf 3 _ rfl
  have g4 := hf 4 _ rfl
  have g5 := hf 5 _ rfl
  have g6 := hf 6 _ rfl
  have g7 := hf 7 _ rfl
  simp [Cd.cellsInt, Cd.cellsI64, Cd.cellsId, Cd.cellsStr, Cd.cellsBs, Cd.cellsVec] at g0 g1 g2 g3 g4 g5 g6 g7
  obtain ⟨t, n, e0⟩ := Cd.id_cells g0
  obtain ⟨sq, e1, _, _⟩ := DataW.trod_int Try.underlying2 g1
  obtain ⟨kd, e2, _, _⟩ := DataW.trod_int Try.underlying3 g2
  obtain ⟨ot, on, e3⟩ := Cd.id_cells g3
  obtain ⟨pt, pn, e4⟩ := Cd.id_cells g4
  obtain ⟨s, e5, _, _⟩ := DataW.trod_string Try.underlying9 g5
  obtain ⟨p, c, data, e6, k1, _, k2⟩ := Cd.bytes_in g6
  obtain ⟨q, d, ns, e7, k3, k4, k5⟩ := Cd.ints_in g7
  simp at e0 e1 e2 e3 e4 e5 e6 e7
  refine ⟨⟨t, n, sq, kd, ot, on, pt, pn, s, p, data.length, c, q, ns.length, d⟩, ?_, ns, data, ⟨k5, rfl, k3, k4, k2, rfl, k1⟩⟩
  show _ = [_, _, _, _, _, _, _, _, _, _, _]
  rw [e0.1, e0.2, e1, e2, e3.1, e3.2, e4.1, e4.2, e5, e6, e7]
/-- A row of operations. -/
theorem ops_in {H : Type} {enc : TypeId × Value → H} {W : World} {fuel : Nat} {a : Option Addr} {len cap : Nat} {y : DataW H × List MemPlace} (h : DataW.trod enc Try.prog W 0 (fun _ => true) true fuel 22 [.slice a len cap] = some y) :
    ∃ L : List OG, L.length = len ∧ OpsL W a L ∧ L.length ≤ maxLen := by
  have hmax : len ≤ maxLen := by
    rcases open_slice Try.underlying22 h with ⟨hcs, _⟩ | ⟨_, len', cap', _, _, _, _, hcs, _, hl, hmax, _⟩
    · simp at hcs; rw [hcs.2.1]; exact Nat.zero_le _
    · simp at hcs
      rw [hcs.2.1]
      omega
  obtain ⟨l, hl, hr⟩ := elems_in Try.underlying22 Cd.cellsOp (by decide) (⟨0, 0, 0, 0, 0, 0, 0, 0, ⟨#[]⟩, none, 0, 0, none, 0, 0⟩ : OG) (fun b o x => (∀ k : Nat, k < 11 → W.cell? ⟨b, o + k, none⟩ = (opG x)[k]?) ∧ ∃ ns bs, RawIn W x ns bs) h (fun b o cs n x hc ht => by
    obtain ⟨z, rfl, hz⟩ := opcells_in ht
    obtain ⟨_, _, hcell⟩ := World.cells?_some hc
    exact ⟨z, fun k hk => by have := hcell k hk; rwa [Addr.add_lit] at this, hz⟩)
  refine ⟨l, hl, fun h0 => ?_, by omega⟩
  obtain ⟨g, o, e, hc⟩ := hr (by omega)
  refine ⟨g, o, e, fun j x hj => ?_⟩
  obtain ⟨h1, h2⟩ := hc j x hj
  exact ⟨⟨h1 0 (by omega), h1 1 (by omega), h1 2 (by omega), h1 3 (by omega), h1 4 (by omega), h1 5 (by omega), h1 6 (by omega), h1 7 (by omega), h1 8 (by omega), h1 9 (by omega), h1 10 (by omega)⟩, h2⟩

end Go.Proofs.Yteimjkicinjcgaa.Ck.Y.L

/-
  ContentMerge: what its loop keeps.
-/
namespace Go.Proofs.Yteimjkicinjcgaa.Ck.Y.L
open Go.RowKit Go.Maps Go.Lib

/-- A file and the law's operations. -/
structure One (u wr : World) (base fb : Nat) (v : Value) (l : List OG) (F : Nat → Prop) (S : List VC) : Prop where
  f : FileS F wr fb S
  fu : ∀ b, F b → u.heap.size ≤ b
  row : RowG wr base v l
  below : Below u.heap.size u wr
section
variable {u wr : World} {base fb : Nat} {v : Value} {l : List OG} {F : Nat → Prop} {S : List VC}
theorem One.later (h : One u wr base fb v l F S) {w : World} (hb : Below wr.heap.size wr w) : One u w base fb v l F S := ⟨h.f.below hb, h.fu, h.row.below hb, below_thenH h.below hb⟩
theorem One.turn (h : One u wr base fb v l F S) {w : World} {F' : Nat → Prop} {S' : List VC} (h1 : FileS F' w fb S') (h2 : ∀ b, F' b → F b ∨ wr.heap.size ≤ b) (h3 : Only F wr w) : One u w base fb v l F' S' := by
  refine ⟨h1, fun b hb => ?_, h.row.kept h3 fun g hg => ?_, h.below.trans (h3.below h.below.size h.fu)⟩
  · rcases h2 b hb with e | e
    · exact h.fu b e
    · have := h.below.size; omega
  · obtain ⟨cs, hcs, _⟩ := h.row.tag hg
    exact h.f.notF hcs (by decide) (by decide)
end
section
variable {u wr : World} {base fb : Nat} {v : Value} {nsf : OG → List Int} {bsf : OG → List (BitVec 8)} {l : List OG} {S T : List VC} {ns : List Int} {sp : Option Addr} {i : Nat}
end

end Go.Proofs.Yteimjkicinjcgaa.Ck.Y.L

/-
  Operations by their keys: one list alone is in order (any fields).
-/
namespace Go.Proofs.Yteimjkicinjcgaa.Ck.Y
open Go.RowKit Go.Maps

/-- An operation and its turn. -/
structure GE where
  o : OG
  came : Nat
def GE.q (e : GE) : QE := ⟨e.o.t, e.o.n, 0, e.came⟩
def GE.ok (e : GE) : Prop := e.q.ok
def keyG (e : GE) : Nat := keyE false e.q
theorem keyG_lt {a b : GE} (ha : a.ok) (hb : b.ok) : keyG a < keyG b ↔ lessB a.o.t a.o.n b.o.t b.o.n = true ∨ (lessB b.o.t b.o.n a.o.t a.o.n = false ∧ a.came < b.came) := by
  unfold keyG
  rw [keyE_lt ha hb]
  simp [LB, GE.q]
def stripG (e : GE) : OG := e.o
def enumG (b : Nat) : List OG → List GE
  | [] => []
  | x :: l => ⟨x, b⟩ :: enumG (b + 1) l
theorem strip_enumG : ∀ (l : List OG) (b : Nat), (enumG b l).map stripG = l
  | [], _ => rfl
  | x :: l, b => by rw [enumG, List.map_cons, strip_enumG l]; rfl
theorem enumG_length : ∀ (l : List OG) (b : Nat), (enumG b l).length = l.length
  | [], _ => rfl
  | x :: l, b => by rw [enumG, List.length_cons, enumG_length l, List.length_cons]
theorem enumG_snoc : ∀ (l : List OG) (b : Nat) (x : OG), enumG b (l ++ [x]) = enumG b l ++ [⟨x, b + l.length⟩]
  | [], _, _ => rfl
  | y :: l, b, x => by rw [List.cons_append, enumG, enumG_snoc l, enumG, List.cons_append, List.length_cons, show b + 1 + l.length = b + (l.length + 1) by omega]
theorem enumG_came : ∀ (l : List OG) (b : Nat), ∀ e ∈ enumG b l, b ≤ e.came ∧ e.came < b + l.length
  | [], _, e, h => by simp [enumG] at h
  | x :: l, b, e, h => by
    rw [enumG, List.mem_cons] at h
    rcases h with rfl | h
    · simp
    · have := enumG_came l (b + 1) e h
      simp only [List.length_cons]
      omega
def RngG (l : List OG) : Prop := ∀ x ∈ l, Rng x.t x.n
theorem enumG_ok {l : List OG} (h : RngG l) (hl : l.length < 1000000) : ∀ e ∈ enumG 0 l, e.ok := by
  have key : ∀ (l : List OG) (b : Nat), RngG l → ∀ e ∈ enumG b l, Rng e.o.t e.o.n := by
    intro l
    induction l with
    | nil => intro b _ e he; simp [enumG] at he
    | cons x l ih =>
      intro b hr e he
      rw [enumG, List.mem_cons] at he
      rcases he with rfl | he
      · exact hr x (by simp)
      · exact ih (b + 1) (fun y hy => hr y (by simp [hy])) e he
  intro e he
  have := enumG_came l 0 e he
  exact ⟨key l 0 h e he, by show e.came < 1000000; omega⟩

def RiseG {α : Type} (key : α → Nat) (l : List α) : Prop := l.Pairwise fun a b => key a < key b
theorem riseG_ins {α : Type} {key : α → Nat} {l : List α} {x : α} {j : Nat} (h : RiseG key l) (h1 : ∀ a ∈ l.take j, key a < key x) (h2 : ∀ a ∈ l.drop j, key x < key a) : RiseG key (l.take j ++ x :: l.drop j) := by
  unfold RiseG at *
  have h' := h
  rw [← List.take_append_drop j l, List.pairwise_append] at h'
  rw [List.pairwise_append]
  refine ⟨h'.1, List.pairwise_cons.2 ⟨h2, h'.2.1⟩, fun a ha b hb => ?_⟩
  rcases List.mem_cons.1 hb with rfl | hb
  · exact h1 a ha
  · exact h'.2.2 a ha b hb
/-- The operations in the order of their stamps, equal ones as they stood. -/
def IsSortedG (l m : List OG) : Prop := ∃ P, m = P.map stripG ∧ P.Perm (enumG 0 l) ∧ RiseG keyG P
theorem isSortedG_length {l m : List OG} (h : IsSortedG l m) : m.length = l.length := by
  obtain ⟨P, rfl, h1, _⟩ := h
  rw [List.length_map, h1.length_eq, enumG_length]
theorem isSortedG_perm {l m : List OG} (h : IsSortedG l m) : m.Perm l := by
  obtain ⟨P, rfl, h1, _⟩ := h
  have := h1.map stripG
  rwa [strip_enumG] at this
end Go.Proofs.Yteimjkicinjcgaa.Ck.Y

namespace Go.Proofs.Yteimjkicinjcgaa.Ck.Y
open Go.RowKit Go.Maps

def insT (T : List GE) (k : Nat) (x : GE) : List GE := T.take k ++ x :: T.drop k
/-- What the document's outer loop keeps. -/
structure DocI (w wr : World) (l : List OG) (i : Nat) (v : Value) (T : List GE) : Prop where
  row : RowG wr w.heap.size v (T.map stripG)
  perm : T.Perm (enumG 0 (l.take i))
  rise : RiseG keyG T
  bel : Below w.heap.size w wr
theorem DocI.len {w wr : World} {l : List OG} {i : Nat} {v : Value} {T : List GE} (h : DocI w wr l i v T) (hi : i ≤ l.length) : T.length = i := by
  rw [h.perm.length_eq, enumG_length, List.length_take]; omega

/-- What the document's inner loop keeps. -/
structure DocK (w wr : World) (T : List GE) (xe : GE) (k i g c : Nat) : Prop where
  row : RowG wr w.heap.size (.slice (some ⟨g, 0, none⟩) (i + 1) c) ((insT T k xe).map stripG)
  less : ∀ a ∈ T.drop k, lessB xe.o.t xe.o.n a.o.t a.o.n = true
  bel : Below w.heap.size w wr
theorem grown_below {w0 w w' : World} {v : Value} {l : List OG} {B : Nat} (hb : Below B w0 w) (hB : B ≤ w.heap.size) (hr : RowG w B v l) (hg : w.grownBy w' v.ownBlock) : Below B w0 w' :=
  ⟨hg.os.trans hb.os, hg.tape.trans hb.tape, hg.output.trans hb.output, Nat.le_trans hb.size hg.size, fun k hk => (hg.block k (by omega) (fun e => by
    obtain ⟨_, _, h⟩ := hr.tag e.symm
    omega)).trans (hb.block k hk)⟩

theorem insT_perm (T : List GE) (k : Nat) (x : GE) : (insT T k x).Perm (T ++ [x]) := by
  unfold insT
  have h1 : (T.take k ++ x :: T.drop k).Perm (x :: (T.take k ++ T.drop k)) := List.perm_middle
  rw [List.take_append_drop] at h1
  exact h1.trans (List.perm_append_comm (l₁ := [x]) (l₂ := T))
theorem DocK.done {w wr : World} {T : List GE} {xe : GE} {k i g c : Nat} {l : List OG} {x : OG} (h : DocK w wr T xe k i g c) (hp : T.Perm (enumG 0 (l.take i))) (hrise : RiseG keyG T) (hxe : xe = ⟨x, i⟩) (hx : l[i]? = some x) (hr : RngG l) (hl : l.length ≤ 1000)
    (hs : k = 0 ∨ ∃ b, T[k - 1]? = some b ∧ lessB xe.o.t xe.o.n b.o.t b.o.n = false) : DocI w wr l (i + 1) (.slice (some ⟨g, 0, none⟩) (i + 1) c) (insT T k xe) := by
  have hil := (List.getElem?_eq_some_iff.1 hx).1
  have hrt : RngG (l.take i) := fun y hy => hr y (List.mem_of_mem_take hy)
  have ok : ∀ a ∈ T, a.ok ∧ a.came < i := fun a ha => by
    have hm := hp.mem_iff.1 ha
    refine ⟨enumG_ok hrt (by rw [List.length_take]; omega) a hm, ?_⟩
    have := (enumG_came _ 0 a hm).2
    rw [List.length_take] at this
    omega
  have okx : xe.ok := by rw [hxe]; exact ⟨hr x (List.mem_of_getElem? hx), by show i < 1000000; omega⟩
  have hcx : xe.came = i := by rw [hxe]
  refine ⟨h.row, ?_, riseG_ins hrise (fun a ha => ?_) (fun a ha => ?_), h.bel⟩
  · refine (insT_perm T k xe).trans ?_
    have e : l.take (i + 1) = l.take i ++ [x] := by rw [List.take_add_one, hx]; rfl
    rw [e, enumG_snoc, hxe, List.length_take, show 0 + min i l.length = i by omega]
    exact hp.append_right _
  · rcases hs with h0 | ⟨b, hb, hlb⟩
    · subst h0; simp at ha
    · have hbm := List.mem_of_getElem? hb
      have k1 : keyG b < keyG xe := by
        rw [keyG_lt (ok b hbm).1 okx]
        refine .inr ⟨hlb, ?_⟩
        have := (ok b hbm).2
        omega
      obtain ⟨j, hj, e⟩ := List.getElem_of_mem ha
      rw [List.length_take] at hj
      rw [List.getElem_take] at e
      have hbl := List.getElem?_eq_some_iff.1 hb
      obtain ⟨hkl, hbe⟩ := hbl
      by_cases hjk : j = k - 1
      · subst hjk
        rw [← e, hbe]
        exact k1
      · have := (List.pairwise_iff_getElem.1 hrise) j (k - 1) (by omega) hkl (by omega)
        rw [e, hbe] at this
        omega
  · rw [keyG_lt okx (ok a (List.mem_of_mem_drop ha)).1]
    exact .inl (h.less a ha)
theorem DocK.below {w wr W : World} {T : List GE} {xe : GE} {k i g c : Nat} (h : DocK w wr T xe k i g c) (hb : Below wr.heap.size wr W) : DocK w W T xe k i g c := ⟨h.row.below hb, h.less, h.bel.trans (hb.mono h.bel.size)⟩

theorem insT_swap {T : List GE} {xe b : GE} {kk : Nat} (hb : T[kk]? = some b) : ((((insT T (kk + 1) xe).map stripG).set kk (stripG xe)).set (kk + 1) (stripG b)) = (insT T kk xe).map stripG := by
  have hk := (List.getElem?_eq_some_iff.1 hb).1
  have e0 : T.drop kk = b :: T.drop (kk + 1) := by
    rw [List.drop_eq_getElem_cons hk]
    have := (List.getElem?_eq_some_iff.1 hb).2
    rw [this]
  have e1 : T.take (kk + 1) = T.take kk ++ [b] := by rw [List.take_add_one, hb]; rfl
  have hl : (T.take kk).length = kk := by rw [List.length_take]; omega
  rw [← List.map_set, ← List.map_set]
  congr 1
  unfold insT
  rw [e0, e1, List.append_assoc]
  rw [List.set_append_right kk _ (by omega), hl, Nat.sub_self]
  rw [List.set_append_right (kk + 1) _ (by omega), hl, show kk + 1 - kk = 1 by omega]
  rfl
theorem DocK.swap {w W W2 W3 W4 : World} {T : List GE} {xe b : GE} {kk i g c : Nat} (h : DocK w W T xe (kk + 1) i g c) (hb : T[kk]? = some b) (hle : lessB xe.o.t xe.o.n b.o.t b.o.n = true) (hB2 : Below W.heap.size W W2) (ho3 : Only (· = g) W2 W3) (ho4 : Only (· = g) W3 W4)
    (hrow : RowG W4 w.heap.size (.slice (some ⟨g, 0, none⟩) (i + 1) c) ((((insT T (kk + 1) xe).map stripG).set kk (stripG xe)).set (kk + 1) (stripG b))) : DocK w W4 T xe kk i g c := by
  have hk := (List.getElem?_eq_some_iff.1 hb).1
  have hgb : w.heap.size ≤ g := by obtain ⟨_, _, _, hb, _⟩ := h.row.cur; exact hb
  rw [insT_swap hb] at hrow
  refine ⟨hrow, fun a ha => ?_, ?_⟩
  · rw [List.drop_eq_getElem_cons hk, (List.getElem?_eq_some_iff.1 hb).2, List.mem_cons] at ha
    rcases ha with rfl | ha
    · exact hle
    · exact h.less a ha
  · have h1 := h.bel.trans (hB2.mono h.bel.size)
    exact ⟨ho4.os.trans (ho3.os.trans h1.os), ho4.tape.trans (ho3.tape.trans h1.tape), ho4.output.trans (ho3.output.trans h1.output), Nat.le_trans h1.size (Nat.le_trans ho3.size ho4.size), fun k hk => by
      have s1 := h1.size
      have s2 := ho3.size
      rw [ho4.block k (by omega) (by omega), ho3.block k (by omega) (by omega)]
      exact h1.block k hk⟩

set_option maxRecDepth 8000 in
set_option maxHeartbeats 4000000 in
theorem rs_reg7_no {Q : Exit → Act → World → Prop} {base : Array Value} {dd : List Deferred} {ops : Array Oper} (hops : Try.f12.body.bind (regs 7) = some ops)  (w9 : World) (hsz : base.size = 61)
    (b5 : base.getD 5 undef = .int .i64 0)
    (hQ : ∀ W, Below w9.heap.size w9 W → Q .normal ⟨putAll base [(some 24, .int .i64 0), (some 25, .bool false), (some 26, .bool false), (some 27, undef), (some 28, undef), (some 29, undef), (some 30, undef), (some 31, undef), (some 32, undef), (some 33, undef), (some 34, undef), (some 35, undef), (some 36, undef), (some 37, undef), (some 38, undef), (some 39, .bool false)], dd⟩ W) :
    (Code.region 7 ops true).wp Try.prog Q ⟨base, dd⟩ w9 := by
  have hmix : Try.prog.follows .mixedOrders = true := by kernel_rfl
  have h2 := (show Try.f12.body.bind (regs 7) = some _ from rfl).symm.trans hops
  obtain rfl := Option.some.inj h2
  clear h2 hops
  have below9 : Below w9.heap.size w9 w9.drew := (Below.refl _ _).drew
  obtain ⟨LL, hLe⟩ : ∃ LL : List (Option Tmp × Value), LL = [(some 24, .int .i64 0), (some 25, .bool false), (some 26, .bool false), (some 27, undef), (some 28, undef), (some 29, undef), (some 30, undef), (some 31, undef), (some 32, undef), (some 33, undef), (some 34, undef), (some 35, undef), (some 36, undef), (some 37, undef), (some 38, undef), (some 39, .bool false)] := ⟨_, rfl⟩
  have vv0 : vals LL 0 = .int .i64 0 := by rw [hLe]; rfl
  have vv1 : vals LL 1 = .bool false := by rw [hLe]; rfl
  have vv2 : vals LL 2 = .bool false := by rw [hLe]; rfl
  have vv3 : vals LL 3 = undef := by rw [hLe]; rfl
  have vv4 : vals LL 4 = undef := by rw [hLe]; rfl
  have vv5 : vals LL 5 = undef := by rw [hLe]; rfl
  have vv6 : vals LL 6 = undef := by rw [hLe]; rfl
  have vv7 : vals LL 7 = undef := by rw [hLe]; rfl
  have vv8 : vals LL 8 = undef := by rw [hLe]; rfl
  have vv9 : vals LL 9 = undef := by rw [hLe]; rfl
  have vv10 : vals LL 10 = undef := by rw [hLe]; rfl
  have vv11 : vals LL 11 = undef := by rw [hLe]; rfl
  have vv12 : vals LL 12 = undef := by rw [hLe]; rfl
  have vv13 : vals LL 13 = undef := by rw [hLe]; rfl
  have vv14 : vals LL 14 = undef := by rw [hLe]; rfl
  have vv15 : vals LL 15 = .bool false := by rw [hLe]; rfl
  refine region_laid hmix (by kernel_rfl) 61 hsz (by kernel_rfl) LL (by rw [hLe]; rfl) (fun _ W => Below w9.heap.size w9 W) below9 ?_ ?_
  · intro b W i o a hS hcl ho hb hd ev kp yl
    match i with
    | 0 =>
      simp only [List.getElem?_toArray, List.getElem?_cons_zero, Option.some.injEq] at ho
      subst ho
      have e5 : a.tmps[5]?.getD undef = .int .i64 0 := (kp 5 (by kernel_rfl)).trans b5
      rw [vv0]
      refine does_value rfl (by intro c h; cases h) (w' := W) ?_ (hS)
      · simp [execOp, go_sem, e5]
    | 1 =>
      simp only [List.getElem?_toArray, List.getElem?_cons_zero, List.getElem?_cons_succ, Option.some.injEq] at ho
      subst ho
      have p0 : b 0 = true := hd ⟨0, .data⟩ (by simp) rfl
      have e24 := (ev 0 24 rfl p0).trans vv0
      rw [vv1]
      refine does_value rfl (by intro c h; cases h) (w' := W) ?_ (hS)
      · simp [execOp, go_sem, e24]
    | 2 =>
      simp only [List.getElem?_toArray, List.getElem?_cons_zero, List.getElem?_cons_succ, Option.some.injEq] at ho
      subst ho
      have p1 : b 1 = true := hd ⟨1, .data⟩ (by simp) rfl
      have e25 := (ev 1 25 rfl p1).trans vv1
      rw [vv2]
      refine does_value rfl (by intro c h; cases h) (w' := W) ?_ (hS)
      · simp [execOp, go_sem, e25]
    | 3 =>
      simp only [List.getElem?_toArray, List.getElem?_cons_zero, List.getElem?_cons_succ, Option.some.injEq] at ho
      subst ho
      have p2 : b 2 = true := hd ⟨2, .guard⟩ (by simp) rfl
      exact does_pass rfl (yl 2 26 false rfl p2 vv2) (by decide) vv3 (hS)
    | 4 =>
      simp only [List.getElem?_toArray, List.getElem?_cons_zero, List.getElem?_cons_succ, Option.some.injEq] at ho
      subst ho
      have p2 : b 2 = true := hd ⟨2, .guard⟩ (by simp) rfl
      exact does_pass rfl (yl 2 26 false rfl p2 vv2) (by decide) vv4 (hS)
    | 5 =>
      simp only [List.getElem?_toArray, List.getElem?_cons_zero, List.getElem?_cons_succ, Option.some.injEq] at ho
      subst ho
      have p3 : b 3 = true := hd ⟨3, .data⟩ (by simp) rfl
      have p4 : b 4 = true := hd ⟨4, .data⟩ (by simp) rfl
      have p2 : b 2 = true := hd ⟨2, .guard⟩ (by simp) rfl
      exact does_pass rfl (yl 2 26 false rfl p2 vv2) (by decide) vv5 (hS)
    | 6 =>
      simp only [List.getElem?_toArray, List.getElem?_cons_zero, List.getElem?_cons_succ, Option.some.injEq] at ho
      subst ho
      have p5 : b 5 = true := hd ⟨5, .data⟩ (by simp) rfl
      have p2 : b 2 = true := hd ⟨2, .guard⟩ (by simp) rfl
      exact does_pass rfl (yl 2 26 false rfl p2 vv2) (by decide) vv6 (hS)
    | 7 =>
      simp only [List.getElem?_toArray, List.getElem?_cons_zero, List.getElem?_cons_succ, Option.some.injEq] at ho
      subst ho
      have p6 : b 6 = true := hd ⟨6, .data⟩ (by simp) rfl
      have p2 : b 2 = true := hd ⟨2, .guard⟩ (by simp) rfl
      exact does_pass rfl (yl 2 26 false rfl p2 vv2) (by decide) vv7 (hS)
    | 8 =>
      simp only [List.getElem?_toArray, List.getElem?_cons_zero, List.getElem?_cons_succ, Option.some.injEq] at ho
      subst ho
      have p2 : b 2 = true := hd ⟨2, .guard⟩ (by simp) rfl
      exact does_pass rfl (yl 2 26 false rfl p2 vv2) (by decide) vv8 (hS)
    | 9 =>
      simp only [List.getElem?_toArray, List.getElem?_cons_zero, List.getElem?_cons_succ, Option.some.injEq] at ho
      subst ho
      have p2 : b 2 = true := hd ⟨2, .guard⟩ (by simp) rfl
      exact does_pass rfl (yl 2 26 false rfl p2 vv2) (by decide) vv9 (hS)
    | 10 =>
      simp only [List.getElem?_toArray, List.getElem?_cons_zero, List.getElem?_cons_succ, Option.some.injEq] at ho
      subst ho
      have p9 : b 9 = true := hd ⟨9, .data⟩ (by simp) rfl
      have p2 : b 2 = true := hd ⟨2, .guard⟩ (by simp) rfl
      exact does_pass rfl (yl 2 26 false rfl p2 vv2) (by decide) vv10 (hS)
    | 11 =>
      simp only [List.getElem?_toArray, List.getElem?_cons_zero, List.getElem?_cons_succ, Option.some.injEq] at ho
      subst ho
      have p8 : b 8 = true := hd ⟨8, .data⟩ (by simp) rfl
      have p10 : b 10 = true := hd ⟨10, .data⟩ (by simp) rfl
      have p2 : b 2 = true := hd ⟨2, .guard⟩ (by simp) rfl
      exact does_pass rfl (yl 2 26 false rfl p2 vv2) (by decide) vv11 (hS)
    | 12 =>
      simp only [List.getElem?_toArray, List.getElem?_cons_zero, List.getElem?_cons_succ, Option.some.injEq] at ho
      subst ho
      have p11 : b 11 = true := hd ⟨11, .data⟩ (by simp) rfl
      have p2 : b 2 = true := hd ⟨2, .guard⟩ (by simp) rfl
      exact does_pass rfl (yl 2 26 false rfl p2 vv2) (by decide) vv12 (hS)
    | 13 =>
      simp only [List.getElem?_toArray, List.getElem?_cons_zero, List.getElem?_cons_succ, Option.some.injEq] at ho
      subst ho
      have p12 : b 12 = true := hd ⟨12, .data⟩ (by simp) rfl
      have p2 : b 2 = true := hd ⟨2, .guard⟩ (by simp) rfl
      exact does_pass rfl (yl 2 26 false rfl p2 vv2) (by decide) vv13 (hS)
    | 14 =>
      simp only [List.getElem?_toArray, List.getElem?_cons_zero, List.getElem?_cons_succ, Option.some.injEq] at ho
      subst ho
      have p7 : b 7 = true := hd ⟨7, .data⟩ (by simp) rfl
      have p13 : b 13 = true := hd ⟨13, .data⟩ (by simp) rfl
      have p2 : b 2 = true := hd ⟨2, .guard⟩ (by simp) rfl
      exact does_pass rfl (yl 2 26 false rfl p2 vv2) (by decide) vv14 (hS)
    | 15 =>
      simp only [List.getElem?_toArray, List.getElem?_cons_zero, List.getElem?_cons_succ, Option.some.injEq] at ho
      subst ho
      have p2 : b 2 = true := hd ⟨2, .data⟩ (by simp) rfl
      have p14 : b 14 = true := hd ⟨14, .data⟩ (by simp) rfl
      have e26 := (ev 2 26 rfl p2).trans vv2
      rw [vv15]
      refine does_value rfl (by intro c h; cases h) (w' := W) ?_ (hS)
      · simp [execOp, go_sem, e26]
    | k + 16 => simp at ho
  · intro b' W hS _
    subst hLe
    exact hQ W hS

set_option maxRecDepth 8000 in
set_option maxHeartbeats 4000000 in
theorem rs_reg7 {Q : Exit → Act → World → Prop} {base : Array Value} {dd : List Deferred} {ops : Array Oper} (hops : Try.f12.body.bind (regs 7) = some ops) (gl m cl K kk : Nat) (xt xn yt yn : Int) (r : Bool) (w9 : World) (hsz : base.size = 61)
    (b3 : base.getD 3 undef = .slice (some ⟨gl, 0, none⟩) m cl)
    (b5 : base.getD 5 undef = .int .i64 (K : Nat))
    (hK : 0 < K) (hKm : K < m) (hkm : kk < m) (hsub : (K : Int) - 1 = (kk : Nat)) (hwr : IntKind.i64.wrap (kk : Int) = (kk : Int))
    (hx0 : w9.cell? ⟨gl, K * 11, none⟩ = some (.int .i64 xt)) (hx1 : w9.cell? ⟨gl, K * 11 + 1, none⟩ = some (.int .i64 xn)) (hy0 : w9.cell? ⟨gl, kk * 11, none⟩ = some (.int .i64 yt)) (hy1 : w9.cell? ⟨gl, kk * 11 + 1, none⟩ = some (.int .i64 yn))
    (cK : ∀ W, Below w9.heap.size w9 W → Calls Try.prog 31 #[idv xt xn, idv yt yn] W fun e w' => e = .returned (.bool r) ∧ Below W.heap.size W w')
    (hQ : ∀ W, Below w9.heap.size w9 W → Q .normal ⟨putAll base [(some 24, .int .i64 (K : Nat)), (some 25, .bool true), (some 26, .bool true), (some 27, .slice (some ⟨gl, 0, none⟩) m cl), (some 28, .int .i64 (K : Nat)), (some 29, .pointer (some ⟨gl, K * 11, none⟩)), (some 30, .pointer (some ⟨gl, K * 11, none⟩)), (some 31, .agg #[.int .i64 xt, .int .i64 xn]), (some 32, .slice (some ⟨gl, 0, none⟩) m cl), (some 33, .int .i64 (K : Nat)), (some 34, .int .i64 (kk : Nat)), (some 35, .pointer (some ⟨gl, kk * 11, none⟩)), (some 36, .pointer (some ⟨gl, kk * 11, none⟩)), (some 37, .agg #[.int .i64 yt, .int .i64 yn]), (some 38, .bool r), (some 39, .bool r)], dd⟩ W) :
    (Code.region 7 ops true).wp Try.prog Q ⟨base, dd⟩ w9 := by
  have hmix : Try.prog.follows .mixedOrders = true := by kernel_rfl
  have h2 := (show Try.f12.body.bind (regs 7) = some _ from rfl).symm.trans hops
  obtain rfl := Option.some.inj h2
  clear h2 hops
  have below9 : Below w9.heap.size w9 w9.drew := (Below.refl _ _).drew
  obtain ⟨LL, hLe⟩ : ∃ LL : List (Option Tmp × Value), LL = [(some 24, .int .i64 (K : Nat)), (some 25, .bool true), (some 26, .bool true), (some 27, .slice (some ⟨gl, 0, none⟩) m cl), (some 28, .int .i64 (K : Nat)), (some 29, .pointer (some ⟨gl, K * 11, none⟩)), (some 30, .pointer (some ⟨gl, K * 11, none⟩)), (some 31, .agg #[.int .i64 xt, .int .i64 xn]), (some 32, .slice (some ⟨gl, 0, none⟩) m cl), (some 33, .int .i64 (K : Nat)), (some 34, .int .i64 (kk : Nat)), (some 35, .pointer (some ⟨gl, kk * 11, none⟩)), (some 36, .pointer (some ⟨gl, kk * 11, none⟩)), (some 37, .agg #[.int .i64 yt, .int .i64 yn]), (some 38, .bool r), (some 39, .bool r)] := ⟨_, rfl⟩
  have vv0 : vals LL 0 = .int .i64 (K : Nat) := by rw [hLe]; rfl
  have vv1 : vals LL 1 = .bool true := by rw [hLe]; rfl
  have vv2 : vals LL 2 = .bool true := by rw [hLe]; rfl
  have vv3 : vals LL 3 = .slice (some ⟨gl, 0, none⟩) m cl := by rw [hLe]; rfl
  have vv4 : vals LL 4 = .int .i64 (K : Nat) := by rw [hLe]; rfl
  have vv5 : vals LL 5 = .pointer (some ⟨gl, K * 11, none⟩) := by rw [hLe]; rfl
  have vv6 : vals LL 6 = .pointer (some ⟨gl, K * 11, none⟩) := by rw [hLe]; rfl
  have vv7 : vals LL 7 = .agg #[.int .i64 xt, .int .i64 xn] := by rw [hLe]; rfl
  have vv8 : vals LL 8 = .slice (some ⟨gl, 0, none⟩) m cl := by rw [hLe]; rfl
  have vv9 : vals LL 9 = .int .i64 (K : Nat) := by rw [hLe]; rfl
  have vv10 : vals LL 10 = .int .i64 (kk : Nat) := by rw [hLe]; rfl
  have vv11 : vals LL 11 = .pointer (some ⟨gl, kk * 11, none⟩) := by rw [hLe]; rfl
  have vv12 : vals LL 12 = .pointer (some ⟨gl, kk * 11, none⟩) := by rw [hLe]; rfl
  have vv13 : vals LL 13 = .agg #[.int .i64 yt, .int .i64 yn] := by rw [hLe]; rfl
  have vv14 : vals LL 14 = .bool r := by rw [hLe]; rfl
  have vv15 : vals LL 15 = .bool r := by rw [hLe]; rfl
  refine region_laid hmix (by kernel_rfl) 61 hsz (by kernel_rfl) LL (by rw [hLe]; rfl) (fun _ W => Below w9.heap.size w9 W) below9 ?_ ?_
  · intro b W i o a hS hcl ho hb hd ev kp yl
    match i with
    | 0 =>
      simp only [List.getElem?_toArray, List.getElem?_cons_zero, Option.some.injEq] at ho
      subst ho
      have e5 : a.tmps[5]?.getD undef = .int .i64 (K : Nat) := (kp 5 (by kernel_rfl)).trans b5
      rw [vv0]
      refine does_value rfl (by intro c h; cases h) (w' := W) ?_ (hS)
      · simp [execOp, go_sem, e5]
    | 1 =>
      simp only [List.getElem?_toArray, List.getElem?_cons_zero, List.getElem?_cons_succ, Option.some.injEq] at ho
      subst ho
      have p0 : b 0 = true := hd ⟨0, .data⟩ (by simp) rfl
      have e24 := (ev 0 24 rfl p0).trans vv0
      rw [vv1]
      refine does_value rfl (by intro c h; cases h) (w' := W) ?_ (hS)
      · simp [execOp, go_sem, e24, hK]
    | 2 =>
      simp only [List.getElem?_toArray, List.getElem?_cons_zero, List.getElem?_cons_succ, Option.some.injEq] at ho
      subst ho
      have p1 : b 1 = true := hd ⟨1, .data⟩ (by simp) rfl
      have e25 := (ev 1 25 rfl p1).trans vv1
      rw [vv2]
      refine does_value rfl (by intro c h; cases h) (w' := W) ?_ (hS)
      · simp [execOp, go_sem, e25]
    | 3 =>
      simp only [List.getElem?_toArray, List.getElem?_cons_zero, List.getElem?_cons_succ, Option.some.injEq] at ho
      subst ho
      have p2 : b 2 = true := hd ⟨2, .guard⟩ (by simp) rfl
      have e3 : a.tmps[3]?.getD undef = .slice (some ⟨gl, 0, none⟩) m cl := (kp 3 (by kernel_rfl)).trans b3
      rw [vv3]
      refine does_value_g rfl (yl 2 26 true rfl p2 vv2) (by intro c h; cases h) (w' := W) ?_ (hS)
      · simp [execOp, go_sem, e3]
    | 4 =>
      simp only [List.getElem?_toArray, List.getElem?_cons_zero, List.getElem?_cons_succ, Option.some.injEq] at ho
      subst ho
      have p2 : b 2 = true := hd ⟨2, .guard⟩ (by simp) rfl
      have e5 : a.tmps[5]?.getD undef = .int .i64 (K : Nat) := (kp 5 (by kernel_rfl)).trans b5
      rw [vv4]
      refine does_value_g rfl (yl 2 26 true rfl p2 vv2) (by intro c h; cases h) (w' := W) ?_ (hS)
      · simp [execOp, go_sem, e5]
    | 5 =>
      simp only [List.getElem?_toArray, List.getElem?_cons_zero, List.getElem?_cons_succ, Option.some.injEq] at ho
      subst ho
      have p3 : b 3 = true := hd ⟨3, .data⟩ (by simp) rfl
      have p4 : b 4 = true := hd ⟨4, .data⟩ (by simp) rfl
      have p2 : b 2 = true := hd ⟨2, .guard⟩ (by simp) rfl
      have e27 := (ev 3 27 rfl p3).trans vv3
      have e28 := (ev 4 28 rfl p4).trans vv4
      rw [vv5]
      refine does_value_g rfl (yl 2 26 true rfl p2 vv2) (by intro c h; cases h) (w' := W) ?_ (hS)
      · simp [execOp, go_sem, e27, e28, hKm]
    | 6 =>
      simp only [List.getElem?_toArray, List.getElem?_cons_zero, List.getElem?_cons_succ, Option.some.injEq] at ho
      subst ho
      have p5 : b 5 = true := hd ⟨5, .data⟩ (by simp) rfl
      have p2 : b 2 = true := hd ⟨2, .guard⟩ (by simp) rfl
      have e29 := (ev 5 29 rfl p5).trans vv5
      rw [vv6]
      refine does_value_g rfl (yl 2 26 true rfl p2 vv2) (by intro c h; cases h) (w' := W) ?_ (hS)
      · simp [execOp, go_sem, e29]
    | 7 =>
      simp only [List.getElem?_toArray, List.getElem?_cons_zero, List.getElem?_cons_succ, Option.some.injEq] at ho
      subst ho
      have p6 : b 6 = true := hd ⟨6, .data⟩ (by simp) rfl
      have p2 : b 2 = true := hd ⟨2, .guard⟩ (by simp) rfl
      have e30 := (ev 6 30 rfl p6).trans vv6
      have d9_0 := (hS.cell (p := ⟨gl, K * 11, none⟩) (cell_lt hx0)).trans hx0
      have d9_1 := (hS.cell (p := ⟨gl, K * 11 + 1, none⟩) (cell_lt hx1)).trans hx1
      rw [vv7]
      refine does_value_g rfl (yl 2 26 true rfl p2 vv2) (by intro c h; cases h) (w' := W) ?_ (hS)
      · simp [execOp, go_sem, e30, d9_0, d9_1]
    | 8 =>
      simp only [List.getElem?_toArray, List.getElem?_cons_zero, List.getElem?_cons_succ, Option.some.injEq] at ho
      subst ho
      have p2 : b 2 = true := hd ⟨2, .guard⟩ (by simp) rfl
      have e3 : a.tmps[3]?.getD undef = .slice (some ⟨gl, 0, none⟩) m cl := (kp 3 (by kernel_rfl)).trans b3
      rw [vv8]
      refine does_value_g rfl (yl 2 26 true rfl p2 vv2) (by intro c h; cases h) (w' := W) ?_ (hS)
      · simp [execOp, go_sem, e3]
    | 9 =>
      simp only [List.getElem?_toArray, List.getElem?_cons_zero, List.getElem?_cons_succ, Option.some.injEq] at ho
      subst ho
      have p2 : b 2 = true := hd ⟨2, .guard⟩ (by simp) rfl
      have e5 : a.tmps[5]?.getD undef = .int .i64 (K : Nat) := (kp 5 (by kernel_rfl)).trans b5
      rw [vv9]
      refine does_value_g rfl (yl 2 26 true rfl p2 vv2) (by intro c h; cases h) (w' := W) ?_ (hS)
      · simp [execOp, go_sem, e5]
    | 10 =>
      simp only [List.getElem?_toArray, List.getElem?_cons_zero, List.getElem?_cons_succ, Option.some.injEq] at ho
      subst ho
      have p9 : b 9 = true := hd ⟨9, .data⟩ (by simp) rfl
      have p2 : b 2 = true := hd ⟨2, .guard⟩ (by simp) rfl
      have e33 := (ev 9 33 rfl p9).trans vv9
      rw [vv10]
      refine does_value_g rfl (yl 2 26 true rfl p2 vv2) (by intro c h; cases h) (w' := W) ?_ (hS)
      · simp [execOp, go_sem, e33, hsub, hwr]
    | 11 =>
      simp only [List.getElem?_toArray, List.getElem?_cons_zero, List.getElem?_cons_succ, Option.some.injEq] at ho
      subst ho
      have p8 : b 8 = true := hd ⟨8, .data⟩ (by simp) rfl
      have p10 : b 10 = true := hd ⟨10, .data⟩ (by simp) rfl
      have p2 : b 2 = true := hd ⟨2, .guard⟩ (by simp) rfl
      have e32 := (ev 8 32 rfl p8).trans vv8
      have e34 := (ev 10 34 rfl p10).trans vv10
      rw [vv11]
      refine does_value_g rfl (yl 2 26 true rfl p2 vv2) (by intro c h; cases h) (w' := W) ?_ (hS)
      · simp [execOp, go_sem, e32, e34, hkm]
    | 12 =>
      simp only [List.getElem?_toArray, List.getElem?_cons_zero, List.getElem?_cons_succ, Option.some.injEq] at ho
      subst ho
      have p11 : b 11 = true := hd ⟨11, .data⟩ (by simp) rfl
      have p2 : b 2 = true := hd ⟨2, .guard⟩ (by simp) rfl
      have e35 := (ev 11 35 rfl p11).trans vv11
      rw [vv12]
      refine does_value_g rfl (yl 2 26 true rfl p2 vv2) (by intro c h; cases h) (w' := W) ?_ (hS)
      · simp [execOp, go_sem, e35]
    | 13 =>
      simp only [List.getElem?_toArray, List.getElem?_cons_zero, List.getElem?_cons_succ, Option.some.injEq] at ho
      subst ho
      have p12 : b 12 = true := hd ⟨12, .data⟩ (by simp) rfl
      have p2 : b 2 = true := hd ⟨2, .guard⟩ (by simp) rfl
      have e36 := (ev 12 36 rfl p12).trans vv12
      have d9_0 := (hS.cell (p := ⟨gl, kk * 11, none⟩) (cell_lt hy0)).trans hy0
      have d9_1 := (hS.cell (p := ⟨gl, kk * 11 + 1, none⟩) (cell_lt hy1)).trans hy1
      rw [vv13]
      refine does_value_g rfl (yl 2 26 true rfl p2 vv2) (by intro c h; cases h) (w' := W) ?_ (hS)
      · simp [execOp, go_sem, e36, d9_0, d9_1]
    | 14 =>
      simp only [List.getElem?_toArray, List.getElem?_cons_zero, List.getElem?_cons_succ, Option.some.injEq] at ho
      subst ho
      have p7 : b 7 = true := hd ⟨7, .data⟩ (by simp) rfl
      have p13 : b 13 = true := hd ⟨13, .data⟩ (by simp) rfl
      have p2 : b 2 = true := hd ⟨2, .guard⟩ (by simp) rfl
      have e31 := (ev 7 31 rfl p7).trans vv7
      have e37 := (ev 13 37 rfl p13).trans vv13
      rw [vv14]
      refine does_call_g rfl (yl 2 26 true rfl p2 vv2) (by intro c h; cases h) (f := 31) (args := #[.agg #[.int .i64 xt, .int .i64 xn], .agg #[.int .i64 yt, .int .i64 yn]]) ?_ ?_
      · simp [go_sem, e31, e37]
      · exact (cK W hS).mono (fun e w' h => ⟨h.1, hS.trans (h.2.mono hS.size)⟩)
    | 15 =>
      simp only [List.getElem?_toArray, List.getElem?_cons_zero, List.getElem?_cons_succ, Option.some.injEq] at ho
      subst ho
      have p2 : b 2 = true := hd ⟨2, .data⟩ (by simp) rfl
      have p14 : b 14 = true := hd ⟨14, .data⟩ (by simp) rfl
      have e26 := (ev 2 26 rfl p2).trans vv2
      have e38 := (ev 14 38 rfl p14).trans vv14
      rw [vv15]
      refine does_value rfl (by intro c h; cases h) (w' := W) ?_ (hS)
      · simp [execOp, go_sem, e26, e38]
    | k + 16 => simp at ho
  · intro b' W hS _
    subst hLe
    exact hQ W hS

set_option maxRecDepth 8000 in
set_option maxHeartbeats 4000000 in
theorem rsorted_any (base : Nat) (v : Value) (l : List OG) (w : World) (h : RowG w base v l) (hr : RngG l) (hl : l.length ≤ 1000) :
    Calls Try.prog 12 #[v] w fun e w' => ∃ v' m, e = .returned v' ∧ RowG w' w.heap.size v' m ∧ IsSortedG l m ∧ Below w.heap.size w w' := by
  obtain ⟨p, c, rfl⟩ := h.slice
  have H0 : Hid (RowG w base (.slice p l.length c) l ∧ RngG l) := ⟨h, hr⟩
  have HS : Hid (DocI w w l 0 (.slice none 0 0) []) := ⟨RowG.nil _ _, by simp [enumG], List.Pairwise.nil, Below.refl _ _⟩
  clear h hr
  go_enter Try.func12, Try.ntmps12
  go_wp2_with fail
  go_loopw [3, 4] (fun vl vi wr => ∃ (i : Nat) (p' : Option Addr) (c' : Nat) (T : List GE), vl = .slice p' i c' ∧ vi = .int .i64 i ∧ i ≤ l.length ∧ Hid (DocI w wr l i (.slice p' i c') T)) (fun _ vi _ => l.length - (intOf vi).toNat)
  case atStart => exact ⟨0, none, 0, [], rfl, rfl, Nat.zero_le _, HS⟩
  case round =>
    clear HS
    obtain ⟨i, p', c', T, rfl, rfl, hi, HI⟩ := hrel
    by_cases hil : i = l.length
    · subst hil
      go_wp2_with fail
      go_ret
      refine ⟨_, T.map stripG, rfl, HI.out.row, ⟨T, rfl, ?_, HI.out.rise⟩, HI.out.bel⟩
      have := HI.out.perm
      rwa [List.take_length] at this
    · have hlt : i < l.length := by omega
      have hlI : (i : Int) < (l.length : Int) := by omega
      obtain ⟨x, hx⟩ : ∃ x, l[i]? = some x := ⟨_, List.getElem?_eq_getElem hlt⟩
      have hW := H0.out.1.below HI.out.bel
      obtain ⟨g, cap, cur, ev, _⟩ := hW.form (by omega)
      cases ev
      obtain ⟨x0, x1, x2, x3, x4, x5, x6, x7, x8, x9, x10⟩ := hW.cells hx
      have HA : Hid (∀ o, RowG (wr.alloc o) w.heap.size (.slice p' i c') (T.map stripG)) := fun o => HI.out.row.below (below_new wr o).out
      have hTl := HI.out.len hi
      have HT : Hid (T.length = i ∧ (T.map stripG).length = i) := ⟨hTl, by rw [List.length_map, hTl]⟩
      have hsz : w.heap.size ≤ wr.heap.size := HI.out.bel.size
      clear hW
      go_wp2_with (refine wpList_appG rfl _ _ rfl w.heap.size (.slice p' i c') (T.map stripG) x rfl wr.heap.size rfl ⟨HA.out _, heap_alloc_new wr _, by rw [HT.out.2]; omega, by simp; omega⟩ ?_; intro p2 c2 w2 H2; refine Stop.out ?_)
      refine Stop.mk ?_
      obtain ⟨xe, hxe⟩ : ∃ xe : GE, xe = ⟨x, i⟩ := ⟨_, rfl⟩
      have HK : ∃ g2, p2 = some ⟨g2, 0, none⟩ ∧ Hid (DocK w w2 T xe i i g2 c2) := by
        obtain ⟨k1, k2, _⟩ := H2.out
        rw [HT.out.2] at k1
        obtain ⟨g2, cap2, cur2, e2, _⟩ := k1.form (by simp)
        have e3 : p2 = some ⟨g2, 0, none⟩ := by injection e2
        subst e3
        refine ⟨g2, rfl, ?_, ?_, grown_below (HI.out.bel.trans ((below_new wr _).out.mono hsz)) (by simp; omega) (HA.out _) k2⟩
        · have : (insT T i xe).map stripG = T.map stripG ++ [x] := by
            unfold insT
            rw [List.take_of_length_le (by rw [HT.out.1]; exact Nat.le_refl _), List.drop_of_length_le (by rw [HT.out.1]; exact Nat.le_refl _), List.map_append, hxe]
            rfl
          rw [this]
          exact k1
        · intro a ha
          rw [List.drop_of_length_le (by rw [HT.out.1]; exact Nat.le_refl _)] at ha
          cases ha
      obtain ⟨g2, rfl, HK⟩ := HK
      have HX : Hid (xe = ⟨x, i⟩ ∧ l[i]? = some x) := ⟨hxe, hx⟩
      have eI : ((i + 1 : Nat) : Int) - 1 = (i : Int) := by omega
      have hi1000 : i < 1000 := by omega
      clear H2 hxe hx x0 x1 x2 x3 x4 x5 x6 x7 x8 x9 x10 HA hsz
      go_wp2_with fail
      go_loopw [5] (fun vk wr2 => ∃ k : Nat, vk = .int .i64 k ∧ k ≤ i ∧ Hid (DocK w wr2 T xe k i g2 c2)) (fun vk _ => (intOf vk).toNat)
      case atStart => exact ⟨i, rfl, Nat.le_refl _, HK⟩
      case round =>
        clear HK
        obtain ⟨k, rfl, hk, HK⟩ := hrel
        by_cases h0 : k = 0
        · subst h0
          go_wp2_with fail
          refine rs_reg7_no (by kernel_rfl) _ rfl rfl ?_
          intro W hS
          have HW : Hid (Below wr.heap.size wr W) := hS
          clear hS
          simp only [putAll, List.setIfInBounds_toArray, List.set_cons_zero, List.set_cons_succ]
          go_wp2_with fail
          go_roundw
          case rel => exact ⟨i + 1, _, _, insT T 0 xe, rfl, rfl, by omega, (HK.out.below HW.out).done HI.out.perm HI.out.rise HX.out.1 HX.out.2 H0.out.2 hl (.inl rfl)⟩
          case measure => simp [intOf]; omega
        · obtain ⟨kk, rfl⟩ : ∃ kk, k = kk + 1 := ⟨k - 1, by omega⟩
          obtain ⟨b, hb⟩ : ∃ b, T[kk]? = some b := ⟨_, List.getElem?_eq_getElem (by have := HT.out.1; omega)⟩
          have hkT : kk < T.length := by have := HT.out.1; omega
          have e1 : ((insT T (kk + 1) xe).map stripG)[kk + 1]? = some (stripG xe) := by
            unfold insT
            rw [List.getElem?_map, List.getElem?_append_right (by rw [List.length_take]; omega), List.length_take, show kk + 1 - min (kk + 1) T.length = 0 by omega]
            rfl
          have e2 : ((insT T (kk + 1) xe).map stripG)[kk]? = some (stripG b) := by
            unfold insT
            rw [List.getElem?_map, List.getElem?_append_left (by rw [List.length_take]; omega), List.getElem?_take, if_pos (by omega), hb]
            rfl
          have HX2 : Hid (T[kk]? = some b ∧ kk < T.length ∧ ((insT T (kk + 1) xe).map stripG)[kk + 1]? = some (stripG xe) ∧ ((insT T (kk + 1) xe).map stripG)[kk]? = some (stripG b)) := ⟨hb, hkT, e1, e2⟩
          obtain ⟨x0, x1, x2, x3, x4, x5, x6, x7, x8, x9, x10⟩ := HK.out.row.cells e1
          obtain ⟨y0, y1, y2, y3, y4, y5, y6, y7, y8, y9, y10⟩ := HK.out.row.cells e2
          have HXY : Hid (wr.cell? ⟨g2, (kk + 1) * 11, none⟩ = some (.int .i64 xe.o.t) ∧ wr.cell? ⟨g2, (kk + 1) * 11 + 1, none⟩ = some (.int .i64 xe.o.n) ∧ wr.cell? ⟨g2, kk * 11, none⟩ = some (.int .i64 b.o.t) ∧ wr.cell? ⟨g2, kk * 11 + 1, none⟩ = some (.int .i64 b.o.n)) := ⟨x0, x1, y0, y1⟩
          clear hb hkT e1 e2 x0 x1 x2 x3 x4 x5 x6 x7 x8 x9 x10 y0 y1 y2 y3 y4 y5 y6 y7 y8 y9 y10
          obtain ⟨K, hK⟩ : ∃ K, K = kk + 1 := ⟨_, rfl⟩
          rw [← hK] at HXY hk HK HX2 ⊢
          have HKk : Hid (K = kk + 1) := hK
          have hK0 : 0 < K := by omega
          have hKm : K < i + 1 := by omega
          have hkm : kk < i + 1 := by omega
          have hsub : (K : Int) - 1 = (kk : Nat) := by omega
          clear hK
          go_wp2_with fail
          refine rs_reg7 (by kernel_rfl) g2 (i + 1) c2 K kk xe.o.t xe.o.n b.o.t b.o.n (lessB xe.o.t xe.o.n b.o.t b.o.n) _ rfl rfl rfl hK0 hKm hkm hsub (by rw [IntKind.wrap_i64]; omega) HXY.out.1 HXY.out.2.1 HXY.out.2.2.1 HXY.out.2.2.2 (fun W _ => rless_any _ _ _ _ W) ?_
          intro W hS
          have HW : Hid (Below wr.heap.size wr W) := hS
          clear hS
          simp only [putAll, List.setIfInBounds_toArray, List.set_cons_zero, List.set_cons_succ]
          cases hle : lessB xe.o.t xe.o.n b.o.t b.o.n
          · go_wp2_with fail
            go_roundw
            case rel => exact ⟨i + 1, _, _, insT T K xe, rfl, rfl, by omega, (HK.out.below HW.out).done HI.out.perm HI.out.rise HX.out.1 HX.out.2 H0.out.2 hl (.inr ⟨b, by rw [HKk.out]; exact HX2.out.1, hle⟩)⟩
            case measure => simp [intOf]; omega
          · have HLE : Hid (lessB xe.o.t xe.o.n b.o.t b.o.n = true) := hle
            have hWr := HK.out.row.below HW.out
            obtain ⟨x0, x1, x2, x3, x4, x5, x6, x7, x8, x9, x10⟩ := hWr.cells HX2.out.2.2.1
            obtain ⟨y0, y1, y2, y3, y4, y5, y6, y7, y8, y9, y10⟩ := hWr.cells HX2.out.2.2.2
            have lg : g2 < W.heap.size := by obtain ⟨cur, hcur, _⟩ := hWr.cur; exact block_lt hcur
            have n1 : ¬ g2 = W.heap.size := by omega
            have n2 : ¬ g2 = W.heap.size + 1 := by omega
            have n3 : ¬ W.heap.size = g2 := by omega
            have n4 : ¬ W.heap.size + 1 = g2 := by omega
            clear hle hWr
            go_wp2_with fail
            go_region
            · generalize hW2 : ((W.alloc (.cells #[.int .i64 (stripG b).t, .int .i64 (stripG b).n, .int .i64 (stripG b).sq, .int .i64 (stripG b).kd, .int .i64 (stripG b).ot, .int .i64 (stripG b).on, .int .i64 (stripG b).pt, .int .i64 (stripG b).pn, .string (stripG b).nm, .slice (stripG b).dp (stripG b).dl (stripG b).dc, .slice (stripG b).sp (stripG b).sl (stripG b).sc] 35)).alloc (.cells #[.int .i64 (stripG xe).t, .int .i64 (stripG xe).n, .int .i64 (stripG xe).sq, .int .i64 (stripG xe).kd, .int .i64 (stripG xe).ot, .int .i64 (stripG xe).on, .int .i64 (stripG xe).pt, .int .i64 (stripG xe).pn, .string (stripG xe).nm, .slice (stripG xe).dp (stripG xe).dl (stripG xe).dc, .slice (stripG xe).sp (stripG xe).sl (stripG xe).sc] 35)).drew = W2
              have hA : W2.heap[W.heap.size]? = some (.cells (opgC (stripG b)) 35 (0, 0)) := by rw [← hW2]; exact heap_alloc2_old W _ _
              have hB : W2.heap[W.heap.size + 1]? = some (.cells (opgC (stripG xe)) 35 (0, 0)) := by rw [← hW2]; exact heap_alloc2_new W _ _
              have hB2 : Below W.heap.size W W2 := by
                rw [← hW2]
                have := (below_two W (.cells #[.int .i64 (stripG b).t, .int .i64 (stripG b).n, .int .i64 (stripG b).sq, .int .i64 (stripG b).kd, .int .i64 (stripG b).ot, .int .i64 (stripG b).on, .int .i64 (stripG b).pt, .int .i64 (stripG b).pn, .string (stripG b).nm, .slice (stripG b).dp (stripG b).dl (stripG b).dc, .slice (stripG b).sp (stripG b).sl (stripG b).sc] 35) (.cells #[.int .i64 (stripG xe).t, .int .i64 (stripG xe).n, .int .i64 (stripG xe).sq, .int .i64 (stripG xe).kd, .int .i64 (stripG xe).ot, .int .i64 (stripG xe).on, .int .i64 (stripG xe).pt, .int .i64 (stripG xe).pn, .string (stripG xe).nm, .slice (stripG xe).dp (stripG xe).dl (stripG xe).dc, .slice (stripG xe).sp (stripG xe).sl (stripG xe).sc] 35)).out
                exact ⟨this.os, this.tape, this.output, this.size, this.block⟩
              have HR2 : Hid (RowG W2 w.heap.size (.slice (some ⟨g2, 0, none⟩) (i + 1) c2) ((insT T K xe).map stripG) ∧ kk < ((insT T K xe).map stripG).length) := ⟨(HK.out.row.below HW.out).below hB2, (List.getElem?_eq_some_iff.1 HX2.out.2.2.2).1⟩
              have HKl : Hid (K < ((insT T K xe).map stripG).length) := (List.getElem?_eq_some_iff.1 HX2.out.2.2.1).1
              obtain ⟨z0, z1, z2, z3, z4, z5, z6, z7, z8, z9, z10⟩ := op_cellsG hB
              have H2 : Hid (Below W.heap.size W W2 ∧ W2.heap[W.heap.size]? = some (.cells (opgC (stripG b)) 35 (0, 0))) := ⟨hB2, hA⟩
              clear hW2 hA hB hB2 x0 x1 x2 x3 x4 x5 x6 x7 x8 x9 x10 y0 y1 y2 y3 y4 y5 y6 y7 y8 y9 y10
              go_wp2_with (refine wpList_setG rfl _ _ rfl w.heap.size g2 (i + 1) c2 kk ((insT T K xe).map stripG) (stripG xe) rfl rfl HR2 ?_; intro W3 H3; refine Stop.out ?_)
              refine Stop.mk ?_
              have hA3 := (H3.out.2.1.block _ (block_lt H2.out.2) (by omega)).trans H2.out.2
              obtain ⟨v0, v1, v2, v3, v4, v5, v6, v7, v8, v9, v10⟩ := op_cellsG hA3
              have HR3 : Hid (RowG W3 w.heap.size (.slice (some ⟨g2, 0, none⟩) (i + 1) c2) (((insT T K xe).map stripG).set kk (stripG xe)) ∧ K < (((insT T K xe).map stripG).set kk (stripG xe)).length) := ⟨H3.out.1, by rw [List.length_set]; exact HKl.out⟩
              clear hA3 z0 z1 z2 z3 z4 z5 z6 z7 z8 z9 z10
              go_wp2_with (refine wpList_setG rfl _ _ rfl w.heap.size g2 (i + 1) c2 K (((insT T K xe).map stripG).set kk (stripG xe)) (stripG b) rfl rfl HR3 ?_; intro W4 H4; refine Stop.out ?_)
              refine Stop.mk ?_
              clear v0 v1 v2 v3 v4 v5 v6 v7 v8 v9 v10
              go_wp2_with fail
              go_roundw
              case rel =>
                refine ⟨kk, rfl, by omega, ?_⟩
                obtain ⟨k1, k2, k3⟩ := H4.out
                have hD := HK.out.below HW.out
                have e := HKk.out
                subst e
                exact hD.swap HX2.out.1 HLE.out H2.out.1 H3.out.2.1 k2 k1
              case measure => simp [intOf]; omega
            · generalize hW2 : ((W.alloc (.cells #[.int .i64 (stripG xe).t, .int .i64 (stripG xe).n, .int .i64 (stripG xe).sq, .int .i64 (stripG xe).kd, .int .i64 (stripG xe).ot, .int .i64 (stripG xe).on, .int .i64 (stripG xe).pt, .int .i64 (stripG xe).pn, .string (stripG xe).nm, .slice (stripG xe).dp (stripG xe).dl (stripG xe).dc, .slice (stripG xe).sp (stripG xe).sl (stripG xe).sc] 35)).alloc (.cells #[.int .i64 (stripG b).t, .int .i64 (stripG b).n, .int .i64 (stripG b).sq, .int .i64 (stripG b).kd, .int .i64 (stripG b).ot, .int .i64 (stripG b).on, .int .i64 (stripG b).pt, .int .i64 (stripG b).pn, .string (stripG b).nm, .slice (stripG b).dp (stripG b).dl (stripG b).dc, .slice (stripG b).sp (stripG b).sl (stripG b).sc] 35)).drew = W2
              have hA : W2.heap[W.heap.size + 1]? = some (.cells (opgC (stripG b)) 35 (0, 0)) := by rw [← hW2]; exact heap_alloc2_new W _ _
              have hB : W2.heap[W.heap.size]? = some (.cells (opgC (stripG xe)) 35 (0, 0)) := by rw [← hW2]; exact heap_alloc2_old W _ _
              have hB2 : Below W.heap.size W W2 := by
                rw [← hW2]
                have := (below_two W (.cells #[.int .i64 (stripG xe).t, .int .i64 (stripG xe).n, .int .i64 (stripG xe).sq, .int .i64 (stripG xe).kd, .int .i64 (stripG xe).ot, .int .i64 (stripG xe).on, .int .i64 (stripG xe).pt, .int .i64 (stripG xe).pn, .string (stripG xe).nm, .slice (stripG xe).dp (stripG xe).dl (stripG xe).dc, .slice (stripG xe).sp (stripG xe).sl (stripG xe).sc] 35) (.cells #[.int .i64 (stripG b).t, .int .i64 (stripG b).n, .int .i64 (stripG b).sq, .int .i64 (stripG b).kd, .int .i64 (stripG b).ot, .int .i64 (stripG b).on, .int .i64 (stripG b).pt, .int .i64 (stripG b).pn, .string (stripG b).nm, .slice (stripG b).dp (stripG b).dl (stripG b).dc, .slice (stripG b).sp (stripG b).sl (stripG b).sc] 35)).out
                exact ⟨this.os, this.tape, this.output, this.size, this.block⟩
              have HR2 : Hid (RowG W2 w.heap.size (.slice (some ⟨g2, 0, none⟩) (i + 1) c2) ((insT T K xe).map stripG) ∧ kk < ((insT T K xe).map stripG).length) := ⟨(HK.out.row.below HW.out).below hB2, (List.getElem?_eq_some_iff.1 HX2.out.2.2.2).1⟩
              have HKl : Hid (K < ((insT T K xe).map stripG).length) := (List.getElem?_eq_some_iff.1 HX2.out.2.2.1).1
              obtain ⟨z0, z1, z2, z3, z4, z5, z6, z7, z8, z9, z10⟩ := op_cellsG hB
              have H2 : Hid (Below W.heap.size W W2 ∧ W2.heap[W.heap.size + 1]? = some (.cells (opgC (stripG b)) 35 (0, 0))) := ⟨hB2, hA⟩
              clear hW2 hA hB hB2 x0 x1 x2 x3 x4 x5 x6 x7 x8 x9 x10 y0 y1 y2 y3 y4 y5 y6 y7 y8 y9 y10
              go_wp2_with (refine wpList_setG rfl _ _ rfl w.heap.size g2 (i + 1) c2 kk ((insT T K xe).map stripG) (stripG xe) rfl rfl HR2 ?_; intro W3 H3; refine Stop.out ?_)
              refine Stop.mk ?_
              have hA3 := (H3.out.2.1.block _ (block_lt H2.out.2) (by omega)).trans H2.out.2
              obtain ⟨v0, v1, v2, v3, v4, v5, v6, v7, v8, v9, v10⟩ := op_cellsG hA3
              have HR3 : Hid (RowG W3 w.heap.size (.slice (some ⟨g2, 0, none⟩) (i + 1) c2) (((insT T K xe).map stripG).set kk (stripG xe)) ∧ K < (((insT T K xe).map stripG).set kk (stripG xe)).length) := ⟨H3.out.1, by rw [List.length_set]; exact HKl.out⟩
              clear hA3 z0 z1 z2 z3 z4 z5 z6 z7 z8 z9 z10
              go_wp2_with (refine wpList_setG rfl _ _ rfl w.heap.size g2 (i + 1) c2 K (((insT T K xe).map stripG).set kk (stripG xe)) (stripG b) rfl rfl HR3 ?_; intro W4 H4; refine Stop.out ?_)
              refine Stop.mk ?_
              clear v0 v1 v2 v3 v4 v5 v6 v7 v8 v9 v10
              go_wp2_with fail
              go_roundw
              case rel =>
                refine ⟨kk, rfl, by omega, ?_⟩
                obtain ⟨k1, k2, k3⟩ := H4.out
                have hD := HK.out.below HW.out
                have e := HKk.out
                subst e
                exact hD.swap HX2.out.1 HLE.out H2.out.1 H3.out.2.1 k2 k1
              case measure => simp [intOf]; omega
end Go.Proofs.Yteimjkicinjcgaa.Ck.Y
