/-
  Rows of operations, whatever their fields.
-/
import Derived.Test.YtgpbphjplbhfmaaKOrx
import Derived.ProofKit
import Derived.OpenShut
import Derived.ChangeOld
import Derived.Deep.Slices
import Derived.Deep.Grids
import Derived.Test.YtgpbphjplbhfmaaQVvecm
import Derived.Test.YtgpbphjplbhfmaaQOa
import Derived.BigQuiet
import Derived.Deep.RegionHeld3
import Derived.Maps.AppendAt
import Derived.Deep.MidRow
import Derived.Laws.OwnMore

/-
  An operation, and bytes, that came in, read cell by cell.
-/
namespace Go.Proofs.Ytgpbphjplbhfmaa.Cd
open Go.ChangeShapes Go.WideShapes Go.ChangeAt Go.RowKit Go.Deep

theorem cellsU8 : Try.prog.cellsOf 5 = 1 := by kernel_rfl
theorem cellsI64 : Try.prog.cellsOf 2 = 1 := by kernel_rfl
theorem cellsInt : Try.prog.cellsOf 3 = 1 := by kernel_rfl
theorem cellsStr : Try.prog.cellsOf 9 = 1 := by kernel_rfl
theorem cellsId : Try.prog.cellsOf 31 = 2 := by kernel_rfl
theorem cellsBs : Try.prog.cellsOf 32 = 1 := by kernel_rfl
theorem cellsVec : Try.prog.cellsOf 34 = 1 := by kernel_rfl
theorem cellsOp : Try.prog.cellsOf 36 = 11 := by kernel_rfl

def byteOf (z : Int) : BitVec 8 := BitVec.ofNat 8 z.toNat
theorem byteOf_val {z : Int} (h : (Lit.int .u8 z).wf = true) : u8v (byteOf z) = .int .u8 z := by
  simp [Lit.wf] at h
  have h1 : (0 : Int) ≤ z := h.1
  have h2 : z ≤ 255 := h.2
  unfold u8v byteOf
  rw [BitVec.toNat_ofNat, Nat.mod_eq_of_lt (by omega)]
  congr 1
  omega
theorem row_of_cells {W : World} {k : IntKind} {a : Addr} {len cap : Nat} {zs : List Int} (hl : len ≤ cap) (hz : zs.length = cap)
    (hc : ∀ i, i < cap → W.cell? (a.add i) = some (.int k (zs.getD i 0))) (hp : 0 < len) : ∃ b o, a = ⟨b, o, none⟩ ∧ ∀ (j : Nat) (x : Int), (zs.take len)[j]? = some x → W.cell? ⟨b, o + j, none⟩ = some (.int k x) := by
  obtain ⟨b, off, spot⟩ := a
  have h0 := hc 0 (by omega)
  have hspot : spot = none := by simpa [Addr.add] using World.cell?_spot h0
  subst hspot
  refine ⟨b, off, rfl, fun j x hj => ?_⟩
  rw [List.getElem?_take] at hj
  split at hj
  · have hcell := hc j (by omega)
    rw [Addr.add_lit, List.getD, hj, Option.getD_some] at hcell
    exact hcell
  · cases hj

/-- A slice of bytes, by its value. -/
theorem bytes_in {H : Type} {enc : TypeId × Value → H} {W : World} {fuel : Nat} {cs : List Value} {r : DataW H × List MemPlace} (h : DataW.trod enc Try.prog W 0 (fun _ => true) true fuel 32 cs = some r) :
    ∃ a cap, ∃ bs : List (BitVec 8), cs = [.slice a bs.length cap] ∧ bs.length ≤ cap ∧ bs.length ≤ maxLen ∧ Bytes W a bs := by
  rcases open_ints Try.underlying32 Try.underlying5 cellsU8 h with ⟨hcs, _⟩ | ⟨x, len, cap, zs, hcs, _, hl, hm, hz, _, hcell, hw⟩
  · exact ⟨none, 0, [], hcs, Nat.le_refl _, Nat.zero_le _, bytes_nil _ _⟩
  · have hz' : zs.length = cap := by simpa using hz
    have hlen : ((zs.take len).map byteOf).length = len := by simp; omega
    refine ⟨some x, cap, (zs.take len).map byteOf, by rw [hlen]; exact hcs, by rw [hlen]; exact hl, by rw [hlen]; omega, fun hp => ?_⟩
    rw [hlen] at hp
    obtain ⟨b, o, rfl, hx⟩ := row_of_cells hl hz' (fun i hi => hcell i (by omega)) hp
    refine ⟨b, o, rfl, fun j y hj => ?_⟩
    rw [List.getElem?_map] at hj
    obtain ⟨z, hzj, rfl⟩ := Option.map_eq_some_iff.1 hj
    rw [hx j z hzj, byteOf_val (hw z (List.mem_of_mem_take (List.mem_of_getElem? hzj)))]
/-- A slice of numbers, by its value. -/
theorem ints_in {H : Type} {enc : TypeId × Value → H} {W : World} {fuel : Nat} {cs : List Value} {r : DataW H × List MemPlace} (h : DataW.trod enc Try.prog W 0 (fun _ => true) true fuel 34 cs = some r) :
    ∃ a cap, ∃ ns : List Int, cs = [.slice a ns.length cap] ∧ ns.length ≤ cap ∧ ns.length ≤ maxLen ∧ Lies W a (ns.map iv) := by
  rcases open_ints Try.underlying34 Try.underlying2 cellsI64 h with ⟨hcs, _⟩ | ⟨x, len, cap, zs, hcs, _, hl, hm, hz, _, hcell, hw⟩
  · exact ⟨none, 0, [], hcs, Nat.le_refl _, Nat.zero_le _, lies_nil _ _⟩
  · have hz' : zs.length = cap := by simpa using hz
    have hlen : (zs.take len).length = len := by simp; omega
    refine ⟨some x, cap, zs.take len, by rw [hlen]; exact hcs, by rw [hlen]; exact hl, by rw [hlen]; omega, fun hp => ?_⟩
    rw [List.length_map, hlen] at hp
    obtain ⟨b, o, rfl, hx⟩ := row_of_cells hl hz' (fun i hi => hcell i (by omega)) hp
    refine ⟨b, o, rfl, fun j y hj => ?_⟩
    rw [List.getElem?_map] at hj
    obtain ⟨z, hzj, rfl⟩ := Option.map_eq_some_iff.1 hj
    exact hx j z hzj

theorem list2 {α : Type} {l : List α} (h : l.length = 2) : ∃ a b, l = [a, b] := by
  match l, h with
  | [a, b], _ => exact ⟨a, b, rfl⟩
theorem list8 {α : Type} {l : List α} (h : l.length = 8) : ∃ a b c d e f g i, l = [a, b, c, d, e, f, g, i] := by
  match l, h with
  | [a, b, c, d, e, f, g, i], _ => exact ⟨a, b, c, d, e, f, g, i, rfl⟩
theorem list11 {α : Type} {l : List α} (h : l.length = 11) : ∃ a b c d e f g i j k m, l = [a, b, c, d, e, f, g, i, j, k, m] := by
  match l, h with
  | [a, b, c, d, e, f, g, i, j, k, m], _ => exact ⟨a, b, c, d, e, f, g, i, j, k, m, rfl⟩

/-- The cells of a stamp. -/
theorem id_cells {H : Type} {enc : TypeId × Value → H} {W : World} {fuel : Nat} {cs : List Value} {x : DataW H × List MemPlace} (h : DataW.trod enc Try.prog W 0 (fun _ => true) true fuel 31 cs = some x) :
    ∃ t n : Int, cs = [.int .i64 t, .int .i64 n] := by
  obtain ⟨zs, n', _, _, hl, hlen, hf⟩ := DataW.trod_struct Try.underlying31 h
  rw [cellsId] at hl
  obtain ⟨v0, v1, rfl⟩ := list2 hl
  obtain ⟨z0, z1, rfl⟩ := list2 (show zs.length = 2 from hlen)
  have g0 := hf 0 _ rfl
  have g1 := hf 1 _ rfl
  simp [cellsInt, cellsI64] at g0 g1
  obtain ⟨tt, e3, _, _⟩ := DataW.trod_int Try.underlying2 g0
  obtain ⟨dd, e4, _, _⟩ := DataW.trod_int Try.underlying3 g1
  simp at e3 e4
  subst e3 e4
  exact ⟨tt, dd, rfl⟩

/-- An operation that came in as a value. -/
def OpIn (W : World) (v : Value) (t n sq kd ot on pt pn : Int) (nm : List UInt8) (p q : Option Addr) (c d : Nat) (data : List (BitVec 8)) (ns : List Int) : Prop :=
  v = .agg #[.int .i64 t, .int .i64 n, .int .i64 sq, .int .i64 kd, .int .i64 ot, .int .i64 on, .int .i64 pt, .int .i64 pn, .string (bas nm), .slice p data.length c, .slice q ns.length d] ∧
  data.length ≤ c ∧ ns.length ≤ d ∧ ns.length ≤ maxLen ∧ Bytes W p data ∧ Lies W q (ns.map iv)
end Go.Proofs.Ytgpbphjplbhfmaa.Cd

/-
  A heap of keys: what a step up and a step down keep; the key of a stamp and its coming.
-/
namespace Go.Proofs.Ytgpbphjplbhfmaa.Ck
open Go.RowKit

def par (k : Nat) : Nat := (k - 1) / 2
end Go.Proofs.Ytgpbphjplbhfmaa.Ck

namespace Go.Proofs.Ytgpbphjplbhfmaa.Ck.Y
open Go.RowKit Go.Maps

theorem apart_tags {W : World} {g g' : Nat} {cs cs' : Array Value} {t t' : TypeId} {fr fr' : Nat × Nat} (h : W.heap[g]? = some (.cells cs t fr)) (h' : W.heap[g']? = some (.cells cs' t' fr')) (ht : t ≠ t') : g ≠ g' := by
  rintro rfl
  rw [h] at h'
  simp only [Option.some.injEq, Obj.cells.injEq] at h'
  exact ht h'.2.1
theorem own_below {w w' : World} {base : Nat} {e : TypeId} {size : Nat} {v : Value} {n : Nat} {xs : List Value} (h : w.ownsRow base e size v n xs) (hb : Below w.heap.size w w') : w'.ownsRow base e size v n xs := by
  refine ⟨h.1, ?_⟩
  rcases h.2 with h0 | ⟨g, cap, cur, hv, hbs, hblk, r⟩
  · exact .inl h0
  · exact .inr ⟨g, cap, cur, hv, hbs, (hb.block g (block_lt hblk)).trans hblk, r⟩
theorem own_slice {W : World} {base : Nat} {e : TypeId} {n : Nat} {v : Value} {xs : List Value} {s : Nat} (h : W.ownsRow base e s v n xs) : ∃ p cap, v = .slice p n cap := by
  rcases h.2 with ⟨rfl, h0⟩ | ⟨g', cap, cur, rfl, _⟩
  · exact ⟨none, 0, by rw [h0]⟩
  · exact ⟨_, _, rfl⟩
/-- Same, of any two stamps. -/
def sameB (t n t' n' : Int) : Bool := decide (t = t') && decide (n = n')
theorem same_any (t n t' n' : Int) (w : World) : Calls Try.prog 16 #[idv t n, idv t' n'] w fun e w' => e = .returned (.bool (sameB t n t' n')) ∧ Below w.heap.size w w' := by
  have HB : Hid (∀ o o', Below w.heap.size w ((w.alloc o).alloc o')) := fun o o' => (below_two w o o').out
  by_cases h0 : t = t'
  · subst h0
    have HE : Hid (sameB t n t n' = decide (n = n')) := by show _ = _; simp [sameB]
    go_enter Try.func16, Try.ntmps16
    go_wp2
    go_ret
    rw [HE.out]
    exact ⟨by simp; rfl, HB.out _ _⟩
  · have HE : Hid (sameB t n t' n' = false) := by show _ = _; simp [sameB, h0]
    go_enter Try.func16, Try.ntmps16
    go_wp2
    go_ret
    rw [HE.out]
    exact ⟨by simp, HB.out _ _⟩

/-- An operation's eleven cells. -/
structure OG where
  t : Int
  n : Int
  sq : Int
  kd : Int
  ot : Int
  on : Int
  pt : Int
  pn : Int
  nm : ByteArray
  dp : Option Addr
  dl : Nat
  dc : Nat
  sp : Option Addr
  sl : Nat
  sc : Nat
def opG (x : OG) : List Value := [.int .i64 x.t, .int .i64 x.n, .int .i64 x.sq, .int .i64 x.kd, .int .i64 x.ot, .int .i64 x.on, .int .i64 x.pt, .int .i64 x.pn, .string x.nm, .slice x.dp x.dl x.dc, .slice x.sp x.sl x.sc]
abbrev opgC (x : OG) : Array Value := #[.int .i64 x.t, .int .i64 x.n, .int .i64 x.sq, .int .i64 x.kd, .int .i64 x.ot, .int .i64 x.on, .int .i64 x.pt, .int .i64 x.pn, .string x.nm, .slice x.dp x.dl x.dc, .slice x.sp x.sl x.sc]
abbrev opgv (x : OG) : Value := .agg (opgC x)
def flatG : List OG → List Value
  | [] => []
  | x :: l => opG x ++ flatG l
theorem opG_length (x : OG) : (opG x).length = 11 := rfl
theorem opG_one (x : OG) : ∀ v ∈ opG x, v.oneCell' = true := by
  intro v hv
  simp only [opG, List.mem_cons, List.not_mem_nil, or_false] at hv
  rcases hv with rfl | rfl | rfl | rfl | rfl | rfl | rfl | rfl | rfl | rfl | rfl <;> rfl
theorem flatG_append : ∀ l m : List OG, flatG (l ++ m) = flatG l ++ flatG m
  | [], _ => rfl
  | x :: l, m => by rw [List.cons_append, flatG, flatG, flatG_append l m, List.append_assoc]
theorem flatG_at : ∀ (l : List OG) (i j : Nat) (x : OG), l[i]? = some x → j < 11 → (flatG l)[i * 11 + j]? = (opG x)[j]?
  | [], _, _, _, h, _ => by simp at h
  | y :: l, 0, j, x, h, hj => by
    have : y = x := by simpa using h
    subst this
    rw [flatG, Nat.zero_mul, Nat.zero_add, List.getElem?_append_left (by rw [opG_length]; exact hj)]
  | y :: l, i + 1, j, x, h, hj => by
    rw [flatG, List.getElem?_append_right (by rw [opG_length]; omega), opG_length, show (i + 1) * 11 + j - 11 = i * 11 + j by omega]
    exact flatG_at l i j x (by simpa using h) hj
/-- A row of operations that a slice shows. -/
def RowG (w : World) (base : Nat) (v : Value) (l : List OG) : Prop := w.ownsRow base 36 11 v l.length (flatG l)
theorem RowG.nil (w : World) (base : Nat) : RowG w base (.slice none 0 0) [] := ⟨rfl, .inl ⟨rfl, rfl⟩⟩
theorem RowG.kept {w w' : World} {base : Nat} {v : Value} {l : List OG} {S : Nat → Prop} (h : RowG w base v l) (ho : Only S w w') (hn : ∀ g, v.ownBlock = some g → ¬ S g) : RowG w' base v l := by
  refine ⟨h.1, ?_⟩
  rcases h.2 with e | ⟨g, cp, cur, hv, hbs, hblk, r⟩
  · exact .inl e
  · exact .inr ⟨g, cp, cur, hv, hbs, (ho.block g (block_lt hblk) (hn g (by rw [hv]; rfl))).trans hblk, r⟩
theorem RowG.below {w w' : World} {base : Nat} {v : Value} {l : List OG} (h : RowG w base v l) (hb : Below w.heap.size w w') : RowG w' base v l := own_below h hb
theorem RowG.slice {w : World} {base : Nat} {v : Value} {l : List OG} (h : RowG w base v l) : ∃ p cap, v = .slice p l.length cap := own_slice h
/-- Its block is one of operations. -/
theorem RowG.tag {w : World} {base : Nat} {v : Value} {l : List OG} (h : RowG w base v l) {g : Nat} (hg : v.ownBlock = some g) : ∃ cs, w.heap[g]? = some (.cells cs 36 (0, 0)) ∧ base ≤ g := by
  rcases h.2 with ⟨rfl, _⟩ | ⟨g', cap, cur, rfl, hb, hblk, _⟩
  · simp [Value.ownBlock] at hg
  · have e' : g' = g := by simpa [Value.ownBlock] using hg
    subst e'
    exact ⟨cur, hblk, hb⟩
theorem RowG.cur {w : World} {base g n cap : Nat} {l : List OG} (h : RowG w base (.slice (some ⟨g, 0, none⟩) n cap) l) : ∃ cur, w.heap[g]? = some (.cells cur 36 (0, 0)) ∧ n = l.length ∧ base ≤ g ∧ n ≤ cap ∧ cap ≤ maxLen ∧ cur.size = cap * 11 ∧ cur.toList.take (n * 11) = flatG l := by
  rcases h.2 with ⟨e, _⟩ | ⟨g', cap', cur, e, hb, hblk, h1, h2, h3, h4⟩
  · cases e
  · cases e
    exact ⟨cur, hblk, rfl, hb, h1, h2, h3, h4⟩
/-- The cells of one of them. -/
theorem RowG.cells {w : World} {base g n cap : Nat} {l : List OG} (h : RowG w base (.slice (some ⟨g, 0, none⟩) n cap) l) {i : Nat} {x : OG} (hx : l[i]? = some x) :
    w.cell? ⟨g, i * 11, none⟩ = some (.int .i64 x.t) ∧ w.cell? ⟨g, i * 11 + 1, none⟩ = some (.int .i64 x.n) ∧ w.cell? ⟨g, i * 11 + 2, none⟩ = some (.int .i64 x.sq) ∧ w.cell? ⟨g, i * 11 + 3, none⟩ = some (.int .i64 x.kd) ∧ w.cell? ⟨g, i * 11 + 4, none⟩ = some (.int .i64 x.ot) ∧ w.cell? ⟨g, i * 11 + 5, none⟩ = some (.int .i64 x.on) ∧ w.cell? ⟨g, i * 11 + 6, none⟩ = some (.int .i64 x.pt) ∧ w.cell? ⟨g, i * 11 + 7, none⟩ = some (.int .i64 x.pn) ∧ w.cell? ⟨g, i * 11 + 8, none⟩ = some (.string x.nm) ∧ w.cell? ⟨g, i * 11 + 9, none⟩ = some (.slice x.dp x.dl x.dc) ∧ w.cell? ⟨g, i * 11 + 10, none⟩ = some (.slice x.sp x.sl x.sc) := by
  obtain ⟨cur, hblk, hn, _, _, _, _, h4⟩ := h.cur
  have hil := (List.getElem?_eq_some_iff.1 hx).1
  have key : ∀ j, j < 11 → w.cell? ⟨g, i * 11 + j, none⟩ = (opG x)[j]? := fun j hj => by
    rw [cellOf hblk, ← flatG_at l i j x hx hj, ← h4, List.getElem?_take, if_pos (by omega), Array.getElem?_toList]
  exact ⟨key 0 (by omega), key 1 (by omega), key 2 (by omega), key 3 (by omega), key 4 (by omega), key 5 (by omega), key 6 (by omega), key 7 (by omega), key 8 (by omega), key 9 (by omega), key 10 (by omega)⟩

theorem infoOpG : ∃ i, Try.prog.info? 36 = some i ∧ i.zero = some (.agg #[.int .i64 0, .int .i64 0, .int .i64 0, .int .i64 0, .int .i64 0, .int .i64 0, .int .i64 0, .int .i64 0, .string ⟨#[]⟩, .slice none 0 0, .slice none 0 0]) ∧ i.size = 11 ∧ i.bytes = 128 := by
  have e : (Try.prog.info? 36).map (fun i => (i.zero, i.size, i.bytes)) = some (some (.agg #[.int .i64 0, .int .i64 0, .int .i64 0, .int .i64 0, .int .i64 0, .int .i64 0, .int .i64 0, .int .i64 0, .string ⟨#[]⟩, .slice none 0 0, .slice none 0 0]), 11, 128) := by kernel_rfl
  obtain ⟨i, hi, he⟩ := Option.map_eq_some_iff.1 e
  injection he with h1 h2
  injection h2 with h2 h3
  exact ⟨i, hi, h1, h2, h3⟩

/-- One operation more is appended. -/
theorem wpList_appG {w : World} {ops : Array Oper} {rest : List Oper} {o : Oper} {a : Act} {Q : Exit → Act → World → Prop} (hgd : o.guard = none) (s x : Operand) (ho : o.op = .call { callee := .builtin .append, args := #[s, x], argTypes := #[22, 22] })
    (base : Nat) (v : Value) (l : List OG) (z : OG) (hs : a.eval s = v) (g : Nat) (hx : a.eval x = .slice (some ⟨g, 0, none⟩) 1 1) (h : Hid (RowG w base v l ∧ w.heap[g]? = some (.cells (opgC z) 36 (0, 0)) ∧ l.length < 1000000 ∧ base ≤ w.heap.size))
    (hK : ∀ p c w', Hid (RowG w' base (.slice p (l.length + 1) c) (l ++ [z]) ∧ w.grownBy w' v.ownBlock ∧ ((Value.slice p (l.length + 1) c).ownBlock = v.ownBlock ∨ (Value.slice p (l.length + 1) c).ownBlock = some w.heap.size)) → wpList Try.prog ops Q rest (a.put o.dst (.slice p (l.length + 1) c)) w') : wpList Try.prog ops Q (o :: rest) a w := by
  obtain ⟨h1, hg, hl, hb⟩ := h.out
  obtain ⟨i0, hi0, hz0, hz1, hz2⟩ := infoOpG
  refine wpList_append_own_at _ hgd s x 22 ho base 36 i0 _ 11 128 Try.underlying22 hi0 hz0 hz1 hz2 rfl (by decide) v l.length (flatG l) hs h1 ⟨g, 0, none⟩ 1 1 (opG z) hx rfl (fun j u hj => by
    rw [Addr.add_lit, Nat.zero_add, cellOf hg j]
    simpa [opgC, opG] using hj) (opG_one z) (by unfold maxLen; omega) (by omega) hb ?_
  intro v' w' g1 g2 _ g4
  obtain ⟨p, c, rfl⟩ := own_slice g1
  refine hK p c w' ⟨?_, g2, g4⟩
  have e : flatG (l ++ [z]) = flatG l ++ opG z := by rw [flatG_append]; simp [flatG]
  unfold RowG
  rw [e, List.length_append]
  exact g1
theorem op_cellsG {w : World} {g : Nat} {T : TypeId} {fr : Nat × Nat} {x : OG} (h : w.heap[g]? = some (.cells (opgC x) T fr)) :
    w.cell? ⟨g, 0, none⟩ = some (.int .i64 x.t) ∧ w.cell? ⟨g, 1, none⟩ = some (.int .i64 x.n) ∧ w.cell? ⟨g, 2, none⟩ = some (.int .i64 x.sq) ∧ w.cell? ⟨g, 3, none⟩ = some (.int .i64 x.kd) ∧ w.cell? ⟨g, 4, none⟩ = some (.int .i64 x.ot) ∧ w.cell? ⟨g, 5, none⟩ = some (.int .i64 x.on) ∧ w.cell? ⟨g, 6, none⟩ = some (.int .i64 x.pt) ∧ w.cell? ⟨g, 7, none⟩ = some (.int .i64 x.pn) ∧ w.cell? ⟨g, 8, none⟩ = some (.string x.nm) ∧ w.cell? ⟨g, 9, none⟩ = some (.slice x.dp x.dl x.dc) ∧ w.cell? ⟨g, 10, none⟩ = some (.slice x.sp x.sl x.sc) :=
  ⟨cellOf h 0, cellOf h 1, cellOf h 2, cellOf h 3, cellOf h 4, cellOf h 5, cellOf h 6, cellOf h 7, cellOf h 8, cellOf h 9, cellOf h 10⟩
end Go.Proofs.Ytgpbphjplbhfmaa.Ck.Y
