/-
  Rows of stamps.
-/
import Derived.Test.YtgpbphjplbhfmaaQOvy
import Derived.Test.YtgpbphjplbhfmaaKPsa

/-
  The law's operations, as they come in.
-/
namespace Go.Proofs.Ytgpbphjplbhfmaa.Ck.Y.S
open Go.ChangeShapes Go.WideShapes Go.ChangeAt Go.RowKit Go.Deep

theorem elems_in {H : Type} {enc : TypeId × Value → H} {W : World} {fuel : Nat} {a : Option Addr} {len cap : Nat} {y : DataW H × List MemPlace} {t e : TypeId} {S : Nat} (hu : Try.prog.underlying t = some (.slice e)) (hS : Try.prog.cellsOf e = S) (h0 : 0 < S)
    {α : Type} (dflt : α) (R : Nat → Nat → α → Prop) (h : DataW.trod enc Try.prog W 0 (fun _ => true) true fuel t [.slice a len cap] = some y)
    (hel : ∀ (b o : Nat) (cs : List Value) (n : Nat) (x : DataW H × List MemPlace), W.cells? 0 ⟨b, o, none⟩ S = some cs → DataW.trod enc Try.prog W 0 (fun _ => true) true n e cs = some x → ∃ i, R b o i) :
    ∃ l : List α, l.length = len ∧ (0 < len → ∃ g o, a = some ⟨g, o, none⟩ ∧ ∀ (j : Nat) (x : α), l[j]? = some x → R g (o + j * S) x) := by
  rcases open_slice hu h with ⟨hcs, _⟩ | ⟨⟨b, off, spot⟩, len', cap', m, n, D, Pl, hcs, _, hl, hmax, hm, hx, hel'⟩
  · simp at hcs
    obtain ⟨rfl, rfl, rfl⟩ := hcs
    exact ⟨[], rfl, fun h => absurd h (by simp)⟩
  · simp at hcs
    obtain ⟨rfl, rfl, rfl⟩ := hcs
    simp only [if_true] at hm
    subst hm
    rw [hS] at hel'
    by_cases hp : 0 < len
    · have hspot : spot = none := by
        obtain ⟨cs, hc, _⟩ := hel' 0 (by omega)
        obtain ⟨_, _, hcell⟩ := World.cells?_some hc
        have h0' := hcell 0 (by omega)
        have hl6 := (World.cells?_some hc).2.1
        rw [List.getElem?_eq_getElem (by omega)] at h0'
        simpa [Addr.add] using World.cell?_spot h0'
      subst hspot
      have hex : ∀ k, ∃ i : α, k < len → R b (off + k * S) i := by
        intro k
        by_cases hk : k < len
        · obtain ⟨cs, hc, ht⟩ := hel' k (by omega)
          rw [Addr.add_lit] at hc
          obtain ⟨i, h2⟩ := hel b (off + k * S) cs n _ hc ht
          exact ⟨i, fun _ => h2⟩
        · exact ⟨dflt, fun h => absurd h hk⟩
      obtain ⟨f, hf⟩ : ∃ f : Nat → α, ∀ k, k < len → R b (off + k * S) (f k) := ⟨fun k => (hex k).choose, fun k => (hex k).choose_spec⟩
      have hlen : ((List.range len).map f).length = len := by simp
      refine ⟨(List.range len).map f, hlen, fun _ => ⟨b, off, rfl, fun j x hj => ?_⟩⟩
      have hlt := (List.getElem?_eq_some_iff.1 hj).1
      rw [hlen] at hlt
      rw [List.getElem?_map, List.getElem?_range hlt] at hj
      cases hj
      exact hf j hlt
    · have h0' : len = 0 := by omega
      subst h0'
      exact ⟨[], rfl, fun h => absurd h (by simp)⟩


set_option maxRecDepth 8000 in
set_option maxHeartbeats 1000000 in
/-- An operation's cells. -/
theorem opcells_in {H : Type} {enc : TypeId × Value → H} {W : World} {fuel : Nat} {cs : List Value} {x : DataW H × List MemPlace} (h : DataW.trod enc Try.prog W 0 (fun _ => true) true fuel 36 cs = some x) :
    ∃ o : OG, cs = opG o ∧ ∃ ns bs, RawIn W o ns bs := by
  obtain ⟨zs, n', _, _, hl, hlen, hf⟩ := DataW.trod_struct Try.underlying36 h
  rw [Cd.cellsOp] at hl
  obtain ⟨v0, v1, v2, v3, v4, v5, v6, v7, v8, v9, v10, rfl⟩ := Cd.list11 hl
  obtain ⟨z0, z1, z2, z3, z4, z5, z6, z7, rfl⟩ := Cd.list8 (show zs.length = 8 from hlen)
  have g0 := hf 0 _ rfl
  have g1 := hf 1 _ rfl
  have g2 := hf 2 _ rfl
  have g3 := hf 3 _ rfl
  have g4 := hf 4 _ rfl
  have g5 := hf 5 _ rfl
  have g6 := hf 6 _ rfl
  have g7 := hf 7 _ rfl
  simp [Cd.cellsInt, Cd.cellsI64, Cd.cellsId, Cd.cellsStr, Cd.cellsBs, Cd.cellsVec] at g0 g1 g2 g3 g4 g5 g6 g7
  obtain ⟨t, n, e0⟩ := Cd.id_cells g0
  obtain ⟨sq, e1, _, _⟩ := DataW.trod_int Try.underlying2 g1
  obtain ⟨kd, e2, _, _⟩ := DataW.trod_int Try.underlying3 g2
  obtain ⟨ot, on, e3⟩ := Cd.id_cells g3
  obtain ⟨pt, pn, e4⟩ := Cd.id_cells g4
  obtain ⟨s, e5, _, _⟩ := DataW.trod_string Try.underlying9 g5
  obtain ⟨p, c, data, e6, k1, _, k2⟩ := Cd.bytes_in g6
  obtain ⟨q, d, ns, e7, k3, k4, k5⟩ := Cd.ints_in g7
  simp at e0 e1 e2 e3 e4 e5 e6 e7
  refine ⟨⟨t, n, sq, kd, ot, on, pt, pn, s, p, data.length, c, q, ns.length, d⟩, ?_, ns, data, ⟨k5, rfl, k3, k4, k2, rfl, k1⟩⟩
  show _ = [_, _, _, _, _, _, _, _, _, _, _]
  rw [e0.1, e0.2, e1, e2, e3.1, e3.2, e4.1, e4.2, e5, e6, e7]
/-- A row of operations. -/
theorem ops_in {H : Type} {enc : TypeId × Value → H} {W : World} {fuel : Nat} {a : Option Addr} {len cap : Nat} {y : DataW H × List MemPlace} (h : DataW.trod enc Try.prog W 0 (fun _ => true) true fuel 22 [.slice a len cap] = some y) :
    ∃ L : List OG, L.length = len ∧ OpsL W a L ∧ L.length ≤ maxLen := by
  have hmax : len ≤ maxLen := by
    rcases open_slice Try.underlying22 h with ⟨hcs, _⟩ | ⟨_, len', cap', _, _, _, _, hcs, _, hl, hmax, _⟩
    · simp at hcs; rw [hcs.2.1]; exact Nat.zero_le _
    · simp at hcs
      rw [hcs.2.1]
      omega
  obtain ⟨l, hl, hr⟩ := elems_in Try.underlying22 Cd.cellsOp (by decide) (⟨0, 0, 0, 0, 0, 0, 0, 0, ⟨#[]⟩, none, 0, 0, none, 0, 0⟩ : OG) (fun b o x => (∀ k : Nat, k < 11 → W.cell? ⟨b, o + k, none⟩ = (opG x)[k]?) ∧ ∃ ns bs, RawIn W x ns bs) h (fun b o cs n x hc ht => by
    obtain ⟨z, rfl, hz⟩ := opcells_in ht
    obtain ⟨_, _, hcell⟩ := World.cells?_some hc
    exact ⟨z, fun k hk => by have := hcell k hk; rwa [Addr.add_lit] at this, hz⟩)
  refine ⟨l, hl, fun h0 => ?_, by omega⟩
  obtain ⟨g, o, e, hc⟩ := hr (by omega)
  refine ⟨g, o, e, fun j x hj => ?_⟩
  obtain ⟨h1, h2⟩ := hc j x hj
  exact ⟨⟨h1 0 (by omega), h1 1 (by omega), h1 2 (by omega), h1 3 (by omega), h1 4 (by omega), h1 5 (by omega), h1 6 (by omega), h1 7 (by omega), h1 8 (by omega), h1 9 (by omega), h1 10 (by omega)⟩, h2⟩

end Go.Proofs.Ytgpbphjplbhfmaa.Ck.Y.S

/-
  The document's tree, as a list of objects (pure).
-/
namespace Go.Proofs.Ytgpbphjplbhfmaa.Ck.Y
open Go.RowKit Go.Maps

/-- An object: its ID, its parent, its name, whether it is a directory. -/
structure OB where
  it : Int
  ii : Int
  pt : Int
  pn : Int
  nm : ByteArray
  dir : Bool
theorem sameB_iff {t n t' n' : Int} : sameB t n t' n' = true ↔ t = t' ∧ n = n' := by simp [sameB]
theorem sameB_no {t n t' n' : Int} : sameB t n t' n' = false ↔ ¬ (t = t' ∧ n = n') := by rw [← sameB_iff]; simp
def rootB (t n : Int) : Bool := decide (t = 0) && decide (n = 0)
def trashB (t n : Int) : Bool := decide (t = 0) && decide (n = 1)
/-- Where an object lies. -/
def findT (T : List OB) (t n : Int) : Option Nat := T.findIdx? fun o => sameB o.it o.ii t n
theorem findT_some {T : List OB} {t n : Int} {k : Nat} (h : findT T t n = some k) : ∃ o, T[k]? = some o ∧ o.it = t ∧ o.ii = n := by
  obtain ⟨hk, h1, _⟩ := List.findIdx?_eq_some_iff_getElem.1 h
  exact ⟨T[k], List.getElem?_eq_getElem hk, sameB_iff.1 h1⟩
theorem findT_none {T : List OB} {t n : Int} (h : findT T t n = none) : ∀ o ∈ T, ¬ (o.it = t ∧ o.ii = n) := by
  intro o ho
  have := (List.findIdx?_eq_none_iff.1 h) o ho
  exact sameB_no.1 this
/-- IDs are apart. -/
def ApartT (T : List OB) : Prop := T.Pairwise fun a b => ¬ (a.it = b.it ∧ a.ii = b.ii)
theorem findT_at {T : List OB} (ha : ApartT T) {k : Nat} {o : OB} (h : T[k]? = some o) : findT T o.it o.ii = some k := by
  obtain ⟨hk, e⟩ := List.getElem?_eq_some_iff.1 h
  refine List.findIdx?_eq_some_iff_getElem.2 ⟨hk, by rw [e]; exact sameB_iff.2 ⟨rfl, rfl⟩, fun j hj => ?_⟩
  have := (List.pairwise_iff_getElem.1 ha) j k (by omega) hk hj
  rw [e] at this
  simpa [sameB] using this
/-- Is it a directory that is there? -/
def dirT (T : List OB) (t n : Int) : Bool := rootB t n || trashB t n || (match findT T t n with | some k => (T[k]?.map (·.dir)).getD false | none => false)
/-- An object's parent. -/
def upT (T : List OB) (a : Int × Int) : Option (Int × Int) := (findT T a.1 a.2).bind fun k => T[k]?.map fun o => (o.pt, o.pn)
theorem upT_some {T : List OB} {a b : Int × Int} (h : upT T a = some b) : ∃ k o, findT T a.1 a.2 = some k ∧ T[k]? = some o ∧ o.it = a.1 ∧ o.ii = a.2 ∧ b = (o.pt, o.pn) := by
  unfold upT at h
  obtain ⟨k, hk, h1⟩ := Option.bind_eq_some_iff.1 h
  obtain ⟨o, ho, e1, e2⟩ := findT_some hk
  rw [ho] at h1
  exact ⟨k, o, hk, ho, e1, e2, by simpa using h1.symm⟩
theorem upT_at {T : List OB} {a : Int × Int} {k : Nat} {o : OB} (h : findT T a.1 a.2 = some k) (ho : T[k]? = some o) : upT T a = some (o.pt, o.pn) := by
  unfold upT
  rw [h, Option.bind_some, ho]
  rfl
/-- a is below b. -/
inductive Bel (T : List OB) : Int × Int → Int × Int → Prop
  | one {a b : Int × Int} : upT T a = some b → Bel T a b
  | far {a b c : Int × Int} : upT T a = some c → Bel T c b → Bel T a b
theorem Bel.not {T : List OB} {a b : Int × Int} (h : upT T a = none) : ¬ Bel T a b := by
  intro hb
  cases hb with
  | one h1 => rw [h] at h1; cases h1
  | far h1 _ => rw [h] at h1; cases h1
theorem Bel.next {T : List OB} {a b c : Int × Int} (h : upT T a = some c) (hn : c ≠ b) : Bel T a b ↔ Bel T c b := by
  constructor
  · intro hb
    cases hb with
    | one h1 => rw [h] at h1; cases h1; exact absurd rfl hn
    | far h1 h2 => rw [h] at h1; cases h1; exact h2
  · exact fun hb => .far h hb
theorem Bel.trans {T : List OB} {a b c : Int × Int} (h : Bel T a b) (h' : Bel T b c) : Bel T a c := by
  induction h with
  | one h1 => exact .far h1 h'
  | far h1 _ ih => exact .far h1 (ih h')
/-- Parents have lesser ranks: no object is below itself. -/
def Ranked (T : List OB) : Prop := ∃ r : Int × Int → Nat, ∀ a b, upT T a = some b → r b < r a
theorem Ranked.bel {T : List OB} {r : Int × Int → Nat} (h : ∀ a b, upT T a = some b → r b < r a) {a b : Int × Int} (hb : Bel T a b) : r b < r a := by
  induction hb with
  | one h1 => exact h _ _ h1
  | far h1 _ ih => have := h _ _ h1; omega
theorem Ranked.self {T : List OB} (h : Ranked T) (a : Int × Int) : ¬ Bel T a a := by
  obtain ⟨r, hr⟩ := h
  intro hb
  have := Ranked.bel hr hb
  omega

/-- A tree that operations made. -/
structure WfT (T : List OB) : Prop where
  apart : ApartT T
  rank : Ranked T
  own : ∀ o ∈ T, ¬ o.it = 0
  home : ∀ o ∈ T, dirT T o.pt o.pn = true
theorem WfT.nil : WfT [] := ⟨List.Pairwise.nil, ⟨fun _ => 0, fun a b h => by simp [upT, findT] at h⟩, fun o ho => by simp at ho, fun o ho => by simp at ho⟩

/-- One operation, done. -/
def madeO (o : OG) : OB := ⟨o.ot, o.on, o.pt, o.pn, o.nm, decide (o.kd = 1)⟩
def moveO (o : OG) (b : OB) : OB := ⟨b.it, b.ii, o.pt, o.pn, o.nm, b.dir⟩
inductive StepT (T : List OB) (s : Nat) (o : OG) : List OB → Nat → Prop
  | make : (o.kd = 1 ∨ o.kd = 2) → trashB o.pt o.pn = false → dirT T o.pt o.pn = true → findT T o.ot o.on = none → StepT T s o (T ++ [madeO o]) s
  | made : (o.kd = 1 ∨ o.kd = 2) → (trashB o.pt o.pn = true ∨ dirT T o.pt o.pn = false ∨ ∃ k, findT T o.ot o.on = some k) → StepT T s o T (s + 1)
  | move {k : Nat} {b : OB} : o.kd = 3 → findT T o.ot o.on = some k → T[k]? = some b → dirT T o.pt o.pn = true → ¬ (o.pt = o.ot ∧ o.pn = o.on) → ¬ Bel T (o.pt, o.pn) (o.ot, o.on) → StepT T s o (T.set k (moveO o b)) s
  | moved : o.kd = 3 → (findT T o.ot o.on = none ∨ dirT T o.pt o.pn = false ∨ (o.pt = o.ot ∧ o.pn = o.on) ∨ Bel T (o.pt, o.pn) (o.ot, o.on)) → StepT T s o T (s + 1)
  | other : ¬ (o.kd = 1 ∨ o.kd = 2 ∨ o.kd = 3) → StepT T s o T s
theorem StepT.total (T : List OB) (s : Nat) (o : OG) : ∃ T' s', StepT T s o T' s' := by
  by_cases h1 : o.kd = 1 ∨ o.kd = 2
  · cases ht : trashB o.pt o.pn with
    | true => exact ⟨_, _, .made h1 (.inl ht)⟩
    | false =>
      cases hd : dirT T o.pt o.pn with
      | false => exact ⟨_, _, .made h1 (.inr (.inl hd))⟩
      | true =>
        cases hf : findT T o.ot o.on with
        | some k => exact ⟨_, _, .made h1 (.inr (.inr ⟨k, hf⟩))⟩
        | none => exact ⟨_, _, .make h1 ht hd hf⟩
  · by_cases h3 : o.kd = 3
    · cases hf : findT T o.ot o.on with
      | none => exact ⟨_, _, .moved h3 (.inl hf)⟩
      | some k =>
        obtain ⟨b, hb, _⟩ := findT_some hf
        cases hd : dirT T o.pt o.pn with
        | false => exact ⟨_, _, .moved h3 (.inr (.inl hd))⟩
        | true =>
          by_cases hs : o.pt = o.ot ∧ o.pn = o.on
          · exact ⟨_, _, .moved h3 (.inr (.inr (.inl hs)))⟩
          · by_cases hB : Bel T (o.pt, o.pn) (o.ot, o.on)
            · exact ⟨_, _, .moved h3 (.inr (.inr (.inr hB)))⟩
            · exact ⟨_, _, .move h3 hf hb hd hs hB⟩
    · exact ⟨_, _, .other (by omega)⟩
theorem StepT.unique {T T1 T2 : List OB} {s s1 s2 : Nat} {o : OG} (h1 : StepT T s o T1 s1) (h2 : StepT T s o T2 s2) : T1 = T2 ∧ s1 = s2 := by
  cases h1 with
  | make a1 a2 a3 a4 =>
    cases h2 with
    | make => exact ⟨rfl, rfl⟩
    | made _ b2 =>
      rcases b2 with b2 | b2 | ⟨k, b2⟩
      · rw [a2] at b2; cases b2
      · rw [a3] at b2; cases b2
      · rw [a4] at b2; cases b2
    | move b1 => omega
    | moved b1 => omega
    | other b1 => omega
  | made a1 a2 =>
    cases h2 with
    | make b1 b2 b3 b4 =>
      rcases a2 with a2 | a2 | ⟨k, a2⟩
      · rw [b2] at a2; cases a2
      · rw [b3] at a2; cases a2
      · rw [b4] at a2; cases a2
    | made => exact ⟨rfl, rfl⟩
    | move b1 => omega
    | moved b1 => omega
    | other b1 => omega
  | move a1 a2 a3 a4 a5 a6 =>
    cases h2 with
    | make b1 => omega
    | made b1 => omega
    | move b1 b2 b3 =>
      rw [a2] at b2
      cases b2
      rw [a3] at b3
      cases b3
      exact ⟨rfl, rfl⟩
    | moved _ b2 =>
      rcases b2 with b2 | b2 | b2 | b2
      · rw [a2] at b2; cases b2
      · rw [a4] at b2; cases b2
      · exact absurd b2 a5
      · exact absurd b2 a6
    | other b1 => omega
  | moved a1 a2 =>
    cases h2 with
    | make b1 => omega
    | made b1 => omega
    | move b1 b2 b3 b4 b5 b6 =>
      rcases a2 with a2 | a2 | a2 | a2
      · rw [b2] at a2; cases a2
      · rw [b4] at a2; cases a2
      · exact absurd a2 b5
      · exact absurd a2 b6
    | moved => exact ⟨rfl, rfl⟩
    | other b1 => omega
  | other a1 =>
    cases h2 with
    | make b1 => omega
    | made b1 => omega
    | move b1 => omega
    | moved b1 => omega
    | other => exact ⟨rfl, rfl⟩
/-- A list of operations, done one behind the other. -/
inductive FoldT : List OB → Nat → List OG → List OB → Nat → Prop
  | nil (T : List OB) (s : Nat) : FoldT T s [] T s
  | cons {T T1 T2 : List OB} {s s1 s2 : Nat} {o : OG} {l : List OG} : StepT T s o T1 s1 → FoldT T1 s1 l T2 s2 → FoldT T s (o :: l) T2 s2
theorem FoldT.total : ∀ (l : List OG) (T : List OB) (s : Nat), ∃ T' s', FoldT T s l T' s'
  | [], T, s => ⟨T, s, .nil T s⟩
  | o :: l, T, s => by
    obtain ⟨T1, s1, h1⟩ := StepT.total T s o
    obtain ⟨T2, s2, h2⟩ := FoldT.total l T1 s1
    exact ⟨T2, s2, .cons h1 h2⟩
theorem FoldT.unique : ∀ {l : List OG} {T T1 T2 : List OB} {s s1 s2 : Nat}, FoldT T s l T1 s1 → FoldT T s l T2 s2 → T1 = T2 ∧ s1 = s2
  | [], _, _, _, _, _, _, .nil _ _, .nil _ _ => ⟨rfl, rfl⟩
  | _ :: _, _, _, _, _, _, _, .cons a1 a2, .cons b1 b2 => by
    obtain ⟨rfl, rfl⟩ := a1.unique b1
    exact FoldT.unique a2 b2
theorem FoldT.snoc : ∀ {l : List OG} {T T1 T2 : List OB} {s s1 s2 : Nat} {o : OG}, FoldT T s l T1 s1 → StepT T1 s1 o T2 s2 → FoldT T s (l ++ [o]) T2 s2
  | [], _, _, _, _, _, _, _, .nil _ _, h => .cons h (.nil _ _)
  | _ :: _, _, _, _, _, _, _, _, .cons a1 a2, h => .cons a1 (FoldT.snoc a2 h)
end Go.Proofs.Ytgpbphjplbhfmaa.Ck.Y

/-
  A step leaves a tree a tree (pure).
-/
namespace Go.Proofs.Ytgpbphjplbhfmaa.Ck.Y
open Go.RowKit Go.Maps

def idp (o : OB) : Int × Int := (o.it, o.ii)
theorem findT_ids (T : List OB) (t n : Int) : findT T t n = (T.map idp).findIdx? fun q => sameB q.1 q.2 t n := by
  rw [List.findIdx?_map]
  rfl
theorem findT_snoc (T : List OB) (x : OB) (t n : Int) : findT (T ++ [x]) t n = match findT T t n with | some k => some k | none => if x.it = t ∧ x.ii = n then some T.length else none := by
  unfold findT
  rw [List.findIdx?_append]
  cases h : T.findIdx? (fun o => sameB o.it o.ii t n) with
  | some k => rfl
  | none =>
    by_cases hx : x.it = t ∧ x.ii = n
    · obtain ⟨rfl, rfl⟩ := hx
      have : sameB x.it x.ii x.it x.ii = true := sameB_iff.2 ⟨rfl, rfl⟩
      simp [List.findIdx?_cons, this]
    · have : sameB x.it x.ii t n = false := sameB_no.2 hx
      simp [List.findIdx?_cons, this, hx]
theorem map_set_idp {T : List OB} {k : Nat} {b b' : OB} (hb : T[k]? = some b) (h : idp b' = idp b) : (T.set k b').map idp = T.map idp := by
  rw [List.map_set, h]
  have hk := (List.getElem?_eq_some_iff.1 hb).1
  have e : idp b = (T.map idp)[k]'(by simpa using hk) := by
    rw [List.getElem_map, (List.getElem?_eq_some_iff.1 hb).2]
  rw [e, List.set_getElem_self]
theorem findT_set {T : List OB} {k : Nat} {b b' : OB} (hb : T[k]? = some b) (h : idp b' = idp b) (t n : Int) : findT (T.set k b') t n = findT T t n := by
  rw [findT_ids, findT_ids, map_set_idp hb h]
theorem apartT_ids {T : List OB} : ApartT T ↔ (T.map idp).Pairwise fun a b => ¬ (a.1 = b.1 ∧ a.2 = b.2) := by
  unfold ApartT
  rw [List.pairwise_map]
  rfl
theorem dirT_set {T : List OB} {k : Nat} {b b' : OB} (hb : T[k]? = some b) (h : idp b' = idp b) (hd : b'.dir = b.dir) (t n : Int) : dirT (T.set k b') t n = dirT T t n := by
  unfold dirT
  rw [findT_set hb h]
  cases findT T t n with
  | none => rfl
  | some j =>
    simp only
    by_cases hj : j = k
    · subst hj
      have hk := (List.getElem?_eq_some_iff.1 hb).1
      rw [List.getElem?_set_self hk, hb]
      simp [hd]
    · rw [List.getElem?_set_ne (fun e => hj e.symm)]
theorem dirT_snoc {T : List OB} {x : OB} {t n : Int} (h : dirT T t n = true) : dirT (T ++ [x]) t n = true := by
  unfold dirT at *
  rw [findT_snoc]
  cases hf : findT T t n with
  | none =>
    rw [hf] at h
    simp at h
    simp [h]
  | some k =>
    rw [hf] at h
    obtain ⟨o, ho, _⟩ := findT_some hf
    have hk := (List.getElem?_eq_some_iff.1 ho).1
    simp only
    rw [List.getElem?_append_left hk]
    exact h
theorem dirT_there {T : List OB} {t n : Int} (h : dirT T t n = true) (h0 : ¬ t = 0) : ∃ k, findT T t n = some k := by
  unfold dirT at h
  cases hf : findT T t n with
  | some k => exact ⟨k, rfl⟩
  | none =>
    rw [hf] at h
    simp [rootB, trashB, h0] at h
theorem upT_snoc {T : List OB} {x : OB} (hx : findT T x.it x.ii = none) (c : Int × Int) : upT (T ++ [x]) c = if c = idp x then some (x.pt, x.pn) else upT T c := by
  unfold upT
  rw [findT_snoc]
  by_cases hc : c = idp x
  · subst hc
    have : findT T (idp x).1 (idp x).2 = none := hx
    rw [this]
    simp [idp]
  · rw [if_neg hc]
    cases hf : findT T c.1 c.2 with
    | none =>
      have : ¬ (x.it = c.1 ∧ x.ii = c.2) := fun ⟨h1, h2⟩ => hc (Prod.ext h1.symm h2.symm)
      simp [this]
    | some k =>
      obtain ⟨o, ho, _⟩ := findT_some hf
      have hk := (List.getElem?_eq_some_iff.1 ho).1
      simp only [Option.bind_some]
      rw [List.getElem?_append_left hk]
theorem upT_set {T : List OB} {k : Nat} {b b' : OB} (ha : ApartT T) (hb : T[k]? = some b) (h : idp b' = idp b) (c : Int × Int) : upT (T.set k b') c = if c = idp b then some (b'.pt, b'.pn) else upT T c := by
  have hk := (List.getElem?_eq_some_iff.1 hb).1
  unfold upT
  rw [findT_set hb h]
  by_cases hc : c = idp b
  · rw [if_pos hc]
    subst hc
    have : findT T (idp b).1 (idp b).2 = some k := findT_at ha hb
    rw [this, Option.bind_some, List.getElem?_set_self hk]
    rfl
  · rw [if_neg hc]
    cases hf : findT T c.1 c.2 with
    | none => rfl
    | some j =>
      simp only [Option.bind_some]
      have hj : j ≠ k := by
        rintro rfl
        obtain ⟨o, ho, e1, e2⟩ := findT_some hf
        rw [hb] at ho
        cases ho
        exact hc (Prod.ext e1.symm e2.symm)
      rw [List.getElem?_set_ne (fun e => hj e.symm)]

theorem WfT.step {T T' : List OB} {s s' : Nat} {o : OG} (h : WfT T) (hs : StepT T s o T' s') (h0 : ¬ o.ot = 0) : WfT T' := by
  cases hs with
  | make a1 a2 a3 a4 =>
    obtain ⟨r, hr⟩ := h.rank
    refine ⟨?_, ⟨fun c => if c = (o.ot, o.on) then r (o.pt, o.pn) + 1 else r c, fun a b hab => ?_⟩, fun x hx => ?_, fun x hx => ?_⟩
    · unfold ApartT
      rw [List.pairwise_append]
      refine ⟨h.apart, by simp, fun x hx y hy => ?_⟩
      rw [List.mem_singleton.1 hy]
      exact findT_none a4 x hx
    · rw [upT_snoc (x := madeO o) a4] at hab
      have hne : ∀ d, dirT T d.1 d.2 = true → d ≠ (o.ot, o.on) := fun d hd e => by
        subst e
        obtain ⟨k, hk⟩ := dirT_there hd h0
        have a4' : findT T o.ot o.on = none := a4
        rw [a4'] at hk
        cases hk
      by_cases hc : a = idp (madeO o)
      · rw [if_pos hc] at hab
        have hb : b = (o.pt, o.pn) := (Option.some.inj hab).symm
        subst hb
        have : (o.pt, o.pn) ≠ (o.ot, o.on) := hne (o.pt, o.pn) a3
        simp only
        rw [if_neg this, if_pos (show a = (o.ot, o.on) from hc)]
        omega
      · rw [if_neg hc] at hab
        have hlt := hr a b hab
        obtain ⟨k, x, hk, hx, _, _, hb⟩ := upT_some hab
        have hd := h.home x (List.mem_of_getElem? hx)
        have hbn : b ≠ (o.ot, o.on) := hne b (by rw [hb]; exact hd)
        simp only
        rw [if_neg hbn, if_neg (show ¬ a = (o.ot, o.on) from hc)]
        exact hlt
    · rcases List.mem_append.1 hx with hx | hx
      · exact h.own x hx
      · rw [List.mem_singleton.1 hx]; exact h0
    · rcases List.mem_append.1 hx with hx | hx
      · exact dirT_snoc (h.home x hx)
      · rw [List.mem_singleton.1 hx]; exact dirT_snoc a3
  | made => exact h
  | @move k b a1 a2 a3 a4 a5 a6 =>
    have hid : idp (moveO o b) = idp b := rfl
    obtain ⟨b', hb', e1, e2⟩ := findT_some a2
    rw [a3] at hb'
    cases hb'
    obtain ⟨r, hr⟩ := h.rank
    refine ⟨?_, ?_, fun x hx => ?_, fun x hx => ?_⟩
    · rw [apartT_ids, map_set_idp a3 hid, ← apartT_ids]
      exact h.apart
    · haveI : DecidablePred fun c : Int × Int => c = (o.ot, o.on) ∨ Bel T c (o.ot, o.on) := fun _ => Classical.propDecidable _
      refine ⟨fun c => if c = (o.ot, o.on) ∨ Bel T c (o.ot, o.on) then r c + r (o.pt, o.pn) + 1 else r c, fun a d had => ?_⟩
      rw [upT_set h.apart a3 hid] at had
      have hx : idp b = (o.ot, o.on) := Prod.ext e1 e2
      rw [hx] at had
      have hp : ¬ ((o.pt, o.pn) = (o.ot, o.on) ∨ Bel T (o.pt, o.pn) (o.ot, o.on)) := fun e => by
        rcases e with e | e
        · exact a5 (Prod.mk.inj e)
        · exact a6 e
      by_cases hc : a = (o.ot, o.on)
      · rw [if_pos hc] at had
        have hd : d = (o.pt, o.pn) := (Option.some.inj had).symm
        subst hd
        simp only
        rw [if_neg hp, if_pos (.inl hc)]
        omega
      · rw [if_neg hc] at had
        have hlt := hr a d had
        simp only
        by_cases hsd : d = (o.ot, o.on) ∨ Bel T d (o.ot, o.on)
        · have hsa : a = (o.ot, o.on) ∨ Bel T a (o.ot, o.on) := by
            rcases hsd with e | e
            · subst e; exact .inr (.one had)
            · exact .inr (.far had e)
          rw [if_pos hsd, if_pos hsa]
          omega
        · have hsa : ¬ (a = (o.ot, o.on) ∨ Bel T a (o.ot, o.on)) := fun e => by
            rcases e with e | e
            · exact hc e
            · cases e with
              | one h1 => rw [had] at h1; cases h1; exact hsd (.inl rfl)
              | far h1 h2 => rw [had] at h1; cases h1; exact hsd (.inr h2)
          rw [if_neg hsd, if_neg hsa]
          exact hlt
    · rcases List.mem_or_eq_of_mem_set hx with hx | hx
      · exact h.own x hx
      · rw [hx]; exact h.own b (List.mem_of_getElem? a3)
    · rw [dirT_set a3 hid rfl]
      rcases List.mem_or_eq_of_mem_set hx with hx | hx
      · exact h.home x hx
      · rw [hx]; exact a4
  | moved => exact h
  | other => exact h
theorem WfT.fold : ∀ {l : List OG} {T T' : List OB} {s s' : Nat}, WfT T → FoldT T s l T' s' → (∀ o ∈ l, ¬ o.ot = 0) → WfT T'
  | [], _, _, _, _, h, .nil _ _, _ => h
  | _ :: _, _, _, _, _, h, .cons a1 a2, h0 => WfT.fold (h.step a1 (h0 _ (by simp))) a2 (fun o ho => h0 o (by simp [ho]))
theorem StepT.length {T T' : List OB} {s s' : Nat} {o : OG} (h : StepT T s o T' s') : T.length ≤ T'.length ∧ T'.length ≤ T.length + 1 ∧ s ≤ s' ∧ s' ≤ s + 1 := by
  cases h with
  | make => simp
  | made => simp
  | move => simp
  | moved => simp
  | other => simp
end Go.Proofs.Ytgpbphjplbhfmaa.Ck.Y

namespace Go.Proofs.Ytgpbphjplbhfmaa.Ck.Y
open Go.RowKit Go.Maps

abbrev PI := Int × Int
def idL (x : PI) : List Value := [.int .i64 x.1, .int .i64 x.2]
def flatI : List PI → List Value
  | [] => []
  | x :: l => idL x ++ flatI l
theorem idL_length (x : PI) : (idL x).length = 2 := rfl
theorem flatI_length : ∀ l : List PI, (flatI l).length = l.length * 2
  | [] => rfl
  | x :: l => by rw [flatI, List.length_append, idL_length, flatI_length l, List.length_cons]; omega
theorem flatI_append : ∀ l m : List PI, flatI (l ++ m) = flatI l ++ flatI m
  | [], _ => rfl
  | x :: l, m => by rw [List.cons_append, flatI, flatI, flatI_append l m, List.append_assoc]
theorem flatI_at : ∀ (l : List PI) (i j : Nat) (x : PI), l[i]? = some x → j < 2 → (flatI l)[i * 2 + j]? = (idL x)[j]?
  | [], _, _, _, h, _ => by simp at h
  | y :: l, 0, j, x, h, hj => by
    have : y = x := by simpa using h
    subst this
    rw [flatI, Nat.zero_mul, Nat.zero_add, List.getElem?_append_left (by rw [idL_length]; exact hj)]
  | y :: l, i + 1, j, x, h, hj => by
    rw [flatI, List.getElem?_append_right (by rw [idL_length]; omega), idL_length, show (i + 1) * 2 + j - 2 = i * 2 + j by omega]
    exact flatI_at l i j x (by simpa using h) hj
/-- A row of stamps that a slice shows. -/
def RowI (w : World) (base : Nat) (v : Value) (l : List PI) : Prop := w.ownsRow base 31 2 v l.length (flatI l)
theorem RowI.nil (w : World) (base : Nat) : RowI w base (.slice none 0 0) [] := ⟨rfl, .inl ⟨rfl, rfl⟩⟩
theorem RowI.below {w w' : World} {base : Nat} {v : Value} {l : List PI} (h : RowI w base v l) (hb : Below w.heap.size w w') : RowI w' base v l := own_below h hb
theorem RowI.slice {w : World} {base : Nat} {v : Value} {l : List PI} (h : RowI w base v l) : ∃ p cap, v = .slice p l.length cap := own_slice h
theorem RowI.cur {w : World} {base g n cap : Nat} {l : List PI} (h : RowI w base (.slice (some ⟨g, 0, none⟩) n cap) l) : ∃ cur, w.heap[g]? = some (.cells cur 31 (0, 0)) ∧ n = l.length ∧ base ≤ g ∧ n ≤ cap ∧ cap ≤ maxLen ∧ cur.size = cap * 2 ∧ cur.toList.take (n * 2) = flatI l := by
  rcases h.2 with ⟨e, _⟩ | ⟨g', cap', cur, e, hb, hblk, h1, h2, h3, h4⟩
  · cases e
  · cases e
    exact ⟨cur, hblk, rfl, hb, h1, h2, h3, h4⟩
/-- The cells of one of them. -/
theorem RowI.cells {w : World} {base g n cap : Nat} {l : List PI} (h : RowI w base (.slice (some ⟨g, 0, none⟩) n cap) l) {i : Nat} {x : PI} (hx : l[i]? = some x) :
    w.cell? ⟨g, i * 2, none⟩ = some (.int .i64 x.1) ∧ w.cell? ⟨g, i * 2 + 1, none⟩ = some (.int .i64 x.2) := by
  obtain ⟨cur, hblk, hn, _, _, _, _, h4⟩ := h.cur
  have hil := (List.getElem?_eq_some_iff.1 hx).1
  have key : ∀ j, j < 2 → w.cell? ⟨g, i * 2 + j, none⟩ = (idL x)[j]? := fun j hj => by
    rw [cellOf hblk, ← flatI_at l i j x hx hj, ← h4, List.getElem?_take, if_pos (by omega), Array.getElem?_toList]
  exact ⟨key 0 (by omega), key 1 (by omega)⟩

theorem infoIdA : ∃ i, Try.prog.info? 31 = some i ∧ i.zero = some (.agg #[.int .i64 0, .int .i64 0]) ∧ i.size = 2 ∧ i.bytes = 16 := by
  have e : (Try.prog.info? 31).map (fun i => (i.zero, i.size, i.bytes)) = some (some (.agg #[.int .i64 0, .int .i64 0]), 2, 16) := by kernel_rfl
  obtain ⟨i, hi, he⟩ := Option.map_eq_some_iff.1 e
  injection he with h1 h2
  injection h2 with h2 h3
  exact ⟨i, hi, h1, h2, h3⟩

def lessP (a b : PI) : Prop := lessB a.1 a.2 b.1 b.2 = true
theorem lessP_iff (a b : PI) : lessP a b ↔ a.1 < b.1 ∨ (a.1 = b.1 ∧ a.2 < b.2) := by simp [lessP, lessB]
theorem lessP_asymm {a b : PI} (h : lessP a b) (h' : lessP b a) : False := by
  rw [lessP_iff] at h h'
  omega
theorem lessP_trans {a b c : PI} (h : lessP a b) (h' : lessP b c) : lessP a c := by
  rw [lessP_iff] at h h' ⊢
  omega
theorem lessP_or {a b : PI} (h : ¬ lessP a b) (hn : ¬ (a.1 = b.1 ∧ a.2 = b.2)) : lessP b a := by
  rw [lessP_iff] at h ⊢
  omega
/-- The IDs of those whose parent it is, as they stand. -/
def kidsL (T : List OB) (t n : Int) : List PI := (T.filter fun o => sameB o.pt o.pn t n).map idp
/-- Its kids, by rising IDs. -/
structure IsKids (T : List OB) (t n : Int) (m : List PI) : Prop where
  perm : m.Perm (kidsL T t n)
  rise : m.Pairwise lessP
def insI (T : List PI) (k : Nat) (x : PI) : List PI := T.take k ++ x :: T.drop k
theorem insI_perm (T : List PI) (k : Nat) (x : PI) : (insI T k x).Perm (T ++ [x]) := by
  unfold insI
  have h1 : (T.take k ++ x :: T.drop k).Perm (x :: (T.take k ++ T.drop k)) := List.perm_middle
  rw [List.take_append_drop] at h1
  exact h1.trans (List.perm_append_comm (l₁ := [x]) (l₂ := T))
theorem insI_rise {l : List PI} {x : PI} {j : Nat} (h : l.Pairwise lessP) (h1 : ∀ a ∈ l.take j, lessP a x) (h2 : ∀ a ∈ l.drop j, lessP x a) : (insI l j x).Pairwise lessP := by
  unfold insI
  have h' := h
  rw [← List.take_append_drop j l, List.pairwise_append] at h'
  rw [List.pairwise_append]
  refine ⟨h'.1, List.pairwise_cons.2 ⟨h2, h'.2.1⟩, fun a ha b hb => ?_⟩
  rcases List.mem_cons.1 hb with rfl | hb
  · exact h1 a ha
  · exact h'.2.2 a ha b hb

end Go.Proofs.Ytgpbphjplbhfmaa.Ck.Y
