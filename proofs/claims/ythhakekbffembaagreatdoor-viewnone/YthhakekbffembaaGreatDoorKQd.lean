import Derived.Test.YthhakekbffembaaGreatDoorKQa

namespace Go.Proofs.YthhakekbffembaaGreatDoor.Ck.Y
open Go.RowKit Go.Maps
structure OB where
 it : Int
 ii : Int
 pt : Int
 pn : Int
 nm : ByteArray
 dir : Bool
theorem sameB_iff {t n t' n' : Int} : sameB t n t' n' = true ↔ t = t' ∧ n = n' := by simp [sameB]
theorem sameB_no {t n t' n' : Int} : sameB t n t' n' = false ↔ ¬ (t = t' ∧ n = n') := by rw [← sameB_iff]; simp
def rootB (t n : Int) : Bool := decide (t = 0) && decide (n = 0)
def trashB (t n : Int) : Bool := decide (t = 0) && decide (n = 1)
def findT (T : List OB) (t n : Int) : Option Nat := T.findIdx? fun o => sameB o.it o.ii t n
theorem findT_some {T : List OB} {t n : Int} {k : Nat} (h : findT T t n = some k) : ∃ o, T[k]? = some o ∧ o.it = t ∧ o.ii = n := by
 obtain ⟨hk, h1, _⟩ := List.findIdx?_eq_some_iff_getElem.1 h
 exact ⟨T[k], List.getElem?_eq_getElem hk, sameB_iff.1 h1⟩
theorem findT_none {T : List OB} {t n : Int} (h : findT T t n = none) : ∀ o ∈ T, ¬ (o.it = t ∧ o.ii = n) := by
 intro o ho
 have := (List.findIdx?_eq_none_iff.1 h) o ho
 exact sameB_no.1 this
def ApartT (T : List OB) : Prop := T.Pairwise fun a b => ¬ (a.it = b.it ∧ a.ii = b.ii)
theorem findT_at {T : List OB} (ha : ApartT T) {k : Nat} {o : OB} (h : T[k]? = some o) : findT T o.it o.ii = some k := by
 obtain ⟨hk, e⟩ := List.getElem?_eq_some_iff.1 h
 refine List.findIdx?_eq_some_iff_getElem.2 ⟨hk, by rw [e]; exact sameB_iff.2 ⟨rfl, rfl⟩, fun j hj => ?_⟩
 have := (List.pairwise_iff_getElem.1 ha) j k (by omega) hk hj
 rw [e] at this
 simpa [sameB] using this
def dirT (T : List OB) (t n : Int) : Bool := rootB t n || trashB t n || (match findT T t n with | some k => (T[k]?.map (·.dir)).getD false | none => false)
def upT (T : List OB) (a : Int × Int) : Option (Int × Int) := (findT T a.1 a.2).bind fun k => T[k]?.map fun o => (o.pt, o.pn)
theorem upT_some {T : List OB} {a b : Int × Int} (h : upT T a = some b) : ∃ k o, findT T a.1 a.2 = some k ∧ T[k]? = some o ∧ o.it = a.1 ∧ o.ii = a.2 ∧ b = (o.pt, o.pn) := by
 unfold upT at h
 obtain ⟨k, hk, h1⟩ := Option.bind_eq_some_iff.1 h
 obtain ⟨o, ho, e1, e2⟩ := findT_some hk
 rw [ho] at h1
 exact ⟨k, o, hk, ho, e1, e2, by simpa using h1.symm⟩
theorem upT_at {T : List OB} {a : Int × Int} {k : Nat} {o : OB} (h : findT T a.1 a.2 = some k) (ho : T[k]? = some o) : upT T a = some (o.pt, o.pn) := by
 unfold upT
 rw [h, Option.bind_some, ho]
 rfl
inductive Bel (T : List OB) : Int × Int → Int × Int → Prop
 | one {a b : Int × Int} : upT T a = some b → Bel T a b
 | far {a b c : Int × Int} : upT T a = some c → Bel T c b → Bel T a b
theorem Bel.not {T : List OB} {a b : Int × Int} (h : upT T a = none) : ¬ Bel T a b := by
 intro hb
 cases hb with
 | one h1 => rw [h] at h1; cases h1
 | far h1 _ => rw [h] at h1; cases h1
theorem Bel.next {T : List OB} {a b c : Int × Int} (h : upT T a = some c) (hn : c ≠ b) : Bel T a b ↔ Bel T c b := by
 constructor
 · intro hb
   cases hb with
   | one h1 => rw [h] at h1; cases h1; exact absurd rfl hn
   | far h1 h2 => rw [h] at h1; cases h1; exact h2
 · exact fun hb => .far h hb
def Ranked (T : List OB) : Prop := ∃ r : Int × Int → Nat, ∀ a b, upT T a = some b → r b < r a
theorem Ranked.bel {T : List OB} {r : Int × Int → Nat} (h : ∀ a b, upT T a = some b → r b < r a) {a b : Int × Int} (hb : Bel T a b) : r b < r a := by
 induction hb with
 | one h1 => exact h _ _ h1
 | far h1 _ ih => have := h _ _ h1; omega
theorem Ranked.self {T : List OB} (h : Ranked T) (a : Int × Int) : ¬ Bel T a a := by
 obtain ⟨r, hr⟩ := h
 intro hb
 have := Ranked.bel hr hb
 omega
structure WfT (T : List OB) : Prop where
 apart : ApartT T
 rank : Ranked T
 own : ∀ o ∈ T, ¬ o.it = 0
 home : ∀ o ∈ T, dirT T o.pt o.pn = true
theorem WfT.nil : WfT [] := ⟨List.Pairwise.nil, ⟨fun _ => 0, fun a b h => by simp [upT, findT] at h⟩, fun o ho => by simp at ho, fun o ho => by simp at ho⟩
def madeO (o : OG) : OB := ⟨o.ot, o.on, o.pt, o.pn, o.nm, decide (o.kd = 1)⟩
def moveO (o : OG) (b : OB) : OB := ⟨b.it, b.ii, o.pt, o.pn, o.nm, b.dir⟩
inductive StepT (T : List OB) (s : Nat) (o : OG) : List OB → Nat → Prop
 | make : (o.kd = 1 ∨ o.kd = 2) → trashB o.pt o.pn = false → dirT T o.pt o.pn = true → findT T o.ot o.on = none → StepT T s o (T ++ [madeO o]) s
 | made : (o.kd = 1 ∨ o.kd = 2) → (trashB o.pt o.pn = true ∨ dirT T o.pt o.pn = false ∨ ∃ k, findT T o.ot o.on = some k) → StepT T s o T (s + 1)
 | move {k : Nat} {b : OB} : o.kd = 3 → findT T o.ot o.on = some k → T[k]? = some b → dirT T o.pt o.pn = true → ¬ (o.pt = o.ot ∧ o.pn = o.on) → ¬ Bel T (o.pt, o.pn) (o.ot, o.on) → StepT T s o (T.set k (moveO o b)) s
 | moved : o.kd = 3 → (findT T o.ot o.on = none ∨ dirT T o.pt o.pn = false ∨ (o.pt = o.ot ∧ o.pn = o.on) ∨ Bel T (o.pt, o.pn) (o.ot, o.on)) → StepT T s o T (s + 1)
 | other : ¬ (o.kd = 1 ∨ o.kd = 2 ∨ o.kd = 3) → StepT T s o T s
theorem StepT.total (T : List OB) (s : Nat) (o : OG) : ∃ T' s', StepT T s o T' s' := by
 by_cases h1 : o.kd = 1 ∨ o.kd = 2
 · cases ht : trashB o.pt o.pn with
   | true => exact ⟨_, _, .made h1 (.inl ht)⟩
   | false =>
     cases hd : dirT T o.pt o.pn with
     | false => exact ⟨_, _, .made h1 (.inr (.inl hd))⟩
     | true =>
       cases hf : findT T o.ot o.on with
       | some k => exact ⟨_, _, .made h1 (.inr (.inr ⟨k, hf⟩))⟩
       | none => exact ⟨_, _, .make h1 ht hd hf⟩
 · by_cases h3 : o.kd = 3
   · cases hf : findT T o.ot o.on with
     | none => exact ⟨_, _, .moved h3 (.inl hf)⟩
     | some k =>
       obtain ⟨b, hb, _⟩ := findT_some hf
       cases hd : dirT T o.pt o.pn with
       | false => exact ⟨_, _, .moved h3 (.inr (.inl hd))⟩
       | true =>
         by_cases hs : o.pt = o.ot ∧ o.pn = o.on
         · exact ⟨_, _, .moved h3 (.inr (.inr (.inl hs)))⟩
         · by_cases hB : Bel T (o.pt, o.pn) (o.ot, o.on)
           · exact ⟨_, _, .moved h3 (.inr (.inr (.inr hB)))⟩
           · exact ⟨_, _, .move h3 hf hb hd hs hB⟩
   · exact ⟨_, _, .other (by omega)⟩
theorem StepT.unique {T T1 T2 : List OB} {s s1 s2 : Nat} {o : OG} (h1 : StepT T s o T1 s1) (h2 : StepT T s o T2 s2) : T1 = T2 ∧ s1 = s2 := by
 cases h1 with
 | make a1 a2 a3 a4 =>
   cases h2 with
   | make => exact ⟨rfl, rfl⟩
   | made _ b2 =>
     rcases b2 with b2 | b2 | ⟨k, b2⟩
     · rw [a2] at b2; cases b2
     · rw [a3] at b2; cases b2
     · rw [a4] at b2; cases b2
   | move b1 => omega
   | moved b1 => omega
   | other b1 => omega
 | made a1 a2 =>
   cases h2 with
   | make b1 b2 b3 b4 =>
     rcases a2 with a2 | a2 | ⟨k, a2⟩
     · rw [b2] at a2; cases a2
     · rw [b3] at a2; cases a2
     · rw [b4] at a2; cases a2
   | made => exact ⟨rfl, rfl⟩
   | move b1 => omega
   | moved b1 => omega
   | other b1 => omega
 | move a1 a2 a3 a4 a5 a6 =>
   cases h2 with
   | make b1 => omega
   | made b1 => omega
   | move b1 b2 b3 =>
     rw [a2] at b2
     cases b2
     rw [a3] at b3
     cases b3
     exact ⟨rfl, rfl⟩
   | moved _ b2 =>
     rcases b2 with b2 | b2 | b2 | b2
     · rw [a2] at b2; cases b2
     · rw [a4] at b2; cases b2
     · exact absurd b2 a5
     · exact absurd b2 a6
   | other b1 => omega
 | moved a1 a2 =>
   cases h2 with
   | make b1 => omega
   | made b1 => omega
   | move b1 b2 b3 b4 b5 b6 =>
     rcases a2 with a2 | a2 | a2 | a2
     · rw [b2] at a2; cases a2
     · rw [b4] at a2; cases a2
     · exact absurd a2 b5
     · exact absurd a2 b6
   | moved => exact ⟨rfl, rfl⟩
   | other b1 => omega
 | other a1 =>
   cases h2 with
   | make b1 => omega
   | made b1 => omega
   | move b1 => omega
   | moved b1 => omega
   | other => exact ⟨rfl, rfl⟩
inductive FoldT : List OB → Nat → List OG → List OB → Nat → Prop
 | nil (T : List OB) (s : Nat) : FoldT T s [] T s
 | cons {T T1 T2 : List OB} {s s1 s2 : Nat} {o : OG} {l : List OG} : StepT T s o T1 s1 → FoldT T1 s1 l T2 s2 → FoldT T s (o :: l) T2 s2
theorem FoldT.unique : ∀ {l : List OG} {T T1 T2 : List OB} {s s1 s2 : Nat}, FoldT T s l T1 s1 → FoldT T s l T2 s2 → T1 = T2 ∧ s1 = s2
 | [], _, _, _, _, _, _, .nil _ _, .nil _ _ => ⟨rfl, rfl⟩
 | _ :: _, _, _, _, _, _, _, .cons a1 a2, .cons b1 b2 => by
   obtain ⟨rfl, rfl⟩ := a1.unique b1
   exact FoldT.unique a2 b2
theorem FoldT.snoc : ∀ {l : List OG} {T T1 T2 : List OB} {s s1 s2 : Nat} {o : OG}, FoldT T s l T1 s1 → StepT T1 s1 o T2 s2 → FoldT T s (l ++ [o]) T2 s2
 | [], _, _, _, _, _, _, _, .nil _ _, h => .cons h (.nil _ _)
 | _ :: _, _, _, _, _, _, _, _, .cons a1 a2, h => .cons a1 (FoldT.snoc a2 h)
end Go.Proofs.YthhakekbffembaaGreatDoor.Ck.Y
