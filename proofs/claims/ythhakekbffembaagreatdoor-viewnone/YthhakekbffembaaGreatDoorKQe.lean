import Derived.Test.YthhakekbffembaaGreatDoorKQd

namespace Go.Proofs.YthhakekbffembaaGreatDoor.Ck.Y
open Go.RowKit Go.Maps
def idp (o : OB) : Int × Int := (o.it, o.ii)
theorem findT_ids (T : List OB) (t n : Int) : findT T t n = (T.map idp).findIdx? fun q => sameB q.1 q.2 t n := by
 rw [List.findIdx?_map]
 rfl
theorem findT_snoc (T : List OB) (x : OB) (t n : Int) : findT (T ++ [x]) t n = match findT T t n with | some k => some k | none => if x.it = t ∧ x.ii = n then some T.length else none := by
 unfold findT
 rw [List.findIdx?_append]
 cases h : T.findIdx? (fun o => sameB o.it o.ii t n) with
 | some k => rfl
 | none =>
   by_cases hx : x.it = t ∧ x.ii = n
   · obtain ⟨rfl, rfl⟩ := hx
     have : sameB x.it x.ii x.it x.ii = true := sameB_iff.2 ⟨rfl, rfl⟩
     simp [List.findIdx?_cons, this]
   · have : sameB x.it x.ii t n = false := sameB_no.2 hx
     simp [List.findIdx?_cons, this, hx]
theorem map_set_idp {T : List OB} {k : Nat} {b b' : OB} (hb : T[k]? = some b) (h : idp b' = idp b) : (T.set k b').map idp = T.map idp := by
 rw [List.map_set, h]
 have hk := (List.getElem?_eq_some_iff.1 hb).1
 have e : idp b = (T.map idp)[k]'(by simpa using hk) := by
   rw [List.getElem_map, (List.getElem?_eq_some_iff.1 hb).2]
 rw [e, List.set_getElem_self]
theorem findT_set {T : List OB} {k : Nat} {b b' : OB} (hb : T[k]? = some b) (h : idp b' = idp b) (t n : Int) : findT (T.set k b') t n = findT T t n := by
 rw [findT_ids, findT_ids, map_set_idp hb h]
theorem apartT_ids {T : List OB} : ApartT T ↔ (T.map idp).Pairwise fun a b => ¬ (a.1 = b.1 ∧ a.2 = b.2) := by
 unfold ApartT
 rw [List.pairwise_map]
 rfl
theorem dirT_set {T : List OB} {k : Nat} {b b' : OB} (hb : T[k]? = some b) (h : idp b' = idp b) (hd : b'.dir = b.dir) (t n : Int) : dirT (T.set k b') t n = dirT T t n := by
 unfold dirT
 rw [findT_set hb h]
 cases findT T t n with
 | none => rfl
 | some j =>
   simp only
   by_cases hj : j = k
   · subst hj
     have hk := (List.getElem?_eq_some_iff.1 hb).1
     rw [List.getElem?_set_self hk, hb]
     simp [hd]
   · rw [List.getElem?_set_ne (fun e => hj e.symm)]
theorem dirT_snoc {T : List OB} {x : OB} {t n : Int} (h : dirT T t n = true) : dirT (T ++ [x]) t n = true := by
 unfold dirT at *
 rw [findT_snoc]
 cases hf : findT T t n with
 | none =>
   rw [hf] at h
   simp at h
   simp [h]
 | some k =>
   rw [hf] at h
   obtain ⟨o, ho, _⟩ := findT_some hf
   have hk := (List.getElem?_eq_some_iff.1 ho).1
   simp only
   rw [List.getElem?_append_left hk]
   exact h
theorem dirT_there {T : List OB} {t n : Int} (h : dirT T t n = true) (h0 : ¬ t = 0) : ∃ k, findT T t n = some k := by
 unfold dirT at h
 cases hf : findT T t n with
 | some k => exact ⟨k, rfl⟩
 | none =>
   rw [hf] at h
   simp [rootB, trashB, h0] at h
theorem upT_snoc {T : List OB} {x : OB} (hx : findT T x.it x.ii = none) (c : Int × Int) : upT (T ++ [x]) c = if c = idp x then some (x.pt, x.pn) else upT T c := by
 unfold upT
 rw [findT_snoc]
 by_cases hc : c = idp x
 · subst hc
   have : findT T (idp x).1 (idp x).2 = none := hx
   rw [this]
   simp [idp]
 · rw [if_neg hc]
   cases hf : findT T c.1 c.2 with
   | none =>
     have : ¬ (x.it = c.1 ∧ x.ii = c.2) := fun ⟨h1, h2⟩ => hc (Prod.ext h1.symm h2.symm)
     simp [this]
   | some k =>
     obtain ⟨o, ho, _⟩ := findT_some hf
     have hk := (List.getElem?_eq_some_iff.1 ho).1
     simp only [Option.bind_some]
     rw [List.getElem?_append_left hk]
theorem upT_set {T : List OB} {k : Nat} {b b' : OB} (ha : ApartT T) (hb : T[k]? = some b) (h : idp b' = idp b) (c : Int × Int) : upT (T.set k b') c = if c = idp b then some (b'.pt, b'.pn) else upT T c := by
 have hk := (List.getElem?_eq_some_iff.1 hb).1
 unfold upT
 rw [findT_set hb h]
 by_cases hc : c = idp b
 · rw [if_pos hc]
   subst hc
   have : findT T (idp b).1 (idp b).2 = some k := findT_at ha hb
   rw [this, Option.bind_some, List.getElem?_set_self hk]
   rfl
 · rw [if_neg hc]
   cases hf : findT T c.1 c.2 with
   | none => rfl
   | some j =>
     simp only [Option.bind_some]
     have hj : j ≠ k := by
       rintro rfl
       obtain ⟨o, ho, e1, e2⟩ := findT_some hf
       rw [hb] at ho
       cases ho
       exact hc (Prod.ext e1.symm e2.symm)
     rw [List.getElem?_set_ne (fun e => hj e.symm)]
theorem WfT.step {T T' : List OB} {s s' : Nat} {o : OG} (h : WfT T) (hs : StepT T s o T' s') (h0 : ¬ o.ot = 0) : WfT T' := by
 cases hs with
 | make a1 a2 a3 a4 =>
   obtain ⟨r, hr⟩ := h.rank
   refine ⟨?_, ⟨fun c => if c = (o.ot, o.on) then r (o.pt, o.pn) + 1 else r c, fun a b hab => ?_⟩, fun x hx => ?_, fun x hx => ?_⟩
   · unfold ApartT
     rw [List.pairwise_append]
     refine ⟨h.apart, by simp, fun x hx y hy => ?_⟩
     rw [List.mem_singleton.1 hy]
     exact findT_none a4 x hx
   · rw [upT_snoc (x := madeO o) a4] at hab
     have hne : ∀ d, dirT T d.1 d.2 = true → d ≠ (o.ot, o.on) := fun d hd e => by
       subst e
       obtain ⟨k, hk⟩ := dirT_there hd h0
       have a4' : findT T o.ot o.on = none := a4
       rw [a4'] at hk
       cases hk
     by_cases hc : a = idp (madeO o)
     · rw [if_pos hc] at hab
       have hb : b = (o.pt, o.pn) := (Option.some.inj hab).symm
       subst hb
       have : (o.pt, o.pn) ≠ (o.ot, o.on) := hne (o.pt, o.pn) a3
       simp only
       rw [if_neg this, if_pos (show a = (o.ot, o.on) from hc)]
       omega
     · rw [if_neg hc] at hab
       have hlt := hr a b hab
       obtain ⟨k, x, hk, hx, _, _, hb⟩ := upT_some hab
       have hd := h.home x (List.mem_of_getElem? hx)
       have hbn : b ≠ (o.ot, o.on) := hne b (by rw [hb]; exact hd)
       simp only
       rw [if_neg hbn, if_neg (show ¬ a = (o.ot, o.on) from hc)]
       exact hlt
   · rcases List.mem_append.1 hx with hx | hx
     · exact h.own x hx
     · rw [List.mem_singleton.1 hx]; exact h0
   · rcases List.mem_append.1 hx with hx | hx
     · exact dirT_snoc (h.home x hx)
     · rw [List.mem_singleton.1 hx]; exact dirT_snoc a3
 | made => exact h
 | @move k b a1 a2 a3 a4 a5 a6 =>
   have hid : idp (moveO o b) = idp b := rfl
   obtain ⟨b', hb', e1, e2⟩ := findT_some a2
   rw [a3] at hb'
   cases hb'
   obtain ⟨r, hr⟩ := h.rank
   refine ⟨?_, ?_, fun x hx => ?_, fun x hx => ?_⟩
   · rw [apartT_ids, map_set_idp a3 hid, ← apartT_ids]
     exact h.apart
   · haveI : DecidablePred fun c : Int × Int => c = (o.ot, o.on) ∨ Bel T c (o.ot, o.on) := fun _ => Classical.propDecidable _
     refine ⟨fun c => if c = (o.ot, o.on) ∨ Bel T c (o.ot, o.on) then r c + r (o.pt, o.pn) + 1 else r c, fun a d had => ?_⟩
     rw [upT_set h.apart a3 hid] at had
     have hx : idp b = (o.ot, o.on) := Prod.ext e1 e2
     rw [hx] at had
     have hp : ¬ ((o.pt, o.pn) = (o.ot, o.on) ∨ Bel T (o.pt, o.pn) (o.ot, o.on)) := fun e => by
       rcases e with e | e
       · exact a5 (Prod.mk.inj e)
       · exact a6 e
     by_cases hc : a = (o.ot, o.on)
     · rw [if_pos hc] at had
       have hd : d = (o.pt, o.pn) := (Option.some.inj had).symm
       subst hd
       simp only
       rw [if_neg hp, if_pos (.inl hc)]
       omega
     · rw [if_neg hc] at had
       have hlt := hr a d had
       simp only
       by_cases hsd : d = (o.ot, o.on) ∨ Bel T d (o.ot, o.on)
       · have hsa : a = (o.ot, o.on) ∨ Bel T a (o.ot, o.on) := by
           rcases hsd with e | e
           · subst e; exact .inr (.one had)
           · exact .inr (.far had e)
         rw [if_pos hsd, if_pos hsa]
         omega
       · have hsa : ¬ (a = (o.ot, o.on) ∨ Bel T a (o.ot, o.on)) := fun e => by
           rcases e with e | e
           · exact hc e
           · cases e with
             | one h1 => rw [had] at h1; cases h1; exact hsd (.inl rfl)
             | far h1 h2 => rw [had] at h1; cases h1; exact hsd (.inr h2)
         rw [if_neg hsd, if_neg hsa]
         exact hlt
   · rcases List.mem_or_eq_of_mem_set hx with hx | hx
     · exact h.own x hx
     · rw [hx]; exact h.own b (List.mem_of_getElem? a3)
   · rw [dirT_set a3 hid rfl]
     rcases List.mem_or_eq_of_mem_set hx with hx | hx
     · exact h.home x hx
     · rw [hx]; exact a4
 | moved => exact h
 | other => exact h
theorem WfT.fold : ∀ {l : List OG} {T T' : List OB} {s s' : Nat}, WfT T → FoldT T s l T' s' → (∀ o ∈ l, ¬ o.ot = 0) → WfT T'
 | [], _, _, _, _, h, .nil _ _, _ => h
 | _ :: _, _, _, _, _, h, .cons a1 a2, h0 => WfT.fold (h.step a1 (h0 _ (by simp))) a2 (fun o ho => h0 o (by simp [ho]))
end Go.Proofs.YthhakekbffembaaGreatDoor.Ck.Y
