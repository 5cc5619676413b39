/-
  TreeSound: trees alone.
-/
import Derived.Test.YtgpbphjplbhfmaaQPz
import Derived.Test.YtgpbphjplbhfmaaKPsa
import Derived.Laws.Tables

/-
  A tree and what else lies beside it; operations in the order of their stamps.
-/
namespace Go.Proofs.Ytgpbphjplbhfmaa.Ck.Y.S
open Go.RowKit Go.Maps Go.Lib

/-- The tree of the operations l, beside blocks E of somebody else's; all that was there at u and is not the tree's (F0) is as it was. -/
def TK (u : World) (F0 : Nat → Prop) (gt : Nat) (l : List OG) (E : List Nat) (w : World) : Prop := ∃ F, TW F w gt l ∧ (∀ b, F b → F0 b ∨ u.heap.size ≤ b) ∧ (∀ b ∈ E, ¬ F b ∧ b < w.heap.size) ∧ Only F0 u w
/-- The blocks E hold what they held. -/
def EK (E : List Nat) (w w' : World) : Prop := ∀ b ∈ E, w'.heap[b]? = w.heap[b]?
section
variable {u w w' : World} {F0 : Nat → Prop} {gt s : Nat} {l : List OG} {E : List Nat} {T : List OB}
theorem TK.start (h : TW F0 u gt l) : TK u F0 gt l [] u := ⟨F0, h, fun b hb => .inl hb, fun b hb => by simp at hb, Only.refl _ _⟩
theorem TK.only (h : TK u F0 gt l E w) : Only F0 u w := by obtain ⟨F, _, _, _, h⟩ := h; exact h
theorem TK.size (h : TK u F0 gt l E w) : u.heap.size ≤ w.heap.size := h.only.size
theorem EK.below (hE : ∀ b ∈ E, b < w.heap.size) (hb : Below w.heap.size w w') : EK E w w' := fun b h => hb.block b (hE b h)
theorem TK.lt (h : TK u F0 gt l E w) : ∀ b ∈ E, b < w.heap.size := by obtain ⟨F, _, _, h, _⟩ := h; exact fun b hb => (h b hb).2
theorem TK.below (h : TK u F0 gt l E w) (hb : Below w.heap.size w w') : TK u F0 gt l E w' ∧ EK E w w' := by
  obtain ⟨F, h1, h2, h4, h3⟩ := h
  exact ⟨⟨F, h1.below hb, h2, fun b hE => ⟨(h4 b hE).1, Nat.lt_of_lt_of_le (h4 b hE).2 hb.size⟩, h3.next (Below.only hb _)⟩, EK.below (fun b hE => (h4 b hE).2) hb⟩
theorem TK.row (h : TK u F0 gt l E w) {base : Nat} {v : Value} {m : List OG} (hr : RowG u base v m) (hn : ∀ g, v.ownBlock = some g → ¬ F0 g) : RowG w base v m := hr.kept h.only hn
theorem TK.ubelow (h : TK u F0 gt l E w) {n : Nat} (hn : n ≤ u.heap.size) (hF : ∀ b, F0 b → n ≤ b) : Below n u w := h.only.below hn hF
/-- A new block. -/
theorem TK.new (h : TK u F0 gt l E w) (o : Obj) : TK u F0 gt l (w.heap.size :: E) (w.alloc o) ∧ EK E w (w.alloc o) := by
  have hb : Below w.heap.size w (w.alloc o) := (Below.refl w.heap.size w).alloc (Nat.le_refl _) _
  obtain ⟨h1, h2⟩ := h.below hb
  obtain ⟨F, k1, k2, k3, k4⟩ := h
  refine ⟨⟨F, k1.below hb, k2, fun b hE => ?_, k4.next (Below.only hb _)⟩, h2⟩
  rcases List.mem_cons.1 hE with rfl | hE
  · exact ⟨fun hf => by have := k1.low _ hf; omega, by simp⟩
  · have := (k3 b hE).2
    exact ⟨(k3 b hE).1, by simp; omega⟩
/-- One of E's blocks is written. -/
theorem TK.put (h : TK u F0 gt l E w) {b : Nat} (hb : b ∈ E) (hu : u.heap.size ≤ b) (ho : Only (· = b) w w') : TK u F0 gt l E w' := by
  obtain ⟨F, k1, k2, k3, k4⟩ := h
  exact ⟨F, k1.kept ho (fun c hc e => (k3 b hb).1 (by rw [← show c = b from e]; exact hc)), k2, fun c hc => ⟨(k3 c hc).1, Nat.lt_of_lt_of_le (k3 c hc).2 ho.size⟩, k4.trans ho fun c hc => .inr (by rw [show c = b from hc]; exact hu)⟩
theorem TK.sub (h : TK u F0 gt l E w) {E' : List Nat} (hs : ∀ b ∈ E', b ∈ E) : TK u F0 gt l E' w := by
  obtain ⟨F, k1, k2, k3, k4⟩ := h
  exact ⟨F, k1, k2, fun b hb => k3 b (hs b hb), k4⟩
/-- A call of the tree's. -/
theorem TK.call {f : FuncId} {args : Array Value} {R : Ending → World → Prop} {l' : List OG} (h : TK u F0 gt l E w) (hc : ∀ F, TW F w gt l → Calls Try.prog f args w fun e w' => R e w' ∧ TW (growF F w w') w' gt l' ∧ Only F w w') :
    Calls Try.prog f args w fun e w' => R e w' ∧ TK u F0 gt l' E w' ∧ EK E w w' := by
  obtain ⟨F, h1, h2, h4, h3⟩ := h
  refine (hc F h1).mono ?_
  rintro e w' ⟨hR, k1, k2⟩
  refine ⟨hR, ⟨_, k1, fun b hb => ?_, fun b hE => ⟨?_, Nat.lt_of_lt_of_le (h4 b hE).2 k2.size⟩, h3.trans k2 h2⟩, fun b hE => k2.block b (h4 b hE).2 (h4 b hE).1⟩
  · rcases hb with hb | hb
    · exact h2 b hb
    · have := h3.size; exact .inr (by omega)
  · rintro (hf | hf)
    · exact (h4 b hE).1 hf
    · have := (h4 b hE).2; omega
theorem TK.has (h : TK u F0 gt l E w) (hf : FoldT [] 0 l T s) (t n : Int) :
    Calls Try.prog 11 #[.pointer (some ⟨gt, 0, none⟩), idv t n] w fun e w' => e = .returned (.bool (hasT T (t, n))) ∧ TK u F0 gt l E w' ∧ EK E w w' :=
  h.call fun _ hF => has_any hF hf t n
theorem TK.dir (h : TK u F0 gt l E w) (hf : FoldT [] 0 l T s) (t n : Int) :
    Calls Try.prog 14 #[.pointer (some ⟨gt, 0, none⟩), idv t n] w fun e w' => e = .returned (.bool (dirT T t n)) ∧ TK u F0 gt l E w' ∧ EK E w w' :=
  h.call fun _ hF => dir_any hF hf t n
theorem TK.parent (h : TK u F0 gt l E w) (hf : FoldT [] 0 l T s) (t n : Int) :
    Calls Try.prog 12 #[.pointer (some ⟨gt, 0, none⟩), idv t n] w fun e w' => e = .returned (parV T (t, n)) ∧ TK u F0 gt l E w' ∧ EK E w w' :=
  h.call fun _ hF => parent_any hF hf t n
theorem TK.bel (h : TK u F0 gt l E w) (hf : FoldT [] 0 l T s) (t n t2 n2 : Int) {r : Bool} (hr : r = true ↔ Bel T (t, n) (t2, n2)) :
    Calls Try.prog 13 #[.pointer (some ⟨gt, 0, none⟩), idv t n, idv t2 n2] w fun e w' => e = .returned (.bool r) ∧ TK u F0 gt l E w' ∧ EK E w w' :=
  h.call fun _ hF => (pbelow_any hF hf t n t2 n2).mono fun _ _ ⟨r', he, hr', h1⟩ => by
    have : r' = r := Bool.eq_iff_iff.2 (hr'.trans hr.symm)
    subst this
    exact ⟨he, h1⟩
theorem TK.live (h : TK u F0 gt l E w) (hf : FoldT [] 0 l T s) (t n : Int) {r : Bool} (hr : r = true ↔ (t = 0 ∧ n = 0) ∨ Bel T (t, n) (0, 0)) :
    Calls Try.prog 17 #[.pointer (some ⟨gt, 0, none⟩), idv t n] w fun e w' => e = .returned (.bool r) ∧ TK u F0 gt l E w' ∧ EK E w w' :=
  h.call fun _ hF => (plive_any hF hf t n).mono fun _ _ ⟨r', he, hr', h1⟩ => by
    have : r' = r := Bool.eq_iff_iff.2 (hr'.trans hr.symm)
    subst this
    exact ⟨he, h1⟩
/-- What Kids answers. -/
def KidsR (T : List OB) (t n : Int) (e : Ending) (w' : World) : Prop := ∃ v m, e = .returned v ∧ RowI w' 0 v m ∧ IsKids T t n m ∧ m.length ≤ 900
theorem TK.kids (h : TK u F0 gt l E w) (hf : FoldT [] 0 l T s) (t n : Int) :
    Calls Try.prog 15 #[.pointer (some ⟨gt, 0, none⟩), idv t n] w fun e w' => KidsR T t n e w' ∧ TK u F0 gt l E w' ∧ EK E w w' :=
  h.call fun _ hF => (pkids_any hF hf t n).mono fun _ _ ⟨v, m, h1, h2, h3, h4, h5⟩ => ⟨⟨v, m, h1, h2, h3, h4⟩, h5⟩
theorem WIn.op {o : OG} {ns : List Int} {bs : List (BitVec 8)} (h : WIn w o ns bs) : OpIn w o ns := ⟨h.seen, h.sl, h.sc, h.le, by have := h.dl; have := h.bl; omega, h.nm⟩
theorem TK.apply (h : TK u F0 gt l E w) {o : OG} {ns : List Int} {bs : List (BitVec 8)} (hin : WIn w o ns bs) (hm : mayW o ns = true) (hnew : ∀ x ∈ l, (x.t, x.n) ≠ (o.t, o.n)) (hl7 : l.length ≤ 700) :
    Calls Try.prog 10 #[.pointer (some ⟨gt, 0, none⟩), opgv o] w fun e w' => ∃ i, e = .returned (.tuple #[.int .i64 ((l.length - i : Nat) : Nat), .int .i64 0]) ∧ InsAt l (o.t, o.n) i ∧ TK u F0 gt (l.take i ++ o :: l.drop i) E w' ∧ EK E w w' := by
  obtain ⟨F, h1, h2, h4, h3⟩ := h
  refine (apply_new h1 hin.op hm hnew hl7).mono ?_
  rintro e w' ⟨i, he, hi, k1, k2⟩
  refine ⟨i, he, hi, ⟨_, k1, fun b hb => ?_, fun b hE => ⟨?_, Nat.lt_of_lt_of_le (h4 b hE).2 k2.size⟩, h3.trans k2 h2⟩, fun b hE => k2.block b (h4 b hE).2 (h4 b hE).1⟩
  · rcases hb with hb | hb
    · exact h2 b hb
    · have := h3.size; exact .inr (by omega)
  · rintro (hf | hf)
    · exact (h4 b hE).1 hf
    · have := (h4 b hE).2; omega
end
/-- The operations m, by their stamps. -/
structure Srt (l m : List OG) : Prop where
  rise : l.Pairwise fun a b => lessP (a.t, a.n) (b.t, b.n)
  perm : l.Perm m
theorem Srt.nil : Srt [] [] := ⟨List.Pairwise.nil, List.Perm.refl _⟩
theorem Srt.ins {l m : List OG} {o : OG} {i : Nat} (h : Srt l m) (hi : InsAt l (o.t, o.n) i) : Srt (l.take i ++ o :: l.drop i) (m ++ [o]) := by
  have h' := h.rise
  rw [← List.take_append_drop i l, List.pairwise_append] at h'
  refine ⟨List.pairwise_append.2 ⟨h'.1, List.pairwise_cons.2 ⟨fun b hb => ?_, h'.2.1⟩, fun a ha b hb => ?_⟩, ?_⟩
  · obtain ⟨k, hk, e⟩ := List.getElem_of_mem hb
    rw [List.length_drop] at hk
    exact hi.hi (i + k) b (by omega) (by rw [List.getElem?_eq_getElem (by omega), ← e, List.getElem_drop])
  · rcases List.mem_cons.1 hb with rfl | hb
    · obtain ⟨k, hk, e⟩ := List.getElem_of_mem ha
      rw [List.length_take] at hk
      exact hi.lo k a (by omega) (by rw [List.getElem?_eq_getElem (by omega), ← e, List.getElem_take])
    · exact h'.2.2 a ha b hb
  · have h1 : (l.take i ++ o :: l.drop i).Perm (o :: (l.take i ++ l.drop i)) := List.perm_middle
    rw [List.take_append_drop] at h1
    exact (h1.trans (h.perm.cons o)).trans (List.perm_append_comm (l₁ := [o]) (l₂ := m))
theorem Srt.len {l m : List OG} (h : Srt l m) : l.length = m.length := h.perm.length_eq

/-- A struct of its own is written. -/
theorem wpList_putW {w : World} {ops : Array Oper} {rest : List Oper} {o : Oper} {a : Act} {Q : Exit → Act → World → Prop} (hgd : o.guard = none) (ty : TypeId) (x y : Operand) (ho : o.op = .store ty x y)
    (g : Nat) (cells : Array Value) (hx : a.eval x = .pointer (some ⟨g, 0, none⟩)) (hy : a.eval y = .agg cells) (t : TypeId) (old : Array Value) (hg : Hid (w.heap[g]? = some (.cells old t (0, 0)))) (hi : (Try.prog.info? ty).map (·.size) = some cells.size) (hold : old.size = cells.size) (h1 : cells.all (·.oneCell') = true)
    (h : ∀ w', Hid (w'.heap[g]? = some (.cells cells t (0, 0)) ∧ Only (· = g) w w' ∧ w'.heap.size = w.heap.size) → wpList Try.prog ops Q rest (a.put o.dst undef) w') : wpList Try.prog ops Q (o :: rest) a w :=
  wpList_store_row hgd ty x y ho g cells hx hy t old hg.out hi hold h1 (h _ ⟨setRow_heap w g _ _ t _ hg.out, ⟨rfl, rfl, rfl, by simp, fun k _ hk => setRow_other w g k cells hk⟩, by simp⟩)
theorem infoID : (Try.prog.info? 31).map (·.size) = some 2 := by kernel_rfl
theorem idC_one (t n : Int) : (#[.int .i64 t, .int .i64 n] : Array Value).all (·.oneCell') = true := by simp [Value.oneCell']

end Go.Proofs.Ytgpbphjplbhfmaa.Ck.Y.S

namespace Go.Proofs.Ytgpbphjplbhfmaa.Ck.Y.S
open Go.RowKit Go.Maps Go.Lib

theorem fold_len : ∀ {l : List OG} {T T' : List OB} {s s' : Nat}, FoldT T s l T' s' → T'.length ≤ T.length + l.length
  | [], _, _, _, _, .nil _ _ => Nat.le_refl _
  | _ :: _, _, _, _, _, .cons a1 a2 => by
    have h1 := a1.length
    have h2 := fold_len a2
    rw [List.length_cons]
    omega
theorem has_place {T : List OB} {q : PI} (h0 : ¬ q.1 = 0) (h : hasT T q = true) : ∃ p nm, placeT T q = some (p, nm) := by
  unfold hasT rootB trashB at h
  simp [h0] at h
  obtain ⟨k, hk⟩ := Option.isSome_iff_exists.1 h
  obtain ⟨o, ho, _⟩ := findT_some hk
  exact ⟨_, _, placeT_at hk ho⟩
theorem dir_has {T : List OB} {q : PI} (h0 : ¬ q.1 = 0) (h : dirT T q.1 q.2 = true) : hasT T q = true := by
  obtain ⟨k, hk⟩ := dirT_there h h0
  unfold hasT
  rw [hk]
  simp
theorem place_up {T : List OB} {q p : PI} {nm : ByteArray} (h : placeT T q = some (p, nm)) : upT T q = some p := by rw [placeT_up, h]; rfl
theorem place_home {T : List OB} (hw : WfT T) {q p : PI} {nm : ByteArray} (h : placeT T q = some (p, nm)) : dirT T p.1 p.2 = true := by
  obtain ⟨k, o, _, ho, _, e, _⟩ := placeT_some h
  rw [← e]
  exact hw.home o (List.mem_of_getElem? ho)
theorem place_zero {T : List OB} (hw : WfT T) {q : PI} (h0 : q.1 = 0) : placeT T q = none := by
  cases h : placeT T q with
  | none => rfl
  | some x =>
    obtain ⟨k, o, _, ho, e, _⟩ := placeT_some (show placeT T q = some (x.1, x.2) from h)
    have := hw.own o (List.mem_of_getElem? ho)
    rw [← e] at h0
    exact absurd h0 this
/-- What the walk to the root keeps: the objects that were left behind, and where it stands. -/
structure WalkI (T : List OB) (id : PI) (V : List PI) (q : PI) : Prop where
  nd : V.Nodup
  sub : ∀ v ∈ V, v ∈ T.map idp ∧ Bel T v q
  here : (¬ q.1 = 0 → ∃ p nm, placeT T q = some (p, nm)) ∧ (q.1 = 0 → q = (0, 0) ∨ q = (0, 1))
  live : Bel T id (0, 0) ↔ q = (0, 0) ∨ Bel T q (0, 0)
theorem WalkI.start {T : List OB} {id : PI} (h0 : ¬ id.1 = 0) (h : hasT T id = true) : WalkI T id [] id :=
  ⟨List.nodup_nil, fun v hv => by simp at hv, ⟨fun _ => has_place h0 h, fun e => absurd e h0⟩, ⟨fun h => .inr h, fun h => h.elim (fun e => absurd (congrArg Prod.fst e) h0) fun h => h⟩⟩
theorem dir_zero {T : List OB} (hw : WfT T) {q : PI} (h0 : q.1 = 0) (h : dirT T q.1 q.2 = true) : q = (0, 0) ∨ q = (0, 1) := by
  obtain ⟨t, n⟩ := q
  simp only at h0
  subst h0
  unfold dirT rootB trashB at h
  cases hf : findT T 0 n with
  | some k =>
    obtain ⟨o, ho, e, _⟩ := findT_some hf
    exact absurd e (hw.own o (List.mem_of_getElem? ho))
  | none =>
    simp [hf] at h
    rcases h with h | h
    · exact .inl (by rw [h])
    · exact .inr (by rw [h])
theorem WalkI.step {T : List OB} (hw : WfT T) {id q p : PI} {V : List PI} {nm : ByteArray} (h : WalkI T id V q) (h0 : ¬ q.1 = 0) (hp : placeT T q = some (p, nm)) : WalkI T id (q :: V) p := by
  have hu := place_up hp
  have hh := place_home hw hp
  refine ⟨List.nodup_cons.2 ⟨fun hv => hw.rank.self q (h.sub q hv).2, h.nd⟩, fun v hv => ?_, ⟨fun e => has_place e (dir_has e hh), fun e => dir_zero hw e hh⟩, ?_⟩
  · rcases List.mem_cons.1 hv with rfl | hv
    · obtain ⟨k, o, _, ho, e, _⟩ := placeT_some hp
      exact ⟨by rw [← e]; exact List.mem_map_of_mem (List.mem_of_getElem? ho), .one hu⟩
    · exact ⟨(h.sub v hv).1, (h.sub v hv).2.trans (.one hu)⟩
  · rw [h.live]
    have hq : ¬ q = (0, 0) := fun e => h0 (by rw [e])
    constructor
    · rintro (e | e)
      · exact absurd e hq
      · by_cases hn : p = (0, 0)
        · exact .inl hn
        · exact .inr ((Bel.next hu hn).1 e)
    · rintro (e | e)
      · subst e; exact .inr (.one hu)
      · exact .inr (.far hu e)
theorem WalkI.len {T : List OB} {id q : PI} {V : List PI} (h : WalkI T id V q) (ha : (T.map idp).Nodup) : V.length ≤ T.length ∧ (¬ q.1 = 0 → V.length < T.length ∨ ∃ v ∈ V, v = q) := by
  have key : ∀ V : List PI, V.Nodup → (∀ v ∈ V, v ∈ T.map idp) → V.length ≤ T.length := by
    intro V hn hs
    have hp : V.Perm ((T.map idp).filter fun x => decide (x ∈ V)) := (List.perm_ext_iff_of_nodup hn (List.Nodup.sublist List.filter_sublist ha)).2 fun x => by
      rw [List.mem_filter]
      constructor
      · intro hx; exact ⟨hs x hx, by simpa using hx⟩
      · rintro ⟨_, hx⟩; simpa using hx
    have h := List.length_filter_le (fun x => decide (x ∈ V)) (T.map idp)
    rw [List.length_map] at h
    rw [hp.length_eq]
    exact h
  refine ⟨key V h.nd fun v hv => (h.sub v hv).1, fun h0 => ?_⟩
  by_cases hq : q ∈ V
  · exact .inr ⟨q, hq, rfl⟩
  · obtain ⟨p, nm, hp⟩ := h.here.1 h0
    obtain ⟨k, o, _, ho, e, _⟩ := placeT_some hp
    have := key (q :: V) (List.nodup_cons.2 ⟨hq, h.nd⟩) fun v hv => by
      rcases List.mem_cons.1 hv with rfl | hv
      · rw [← e]; exact List.mem_map_of_mem (List.mem_of_getElem? ho)
      · exact (h.sub v hv).1
    rw [List.length_cons] at this
    exact .inl (by omega)
theorem WalkI.lt {T : List OB} (hw : WfT T) {id q : PI} {V : List PI} (h : WalkI T id V q) (h0 : ¬ q.1 = 0) : V.length < T.length := by
  have ha : (T.map idp).Nodup := (apartT_ids.1 hw.apart).imp fun hab e => hab ⟨congrArg Prod.fst e, congrArg Prod.snd e⟩
  rcases (h.len ha).2 h0 with e | ⟨v, hv, e⟩
  · exact e
  · subst e; exact absurd (h.sub _ hv).2 (hw.rank.self _)
theorem WalkI.le {T : List OB} (hw : WfT T) {id q : PI} {V : List PI} (h : WalkI T id V q) : V.length ≤ T.length :=
  (h.len ((apartT_ids.1 hw.apart).imp fun hab e => hab ⟨congrArg Prod.fst e, congrArg Prod.snd e⟩)).1
theorem WalkI.end {T : List OB} (hw : WfT T) {id q : PI} {V : List PI} (h : WalkI T id V q) (h0 : q.1 = 0) : Bel T id (0, 0) ↔ q.2 = 0 := by
  rw [h.live]
  rcases h.here.2 h0 with e | e
  · subst e; simp
  · subst e
    constructor
    · rintro (e | e)
      · cases e
      · exact absurd e (Bel.not (by rw [placeT_up, place_zero hw rfl]; rfl))
    · intro e; cases e
/-- An object stands once among its parent's kids. -/
theorem kid_once {T : List OB} {id p : PI} {nm : ByteArray} (hp : placeT T id = some (p, nm)) {m : List PI} (hm : IsKids T p.1 p.2 m) : ∃ a : Nat, m[a]? = some id ∧ ∀ j : Nat, m[j]? = some id → j = a := by
  obtain ⟨k, o, _, ho, e1, e2, _⟩ := placeT_some hp
  have hin : id ∈ m := by
    rw [hm.1.mem_iff]
    unfold kidsL
    rw [← e1]
    refine List.mem_map_of_mem (List.mem_filter.2 ⟨List.mem_of_getElem? ho, ?_⟩)
    rw [← e2]
    exact sameB_iff.2 ⟨rfl, rfl⟩
  obtain ⟨a, ha, e⟩ := List.getElem_of_mem hin
  refine ⟨a, by rw [List.getElem?_eq_getElem ha, e], fun j hj => ?_⟩
  obtain ⟨hjl, ej⟩ := List.getElem?_eq_some_iff.1 hj
  have hpw := List.pairwise_iff_getElem.1 hm.2
  by_cases h1 : j < a
  · have := hpw j a hjl ha h1
    rw [ej, e] at this
    exact absurd this (lessP_irrefl _)
  · by_cases h2 : a < j
    · have := hpw a j ha hjl h2
      rw [ej, e] at this
      exact absurd this (lessP_irrefl _)
    · omega

theorem may_ok' {o : OG} {ns : List Int} (h : mayW o ns = true) : 1 ≤ o.t ∧ ¬ o.ot = 0 := ⟨(may_ok (show mayG o ns = true from h)).1, (may_ok (show mayG o ns = true from h)).2.1⟩
theorem Taken.new {u : World} {m : List OG} (h : Taken u m) {i : Nat} {x : OG} (hx : m[i]? = some x) {l : List OG} (hs : Srt l (m.take i)) : ∀ y ∈ l, (y.t, y.n) ≠ (x.t, x.n) := by
  intro y hy
  have hy' := hs.perm.mem_iff.1 hy
  obtain ⟨j, hj, e⟩ := List.getElem_of_mem hy'
  rw [List.length_take] at hj
  obtain ⟨hi, ex⟩ := List.getElem?_eq_some_iff.1 hx
  have := List.pairwise_iff_getElem.1 h.apart j i (by omega) hi (by omega)
  rw [ex] at this
  rw [List.getElem_take] at e
  rw [e] at this
  exact this
theorem Taken.fold {u : World} {m : List OG} (h : Taken u m) {l : List OG} (hs : Srt l m) : ∃ T s, FoldT [] 0 l T s ∧ WfT T ∧ T.length ≤ m.length ∧ s ≤ m.length := by
  obtain ⟨T, s, hf⟩ := FoldT.total l [] 0
  refine ⟨T, s, hf, WfT.nil.fold hf fun o ho => ?_, ?_, ?_⟩
  · obtain ⟨ns, bs, _, hm, _⟩ := h.each o (hs.perm.mem_iff.1 ho)
    exact (may_ok' hm).2
  · have := fold_len hf
    rw [List.length_nil, Nat.zero_add, hs.len] at this
    exact this
  · have key : ∀ {l : List OG} {T T' : List OB} {s s' : Nat}, FoldT T s l T' s' → s' ≤ s + l.length := by
      intro l
      induction l with
      | nil => intro T T' s s' h; cases h; exact Nat.le_refl _
      | cons x l ih =>
        intro T T' s s' h
        cases h with
        | cons a1 a2 =>
          have h1 := a1.length
          have h2 := ih a2
          rw [List.length_cons]
          omega
    have := key hf
    rw [Nat.zero_add, hs.len] at this
    exact this
theorem Srt.snoc {l m : List OG} {i j : Nat} {x : OG} (h : Srt l (m.take i)) (hi : InsAt l (x.t, x.n) j) (hx : m[i]? = some x) : Srt (l.take j ++ x :: l.drop j) (m.take (i + 1)) := by
  rw [List.take_add_one, hx]
  exact h.ins hi

end Go.Proofs.Ytgpbphjplbhfmaa.Ck.Y.S
