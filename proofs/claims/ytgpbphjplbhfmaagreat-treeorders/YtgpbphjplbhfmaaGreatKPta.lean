import Derived.Test.YtgpbphjplbhfmaaGreatQPsb
import Derived.Test.YtgpbphjplbhfmaaGreatQQc

namespace Go.Proofs.YtgpbphjplbhfmaaGreat.Ck.Y.S
open Go.RowKit Go.Maps Go.Lib
def TJ (u : World) (F0 : Nat → Prop) (gt : Nat) (l : List OG) (w : World) : Prop := ∃ F, TW F w gt l ∧ (∀ b, F b → F0 b ∨ u.heap.size ≤ b) ∧ Only F0 u w
section
variable {u w w' : World} {F0 : Nat → Prop} {gt s : Nat} {l : List OG} {T : List OB}
theorem TJ.start (h : TW F0 u gt l) : TJ u F0 gt l u := ⟨F0, h, fun _ hb => .inl hb, Only.refl _ _⟩
theorem TJ.only (h : TJ u F0 gt l w) : Only F0 u w := by obtain ⟨F, _, _, h⟩ := h; exact h
theorem TJ.below (h : TJ u F0 gt l w) (hb : Below w.heap.size w w') : TJ u F0 gt l w' := by
  obtain ⟨F, h1, h2, h3⟩ := h
  exact ⟨F, h1.below hb, h2, h3.next (Below.only hb _)⟩
theorem TJ.cell (h : TJ u F0 gt l w) {b k : Nat} {v : Value} (hc : u.cell? ⟨b, k, none⟩ = some v) (hn : ¬ F0 b) : w.cell? ⟨b, k, none⟩ = some v := only_cell h.only hc hn
theorem TJ.row (h : TJ u F0 gt l w) {base : Nat} {v : Value} {m : List OG} (hr : RowG u base v m) (hn : ∀ g, v.ownBlock = some g → ¬ F0 g) : RowG w base v m := hr.kept h.only hn
theorem TJ.rowI (h : TJ u F0 gt l w) {base : Nat} {v : Value} {m : List PI} (hr : RowI u base v m) (hn : ∀ g, v.ownBlock = some g → ¬ F0 g) : RowI w base v m := hr.kept h.only hn
theorem TJ.ubelow (h : TJ u F0 gt l w) {n : Nat} (hn : n ≤ u.heap.size) (hF : ∀ b, F0 b → n ≤ b) : Below n u w := h.only.below hn hF
theorem TJ.rebase (h : TJ u F0 gt l w) (hb : Below w.heap.size w w') : ∃ F, TJ w' F gt l w' ∧ (∀ b, F b → b < w.heap.size) ∧ (∀ b, b < u.heap.size → ¬ F0 b → ¬ F b) ∧ ∀ l' w2, TJ w' F gt l' w2 → TJ u F0 gt l' w2 := by
  obtain ⟨F, h1, h2, h3⟩ := h
  refine ⟨F, TJ.start (h1.below hb), h1.low, fun b hb' hn hf => ?_, fun l' w2 ⟨F', k1, k2, k3⟩ => ⟨F', k1, fun b hb' => ?_, (h3.next (Below.only hb _)).trans k3 h2⟩⟩
  · rcases h2 b hf with e | e
    · exact hn e
    · omega
  · rcases k2 b hb' with e | e
    · exact h2 b e
    · have := h3.size; have := hb.size; exact .inr (by omega)
theorem TJ.call {f : FuncId} {args : Array Value} {R : Ending → World → Prop} {l' : List OG} (h : TJ u F0 gt l w) (hc : ∀ F, TW F w gt l → Calls Tryz.prog f args w fun e w' => R e w' ∧ TW (growF F w w') w' gt l' ∧ Only F w w') :
    Calls Tryz.prog f args w fun e w' => R e w' ∧ TJ u F0 gt l' w' := by
  obtain ⟨F, h1, h2, h3⟩ := h
  refine (hc F h1).mono ?_
  rintro e w' ⟨hR, k1, k2⟩
  refine ⟨hR, _, k1, fun b hb => ?_, h3.trans k2 h2⟩
  rcases hb with hb | hb
  · exact h2 b hb
  · have := h3.size; exact .inr (by omega)
theorem TJ.has (h : TJ u F0 gt l w) (hf : FoldT [] 0 l T s) (t n : Int) :
    Calls Tryz.prog 18 #[.pointer (some ⟨gt, 0, none⟩), idv t n] w fun e w' => e = .returned (.bool (hasT T (t, n))) ∧ TJ u F0 gt l w' := h.call fun _ hF => has_any hF hf t n
theorem TJ.dir (h : TJ u F0 gt l w) (hf : FoldT [] 0 l T s) (t n : Int) :
    Calls Tryz.prog 17 #[.pointer (some ⟨gt, 0, none⟩), idv t n] w fun e w' => e = .returned (.bool (dirT T t n)) ∧ TJ u F0 gt l w' := h.call fun _ hF => dir_any hF hf t n
theorem TJ.parent (h : TJ u F0 gt l w) (hf : FoldT [] 0 l T s) (t n : Int) :
    Calls Tryz.prog 11 #[.pointer (some ⟨gt, 0, none⟩), idv t n] w fun e w' => e = .returned (parV T (t, n)) ∧ TJ u F0 gt l w' := h.call fun _ hF => parent_any hF hf t n
theorem TJ.bel (h : TJ u F0 gt l w) (hf : FoldT [] 0 l T s) (t n t2 n2 : Int) {r : Bool} (hr : r = true ↔ Bel T (t, n) (t2, n2)) :
    Calls Tryz.prog 14 #[.pointer (some ⟨gt, 0, none⟩), idv t n, idv t2 n2] w fun e w' => e = .returned (.bool r) ∧ TJ u F0 gt l w' :=
  h.call fun _ hF => (pbelow_any hF hf t n t2 n2).mono fun _ _ ⟨r', he, hr', h1⟩ => by
    have : r' = r := Bool.eq_iff_iff.2 (hr'.trans hr.symm)
    subst this
    exact ⟨he, h1⟩
theorem TJ.live (h : TJ u F0 gt l w) (hf : FoldT [] 0 l T s) (t n : Int) {r : Bool} (hr : r = true ↔ (t = 0 ∧ n = 0) ∨ Bel T (t, n) (0, 0)) :
    Calls Tryz.prog 13 #[.pointer (some ⟨gt, 0, none⟩), idv t n] w fun e w' => e = .returned (.bool r) ∧ TJ u F0 gt l w' :=
  h.call fun _ hF => (plive_any hF hf t n).mono fun _ _ ⟨r', he, hr', h1⟩ => by
    have : r' = r := Bool.eq_iff_iff.2 (hr'.trans hr.symm)
    subst this
    exact ⟨he, h1⟩
theorem TJ.len (h : TJ u F0 gt l w) (hf : FoldT [] 0 l T s) :
    Calls Tryz.prog 15 #[.pointer (some ⟨gt, 0, none⟩)] w fun e w' => e = .returned (.int .i64 (T.length : Nat)) ∧ TJ u F0 gt l w' := h.call fun _ hF => len_any hF hf
theorem TJ.skipped (h : TJ u F0 gt l w) (hf : FoldT [] 0 l T s) :
    Calls Tryz.prog 19 #[.pointer (some ⟨gt, 0, none⟩)] w fun e w' => e = .returned (.int .i64 (s : Nat)) ∧ TJ u F0 gt l w' := h.call fun _ hF => skipped_any hF hf
theorem TJ.kids (h : TJ u F0 gt l w) (hf : FoldT [] 0 l T s) (t n : Int) :
    Calls Tryz.prog 16 #[.pointer (some ⟨gt, 0, none⟩), idv t n] w fun e w' => KidsR T t n e w' ∧ TJ u F0 gt l w' :=
  h.call fun _ hF => (pkids_any hF hf t n).mono fun _ _ ⟨v, m, h1, h2, h3, h4, h5⟩ => ⟨⟨v, m, h1, h2, h3, h4⟩, h5⟩
theorem TJ.apply (h : TJ u F0 gt l w) {o : OG} {ns : List Int} {bs : List (BitVec 8)} (hin : WIn w o ns bs) (hm : mayW o ns = true) (hnew : ∀ x ∈ l, (x.t, x.n) ≠ (o.t, o.n)) (hl7 : l.length ≤ 700) :
    Calls Tryz.prog 9 #[.pointer (some ⟨gt, 0, none⟩), opgv o] w fun e w' => ∃ i, e = .returned (.tuple #[.int .i64 ((l.length - i : Nat) : Nat), .int .i64 0]) ∧ InsAt l (o.t, o.n) i ∧ TJ u F0 gt (l.take i ++ o :: l.drop i) w' := by
  obtain ⟨F, h1, h2, h3⟩ := h
  refine (apply_new h1 hin.op hm hnew hl7).mono ?_
  rintro e w' ⟨i, he, hi, k1, k2⟩
  refine ⟨i, he, hi, _, k1, fun b hb => ?_, h3.trans k2 h2⟩
  rcases hb with hb | hb
  · exact h2 b hb
  · have := h3.size; exact .inr (by omega)
end
theorem srt_unique : ∀ {l m : List OG}, l.Pairwise (fun a b => lessP (a.t, a.n) (b.t, b.n)) → m.Pairwise (fun a b => lessP (a.t, a.n) (b.t, b.n)) → (∀ x, x ∈ l ↔ x ∈ m) → l = m
  | [], [], _, _, _ => rfl
  | [], y :: m, _, _, h => by have := (h y).2 List.mem_cons_self; simp at this
  | x :: l, [], _, _, h => by have := (h x).1 List.mem_cons_self; simp at this
  | x :: l, y :: m, hl, hm, h => by
    have h1 := List.pairwise_cons.1 hl
    have h2 := List.pairwise_cons.1 hm
    have e : x = y := by
      rcases List.mem_cons.1 ((h x).1 List.mem_cons_self) with e | e
      · exact e
      · rcases List.mem_cons.1 ((h y).2 List.mem_cons_self) with e' | e'
        · exact e'.symm
        · exact absurd (lessP_trans (h1.1 y e') (h2.1 x e)) (lessP_irrefl _)
    subst e
    rw [srt_unique h1.2 h2.2 fun z => ?_]
    constructor
    · intro hz
      rcases List.mem_cons.1 ((h z).1 (List.mem_cons_of_mem _ hz)) with e | e
      · subst e; exact absurd (h1.1 z hz) (lessP_irrefl _)
      · exact e
    · intro hz
      rcases List.mem_cons.1 ((h z).2 (List.mem_cons_of_mem _ hz)) with e | e
      · subst e; exact absurd (h2.1 z hz) (lessP_irrefl _)
      · exact e
theorem may_rng {o : OG} {ns : List Int} (h : mayW o ns = true) : Rng o.t o.n := by
  unfold mayW Cd.mayO at h
  simp only [Bool.and_eq_true] at h
  have := validB_true.1 h.1.1
  unfold Rng B63
  omega
theorem Taken.rng {u : World} {m : List OG} (h : Taken u m) : RngG m := fun x hx => by
  obtain ⟨ns, bs, _, hm, _⟩ := h.each x hx
  exact may_rng hm
theorem sorted_one {l m s : List OG} (hap : m.Pairwise fun a b => (a.t, a.n) ≠ (b.t, b.n)) (hr : RngG m) (hl : m.length < 1000000) (h : Srt l m) (hs : IsSortedG m s) : s = l := by
  obtain ⟨P, rfl, hp, hrise⟩ := hs
  have hperm : (P.map stripG).Perm m := by have := hp.map stripG; rwa [strip_enumG] at this
  have hapP : P.Pairwise fun a b => (a.o.t, a.o.n) ≠ (b.o.t, b.o.n) := by
    have h1 : (P.map stripG).Pairwise fun a b => (a.t, a.n) ≠ (b.t, b.n) := (hperm.pairwise_iff (fun h e => h e.symm)).2 hap
    rw [List.pairwise_map] at h1
    exact h1
  have hok : ∀ a ∈ P, a.ok := fun a ha => enumG_ok hr hl a (hp.mem_iff.1 ha)
  refine srt_unique ?_ h.rise fun x => hperm.mem_iff.trans h.perm.mem_iff.symm
  rw [List.pairwise_map]
  refine List.Pairwise.imp_of_mem (fun {a b} ha hb h => ?_) (List.Pairwise.and (show P.Pairwise _ from hrise) hapP)
  rcases (keyG_lt (hok a ha) (hok b hb)).1 h.1 with h1 | ⟨h1, _⟩
  · exact h1
  · have h2 : ¬ (a.o.t = b.o.t ∧ a.o.n = b.o.n) := fun e => h.2 (Prod.ext e.1 e.2)
    have h3 : ¬ lessB b.o.t b.o.n a.o.t a.o.n = true := by rw [h1]; exact Bool.false_ne_true
    show lessB a.o.t a.o.n b.o.t b.o.n = true
    rw [lessB_true] at h3 ⊢
    omega
theorem TreeY.kept {w w' : World} {base g s : Nat} {T : List OB} {S : Nat → Prop} (h : TreeY w base g T s) (ho : Only S w w') (hn : ∀ b, base ≤ b → b < w.heap.size → ¬ S b) : TreeY w' base g T s := by
  obtain ⟨v, h1, h2⟩ := h.cell
  refine ⟨h.lo, ⟨v, (ho.block g (block_lt h1) (hn g h.lo (block_lt h1))).trans h1, h2.1, ?_⟩, h.len⟩
  rcases h2.2 with e | ⟨g', cap, cur, hv, hb, hg, r⟩
  · exact .inl e
  · exact .inr ⟨g', cap, cur, hv, hb, (ho.block g' (block_lt hg) (hn g' hb (block_lt hg))).trans hg, r⟩
end Go.Proofs.YtgpbphjplbhfmaaGreat.Ck.Y.S
