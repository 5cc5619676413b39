/-
  What the proof leans on, part 17.
-/
import Derived.Test.YtebdgcoandfocaaGreatDoorQ15
import Derived.Test.YtebdgcoandfocaaGreatDoorQ13
import Derived.Test.YtebdgcoandfocaaGreatDoorQ14

/-
  Package inode: level, through and over as functions of what the hands do.
-/
namespace Go.Proofs.YtebdgcoandfocaaGreatDoor
open Go.RowKit

/-- Tables, lists of numbers and walks that lie in memory are kept, but the one in block x. -/
def wkT (t : TypeId) : Prop := t = 145 ∨ t = 55 ∨ t = 81
def Kp (x : Option Nat) (w w' : World) : Prop := w.heap.size ≤ w'.heap.size ∧ ∀ g cs t fr, w.heap[g]? = some (.cells cs t fr) → wkT t → some g ≠ x → w'.heap[g]? = some (.cells cs t fr)
theorem Kp.refl (x : Option Nat) (w : World) : Kp x w w := ⟨Nat.le_refl _, fun _ _ _ _ h _ _ => h⟩
theorem Kp.trans {x : Option Nat} {a b c : World} (h1 : Kp x a b) (h2 : Kp x b c) : Kp x a c := ⟨Nat.le_trans h1.1 h2.1, fun g cs t fr h ht hx => h2.2 g cs t fr (h1.2 g cs t fr h ht hx) ht hx⟩
theorem Kp.below {x : Option Nat} {a b : World} (h : Below a.heap.size a b) : Kp x a b := ⟨h.size, fun g _ _ _ hg _ _ => (h.block g (Array.getElem?_eq_some_iff.1 hg).1).trans hg⟩
theorem Kp.mono {x : Option Nat} {a b : World} (h : Kp none a b) : Kp x a b := ⟨h.1, fun g cs t fr hg ht _ => h.2 g cs t fr hg ht (by simp)⟩
theorem Kp.high {y : Nat} {a b c : World} (h1 : Kp none a b) (h2 : Kp (some y) b c) (hy : a.heap.size ≤ y) : Kp none a c :=
  ⟨Nat.le_trans h1.1 h2.1, fun g cs t fr h ht hx => h2.2 g cs t fr (h1.2 g cs t fr h ht hx) ht (fun e => by
    have := (Array.getElem?_eq_some_iff.1 h).1
    cases e; omega)⟩
theorem Kp.set {g : Nat} (w : World) (i : Nat) (v : Value) : Kp (some g) w (w.setCell ⟨g, i, none⟩ v) := ⟨by simp, fun q _ _ _ h _ hx => (heap_setCell_other _ _ _ _ (fun e => hx (by rw [e]))).trans h⟩
theorem Kp.row {x : Option Nat} {a b : World} (h : Kp x a b) {g : Nat} {ns : List (BitVec 32)} {tt : TypeId} (hr : RowU a g ns tt) (ht : wkT tt) (hx : some g ≠ x) : RowU b g ns tt := h.2 g _ _ _ hr ht hx
theorem Kp.walk {x : Option Nat} {a b : World} (h : Kp x a b) {k f t : Nat} {ch vis : Value} {holes : Bool} (hk : WalkAt a k ch f t holes vis) (hx : some k ≠ x) : WalkAt b k ch f t holes vis := h.2 k _ _ _ hk (.inr (.inr rfl)) hx
theorem walk_ne {w : World} {k g f t : Nat} {ch vis : Value} {holes : Bool} {ns : List (BitVec 32)} {tt : TypeId} (hk : WalkAt w k ch f t holes vis) (hr : RowU w g ns tt) (ht : tt = 145 ∨ tt = 55) : k ≠ g := fun e => by
  subst e
  have h1 : w.heap[k]? = _ := hk
  rw [show w.heap[k]? = _ from hr] at h1
  simp only [Option.some.injEq, Obj.cells.injEq] at h1
  rcases ht with rfl | rfl
  · exact absurd h1.2.1 (by decide)
  · exact absurd h1.2.1 (by decide)
theorem RowU.set {w : World} {g : Nat} {ns : List (BitVec 32)} {tt : TypeId} (h : RowU w g ns tt) (i : Nat) (n : BitVec 32) : RowU (w.setCell ⟨g, i, none⟩ (u32v n)) g (ns.set i n) tt := by
  unfold RowU at *
  simp [World.setCell, Array.getElem?_modify, h, List.map_set]

def tabT (t : TypeId) : Prop := t = 145 ∨ t = 55
/-- Hands of which all is known: their state is s. -/
structure Hands {σ : Type} (o : Ino.Ops σ) (vis : Ino.Stp σ) (c V lo f t : Nat) (rec : Value) (holes : Bool) (J : σ → World → Prop) (m : σ → Nat) (lim : Nat) : Prop where
  cost : Ino.Cost o m
  cvis : ∀ p n s, m (vis p n s).2.2 ≤ m s + 4
  len : ∀ s n, (o.get s n).1.length = 64 ∨ (o.get s n).2.1 ≠ 0
  low : ∀ s w, J s w → lo ≤ w.heap.size
  tab : ∀ s w w' S, J s w → But S w w' → (∀ k, S k → lo ≤ k ∧ ∃ cs t fr, w.heap[k]? = some (.cells cs t fr) ∧ tabT t) → J s w'
  enter : ∀ args w, (callFunc V args).run Tryz.prog w = .ok (.enter V args) w
  take : ∀ s w, J s w → m s < lim → holes = true → Calls Tryz.prog 63 #[.pointer (some ⟨c, 0, none⟩)] w fun e w' => e = .returned (.tuple #[u32v (o.take s).1, .int .i64 (o.take s).2.1]) ∧ J (o.take s).2.2 w' ∧ Kp none w w'
  get : ∀ s w n, J s w → m s < lim → n ≠ 0 → Calls Tryz.prog 47 #[.pointer (some ⟨c, 0, none⟩), u32v n] w fun e w' => J (o.get s n).2.2 w' ∧ Kp none w w' ∧ ((∃ bs g cap, (o.get s n).2.1 = 0 ∧ e = .returned (.tuple #[.slice (some ⟨g, 0, none⟩) 512 cap, .int .i64 0]) ∧ Bytes w' (some ⟨g, 0, none⟩) bs ∧ bs.length = 512 ∧ 512 ≤ cap ∧ (o.get s n).1 = tabOf bs) ∨ ((o.get s n).2.1 ≠ 0 ∧ ∃ v, e = .returned (.tuple #[v, .int .i64 (o.get s n).2.1])))
  give : ∀ s w n, J s w → m s < lim → Calls Tryz.prog 45 #[.pointer (some ⟨c, 0, none⟩), u32v n] w fun e w' => e = .returned (.tuple #[]) ∧ J (o.give s n) w' ∧ Kp none w w'
  put : ∀ s w n bs g, J s w → m s < lim → bs.length = 512 → w.heap[g]? = some (.cells (bs.map u8v).toArray 5 (0, 0)) → lo ≤ g → Calls Tryz.prog 64 #[.pointer (some ⟨c, 0, none⟩), u32v n, .slice (some ⟨g, 0, none⟩) 512 512] w fun e w' => e = .returned (.tuple #[]) ∧ J (o.put s n bs) w' ∧ Kp none w w'
  visit : ∀ s w p n, J s w → m s + 4 ≤ lim → f ≤ p → p < t → Calls Tryz.prog V #[rec, .int .i64 (p : Nat), u32v n] w fun e w' => e = .returned (.tuple #[u32v (vis p n s).1, .int .i64 (vis p n s).2.1]) ∧ J (vis p n s).2.2 w' ∧ Kp none w w'

section
variable {σ : Type} {o : Ino.Ops σ} {vis : Ino.Stp σ} {c V lo f t : Nat} {rec : Value} {holes : Bool} {J : σ → World → Prop} {m : σ → Nat} {lim : Nat}
theorem Hands.below (H : Hands o vis c V lo f t rec holes J m lim) {s : σ} {w w' : World} (h : J s w) (hb : Below w.heap.size w w') : J s w' := H.tab s w w' (fun _ => False) h (But.of_below hb) (fun _ h => h.elim)
theorem Hands.cell (H : Hands o vis c V lo f t rec holes J m lim) {s : σ} {w : World} {g : Nat} {ns : List (BitVec 32)} {tt : TypeId} (h : J s w) (hr : RowU w g ns tt) (ht : tabT tt) (hg : lo ≤ g) (i : Nat) (v : Value) : J s (w.setCell ⟨g, i, none⟩ v) :=
  H.tab s w _ (fun k => k = g) h ((But.refl (fun k => k = g) w).setCell ⟨g, i, none⟩ rfl v) (fun k e => by subst e; exact ⟨hg, _, _, _, hr, ht⟩)

theorem set_mid {ns pre : List (BitVec 32)} {o' i : Nat} {n' : BitVec 32} (hp : pre.length = i) (h : o' + i < ns.length) : (ns.take o' ++ pre ++ ns.drop (o' + i)).set (o' + i) n' = ns.take o' ++ (pre ++ [n']) ++ ns.drop (o' + (i + 1)) := by
  have hl : (ns.take o' ++ pre).length = o' + i := by rw [List.length_append, List.length_take, hp]; omega
  rw [List.set_append_right _ _ (by omega), hl, Nat.sub_self, List.drop_eq_getElem_cons h, List.set_cons_zero]
  simp [Nat.add_assoc]
theorem get_mid {ns pre : List (BitVec 32)} {o' i : Nat} (hp : pre.length = i) (h : o' + i < ns.length) : (ns.take o' ++ pre ++ ns.drop (o' + i))[o' + i]? = ns[o' + i]? := by
  have hl : (ns.take o' ++ pre).length = o' + i := by rw [List.length_append, List.length_take, hp]; omega
  rw [List.getElem?_append_right (by omega), hl, Nat.sub_self, List.getElem?_drop, Nat.add_zero]
theorem set_self {l : List (BitVec 32)} {i : Nat} {n : BitVec 32} (h : l[i]? = some n) : l.set i n = l := by
  obtain ⟨h1, rfl⟩ := List.getElem?_eq_some_iff.1 h
  exact List.set_getElem_self h1
theorem len_mid {ns pre : List (BitVec 32)} {o' i : Nat} (hp : pre.length = i) (h : o' + i ≤ ns.length) : (ns.take o' ++ pre ++ ns.drop (o' + i)).length = ns.length := by
  rw [List.length_append, List.length_append, List.length_take, List.length_drop, hp]; omega

/-- What is known within a level. -/
def LvJ (c k g o' len first sp f t : Nat) (vs : Value) (holes : Bool) (tt : TypeId) (J : σ → World → Prop) (m : σ → Nat) (K : Nat) (step : Ino.Stp σ) (ns : List (BitVec 32)) (s : σ) (w : World) (i : Nat) (ms : List (BitVec 32)) (w' : World) : Prop :=
  ∃ s' pre, J s' w' ∧ WalkAt w' k (.pointer (some ⟨c, 0, none⟩)) f t holes vs ∧ RowU w' g ms tt ∧ ms = ns.take o' ++ pre ++ ns.drop (o' + i) ∧ Ino.At step f t first sp ((ns.drop o').take len) s i pre s' ∧ Kp (some g) w w' ∧ m s' ≤ m s + i * K
def LvE (g o' len first sp f t : Nat) (J : σ → World → Prop) (step : Ino.Stp σ) (ns : List (BitVec 32)) (s : σ) (w : World) (er : Int) (w' : World) : Prop :=
  ∃ s', (Ino.lev step f t first sp ((ns.drop o').take len) 0 s).2 = (er, s') ∧ J s' w' ∧ Kp (some g) w w'
def LvP (g o' len first sp f t : Nat) (tt : TypeId) (J : σ → World → Prop) (step : Ino.Stp σ) (ns : List (BitVec 32)) (s : σ) (w : World) (e : Ending) (w' : World) : Prop :=
  ∃ l er s', Ino.lev step f t first sp ((ns.drop o').take len) 0 s = (l, er, s') ∧ e = .returned (.int .i64 er) ∧ J s' w' ∧ Kp (some g) w w' ∧ (er = 0 → RowU w' g (ns.take o' ++ l ++ ns.drop (o' + len)) tt)

theorem lv_post {g o' len first sp f t : Nat} {tt : TypeId} {J : σ → World → Prop} {step : Ino.Stp σ} {ns : List (BitVec 32)} {s : σ} {w : World} {k c : Nat} {vs : Value} {holes : Bool} {m : σ → Nat} {K : Nat} (hlen : o' + len ≤ ns.length) {e : Ending} {w' : World}
    (h : (e = .returned (.int .i64 0) ∧ ∃ ns', LvJ c k g o' len first sp f t vs holes tt J m K step ns s w len ns' w') ∨ (∃ er : Int, er ≠ 0 ∧ e = .returned (.int .i64 er) ∧ LvE g o' len first sp f t J step ns s w er w')) : LvP g o' len first sp f t tt J step ns s w e w' := by
  rcases h with ⟨rfl, ns', s', pre, hJ, _, hr, rfl, hA, hK, _⟩ | ⟨er, her, rfl, s', h1, h2, h3⟩
  · have hl : ((ns.drop o').take len).length = len := by rw [List.length_take, List.length_drop]; omega
    exact ⟨pre, 0, s', hA.done hl.symm, rfl, hJ, hK, fun _ => hr⟩
  · cases hx : Ino.lev step f t first sp ((ns.drop o').take len) 0 s with
    | mk l r =>
      rw [hx] at h1
      obtain rfl : r = (er, s') := h1
      exact ⟨l, er, s', hx, rfl, h2, h3, fun h => absurd h her⟩

theorem seg_get {ns : List (BitVec 32)} {o' len i : Nat} {n : BitVec 32} (hi : i < len) (h : ns[o' + i]? = some n) : ((ns.drop o').take len)[i]? = some n := by
  rw [List.getElem?_take, if_pos hi, List.getElem?_drop]; exact h

theorem level_J (H : Hands o vis c V lo f t rec holes J m lim) (k g o' len first cp : Nat) (tt : TypeId) (htt : tabT tt) (ns : List (BitVec 32)) (s : σ) (w : World) (hk : WalkAt w k (.pointer (some ⟨c, 0, none⟩)) f t holes (.func (.func V) #[rec] #[])) (hr : RowU w g ns tt) (hol : o' + len ≤ ns.length) (hlen : len ≤ 64) (hfi : first ≤ 100000) (hJ : J s w) (hlo : lo ≤ g) (hm : m s + len * 4 ≤ lim) :
    Calls Tryz.prog 46 #[.pointer (some ⟨k, 0, none⟩), .slice (some ⟨g, o', none⟩) len cp, .int .i64 (first : Nat), .int .i64 1] w fun e w' => LvP g o' len first 1 f t tt J vis ns s w e w' := by
  have hkg := walk_ne hk hr htt
  have hwk : wkT tt := by rcases htt with h | h; exact .inl h; exact .inr (.inl h)
  have hS : Steps k g o' len first f t ns.length (.pointer (some ⟨c, 0, none⟩)) rec holes V tt (LvJ c k g o' len first 1 f t (.func (.func V) #[rec] #[]) holes tt J m 4 vis ns s w) (LvE g o' len first 1 f t J vis ns s w) := by
    refine ⟨?_, ?_, ?_, ?_⟩
    · rintro i ms w' ⟨s', pre, h1, h2, _⟩; exact h2
    · rintro i ms w' ⟨s', pre, h1, h2, h3, rfl, h5, h6, h7⟩
      have hl5 := h5.1
      rw [List.length_take, List.length_drop] at hl5
      exact ⟨h3, len_mid h5.2.1 (by omega)⟩
    · rintro i ms w' hi hc ⟨s', pre, h1, h2, h3, rfl, h5, h6, h7⟩
      have hn : ∃ n, ns[o' + i]? = some n := ⟨_, List.getElem?_eq_getElem (by omega)⟩
      obtain ⟨n, hn⟩ := hn
      refine ⟨s', pre ++ [n], h1, h2, h3, ?_, h5.skip (seg_get hi hn) (by rw [Nat.mul_one]; exact hc), h6, by omega⟩
      rw [← set_mid (n' := n) h5.2.1 (by omega : o' + i < ns.length), set_self (by rw [get_mid h5.2.1 (by omega)]; exact hn)]
    · rintro i ms w' n hi hf1 ht1 hn ⟨s', pre, h1, h2, h3, rfl, h5, h6, h7⟩
      rw [get_mid h5.2.1 (by omega)] at hn
      have hc : ¬ (first + i * 1 + 1 ≤ f ∨ t ≤ first + i * 1) := by omega
      have hcv := H.cvis (first + i) n s'
      refine (H.visit s' w' (first + i) n h1 (by omega) hf1 ht1).mono ?_
      rintro e w1 ⟨rfl, hJ1, hK1⟩
      have hr1 := hK1.row h3 hwk (by simp)
      have hk1 := hK1.walk h2 (by simp)
      refine ⟨_, _, rfl, hr1, ?_⟩
      have hJ2 := H.cell hJ1 hr1 htt hlo (o' + i) (u32v (vis (first + i) n s').1)
      have hK2 : Kp (some g) w (w1.setCell ⟨g, o' + i, none⟩ (u32v (vis (first + i) n s').1)) := (h6.trans hK1.mono).trans (Kp.set _ _ _)
      have hst : vis (first + i * 1) n s' = ((vis (first + i) n s').1, (vis (first + i) n s').2.1, (vis (first + i) n s').2.2) := by rw [Nat.mul_one]
      by_cases her : (vis (first + i) n s').2.1 = 0
      · refine .inl ⟨her, _, pre ++ [(vis (first + i) n s').1], hJ2, (Kp.set (g := g) _ _ _).walk hk1 (fun e => hkg (by simpa using e)), hr1.set _ _, set_mid h5.2.1 (by omega), ?_, hK2, by omega⟩
        rw [her] at hst
        exact h5.go (seg_get hi hn) hc hst
      · exact .inr ⟨her, _, h5.err (seg_get hi hn) hc hst her, hJ2, hK2⟩
  refine (level_visit hS H.enter hol hlen hfi w ns ⟨s, [], hJ, hk, hr, by simp, Ino.At.start _ _, Kp.refl _ _, by omega⟩).mono ?_
  intro e w' h
  exact lv_post hol h

/-- A level over blocks of numbers, if through is known. -/
theorem levelT_J (H : Hands o vis c V lo f t rec holes J m lim) (step : Ino.Stp σ) (K : Nat) (hK : ∀ p n s, m (step p n s).2.2 ≤ m s + K) (k g o' len first sp cp : Nat) (vs : Value) (tt : TypeId) (htt : tabT tt) (ns : List (BitVec 32)) (s : σ) (w : World) (hk : WalkAt w k (.pointer (some ⟨c, 0, none⟩)) f t holes vs) (hr : RowU w g ns tt) (hol : o' + len ≤ ns.length) (hlen : len ≤ 64) (hfi : first ≤ 100000) (hs1 : 1 < sp) (hs2 : sp ≤ 4096) (hJ : J s w) (hlo : lo ≤ g) (hm : m s + len * K ≤ lim)
    (hT : ∀ s' w' i n, J s' w' → m s' + K ≤ lim → WalkAt w' k (.pointer (some ⟨c, 0, none⟩)) f t holes vs → i < len → f < first + i * sp + sp → first + i * sp < t → Calls Tryz.prog 67 #[.pointer (some ⟨k, 0, none⟩), .int .i64 ((first + i * sp : Nat) : Int), u32v n, .int .i64 ((sp / 64 : Nat) : Int)] w' fun e w1 => e = .returned (.tuple #[u32v (step (first + i * sp) n s').1, .int .i64 (step (first + i * sp) n s').2.1]) ∧ J (step (first + i * sp) n s').2.2 w1 ∧ Kp none w' w1) :
    Calls Tryz.prog 46 #[.pointer (some ⟨k, 0, none⟩), .slice (some ⟨g, o', none⟩) len cp, .int .i64 (first : Nat), .int .i64 (sp : Nat)] w fun e w' => LvP g o' len first sp f t tt J step ns s w e w' := by
  have hkg := walk_ne hk hr htt
  have hwk : wkT tt := by rcases htt with h | h; exact .inl h; exact .inr (.inl h)
  have hS : StepsT k g o' len first sp f t ns.length (.pointer (some ⟨c, 0, none⟩)) vs holes tt (LvJ c k g o' len first sp f t vs holes tt J m K step ns s w) (LvE g o' len first sp f t J step ns s w) := by
    refine ⟨?_, ?_, ?_, ?_⟩
    · rintro i ms w' ⟨s', pre, h1, h2, _⟩; exact h2
    · rintro i ms w' ⟨s', pre, h1, h2, h3, rfl, h5, h6, h7⟩
      have hl5 := h5.1
      rw [List.length_take, List.length_drop] at hl5
      exact ⟨h3, len_mid h5.2.1 (by omega)⟩
    · rintro i ms w' hi hc ⟨s', pre, h1, h2, h3, rfl, h5, h6, h7⟩
      have hn : ∃ n, ns[o' + i]? = some n := ⟨_, List.getElem?_eq_getElem (by omega)⟩
      obtain ⟨n, hn⟩ := hn
      refine ⟨s', pre ++ [n], h1, h2, h3, ?_, h5.skip (seg_get hi hn) hc, h6, by rw [Nat.add_mul]; omega⟩
      rw [← set_mid (n' := n) h5.2.1 (by omega : o' + i < ns.length), set_self (by rw [get_mid h5.2.1 (by omega)]; exact hn)]
    · rintro i ms w' n hi hf1 ht1 hn ⟨s', pre, h1, h2, h3, rfl, h5, h6, h7⟩
      rw [get_mid h5.2.1 (by omega)] at hn
      have hc : ¬ (first + i * sp + sp ≤ f ∨ t ≤ first + i * sp) := by omega
      have hcv := hK (first + i * sp) n s'
      have hik : i * K + K ≤ len * K := by rw [← Nat.succ_mul]; exact Nat.mul_le_mul_right K hi
      refine (hT s' w' i n h1 (by omega) h2 hi hf1 ht1).mono ?_
      rintro e w1 ⟨rfl, hJ1, hK1⟩
      have hr1 := hK1.row h3 hwk (by simp)
      have hk1 := hK1.walk h2 (by simp)
      refine ⟨_, _, rfl, hr1, ?_⟩
      have hJ2 := H.cell hJ1 hr1 htt hlo (o' + i) (u32v (step (first + i * sp) n s').1)
      have hK2 : Kp (some g) w (w1.setCell ⟨g, o' + i, none⟩ (u32v (step (first + i * sp) n s').1)) := (h6.trans hK1.mono).trans (Kp.set _ _ _)
      by_cases her : (step (first + i * sp) n s').2.1 = 0
      · refine .inl ⟨her, _, pre ++ [(step (first + i * sp) n s').1], hJ2, (Kp.set (g := g) _ _ _).walk hk1 (fun e => hkg (by simpa using e)), hr1.set _ _, set_mid h5.2.1 (by omega), ?_, hK2, by rw [Nat.succ_mul]; omega⟩
        exact h5.go (seg_get hi hn) hc (by rw [← her])
      · exact .inr ⟨her, _, h5.err (seg_get hi hn) hc rfl her, hJ2, hK2⟩
  refine (level_through hS hol hlen hfi hs1 hs2 w ns ⟨s, [], hJ, hk, hr, by simp, Ino.At.start _ _, Kp.refl _ _, by omega⟩).mono ?_
  intro e w' h
  exact lv_post hol h

end

end Go.Proofs.YtebdgcoandfocaaGreatDoor

/-
  Package inode: through and over as functions of what the hands do.
-/
namespace Go.Proofs.YtebdgcoandfocaaGreatDoor
open Go.RowKit

section
variable {σ : Type} {o : Ino.Ops σ} {vis : Ino.Stp σ} {c V lo f t : Nat} {rec : Value} {holes : Bool} {J : σ → World → Prop} {m : σ → Nat} {lim : Nat}

/-- What a level of 64 numbers leaves, as through asks it. -/
def LvT (g : Nat) (J : σ → World → Prop) (lv : List (BitVec 32) → σ → List (BitVec 32) × Int × σ) (was : List (BitVec 32)) (s : σ) (w : World) (e : Ending) (w' : World) : Prop :=
  ∃ l er s', lv was s = (l, er, s') ∧ l.length = 64 ∧ e = .returned (.int .i64 er) ∧ J s' w' ∧ Kp (some g) w w' ∧ (er = 0 → TabAt w' g l)

theorem through_J (H : Hands o vis c V lo f t rec holes J m lim) (lv : List (BitVec 32) → σ → List (BitVec 32) × Int × σ) (K : Nat) (hK : ∀ l s, (l.length = 64 → m (lv l s).2.2 ≤ m s + K)) (k place q : Nat) (n : BitVec 32) (vs : Value) (s : σ) (w : World) (hk : WalkAt w k (.pointer (some ⟨c, 0, none⟩)) f t holes vs) (hJ : J s w) (hm : m s + (K + 2) ≤ lim)
    (hL : ∀ was s1 w1 g, was.length = 64 → J s1 w1 → m s1 + K ≤ lim → WalkAt w1 k (.pointer (some ⟨c, 0, none⟩)) f t holes vs → TabAt w1 g was → lo ≤ g → Calls Tryz.prog 46 #[.pointer (some ⟨k, 0, none⟩), .slice (some ⟨g, 0, none⟩) 64 64, .int .i64 (place : Nat), .int .i64 (q : Nat)] w1 fun e w' => LvT g J lv was s1 w1 e w') :
    Calls Tryz.prog 67 #[.pointer (some ⟨k, 0, none⟩), .int .i64 (place : Nat), u32v n, .int .i64 (q : Nat)] w fun e w' => e = .returned (.tuple #[u32v (Ino.thr o holes lv n s).1, .int .i64 (Ino.thr o holes lv n s).2.1]) ∧ J (Ino.thr o holes lv n s).2.2 w' ∧ Kp none w w' := by
  have hlo := H.low s w hJ
  have hmo := Ino.opn_cost H.cost n s
  by_cases hc : n = 0 ∧ holes = false
  · obtain ⟨rfl, rfl⟩ := hc
    refine (through_hole k place q f t _ vs w hk).mono ?_
    rintro e w' ⟨rfl, hb⟩
    rw [Ino.thr_hole rfl rfl]
    exact ⟨rfl, H.below hJ hb, Kp.below hb⟩
  · have hT0 : ∀ W, Below w.heap.size w W → TabAt W w.heap.size Ino.zT → ∀ s1 w1 w2, J s1 w1 → Kp none W w1 → But (fun j => j = w.heap.size) w1 w2 → J s1 w2 ∧ Kp none w w2 := by
      intro W hW hTW s1 w1 w2 h1 hK hb
      have hT1 : TabAt w1 w.heap.size Ino.zT := hK.2 _ _ _ _ hTW (.inl rfl) (by simp)
      refine ⟨H.tab s1 w1 w2 _ h1 hb (fun j hj => by subst hj; exact ⟨hlo, _, _, _, hT1, .inl rfl⟩), ?_⟩
      have h2 : Kp (some w.heap.size) w1 w2 := ⟨hb.size, fun g cs t fr hg _ hx => (hb.block g (Array.getElem?_eq_some_iff.1 hg).1 (fun e => hx (by rw [e]))).trans hg⟩
      exact ((Kp.below hW).trans hK).high h2 (Nat.le_refl _)
    have cO := open_any k f t c n holes vs w (fun er w' => ∃ s' n1 was, Ino.opn o n s = (n1, was, er, s') ∧ J s' w' ∧ Kp none w w') (fun n1 was w' => ∃ s', Ino.opn o n s = (n1, was, 0, s') ∧ J s' w' ∧ Kp none w w') hk
      (fun hn W hW hTW => by
        have hh : holes = true := by
          cases hx : holes with
          | true => rfl
          | false => exact absurd ⟨hn, hx⟩ hc
        refine (H.take s W (H.below hJ hW) (by omega) hh).mono ?_
        rintro e w1 ⟨rfl, h1, hK⟩
        have hop : Ino.opn o n s = ((o.take s).1, Ino.zT, (o.take s).2.1, (o.take s).2.2) := by unfold Ino.opn; rw [if_pos hn]
        have hWl := hTW.lt
        refine ⟨_, _, rfl, by have := hK.1; omega, (hK.2 _ _ _ _ hTW (.inl rfl) (by simp)).trans hTW.symm, fun w2 hb => ?_⟩
        obtain ⟨h2, hK2⟩ := hT0 W hW hTW _ w1 w2 h1 hK hb
        by_cases her : (o.take s).2.1 = 0
        · refine .inr ⟨her, _, ?_, h2, hK2⟩
          rw [her] at hop; exact hop
        · exact .inl ⟨her, _, _, _, hop, h2, hK2⟩)
      (fun hn W hW hTW => by
        refine (H.get s W n (H.below hJ hW) (by omega) hn).mono ?_
        rintro e w1 ⟨h1, hK, hres⟩
        refine ⟨(hK.2 _ _ _ _ hTW (.inl rfl) (by simp)).trans hTW.symm, ?_⟩
        rcases hres with ⟨bs, g, cap, he, rfl, hby, hbl, hcap, htab⟩ | ⟨he, v, rfl⟩
        · refine .inl ⟨bs, g, cap, rfl, hby, hbl, hcap, fun w2 hb => ?_⟩
          obtain ⟨h2, hK2⟩ := hT0 W hW hTW _ w1 w2 h1 hK hb
          refine ⟨_, ?_, h2, hK2⟩
          unfold Ino.opn
          rw [if_neg hn, if_pos he, ← htab, ← he]
        · refine .inr ⟨v, _, he, rfl, fun w2 hb => ?_⟩
          obtain ⟨h2, hK2⟩ := hT0 W hW hTW _ w1 w2 h1 hK hb
          refine ⟨_, 0, Ino.zT, ?_, h2, hK2⟩
          unfold Ino.opn
          rw [if_neg hn, if_neg he])
    have cA := through_any k place q f t c n vs holes w (fun er w' => ∃ s', Ino.thr o holes lv n s = (0, er, s') ∧ J s' w' ∧ Kp none w w') (fun n1 was w' => ∃ s', Ino.opn o n s = (n1, was, 0, s') ∧ J s' w' ∧ Kp none w w')
      (fun n1 was now w' => ∃ s1 s2, Ino.opn o n s = (n1, was, 0, s1) ∧ lv was s1 = (now, 0, s2) ∧ J s2 w' ∧ Kp none w w' ∧ was.length = 64) (fun n' w' => ∃ s', Ino.thr o holes lv n s = (n', 0, s') ∧ J s' w' ∧ Kp none w w') hk
      (by by_cases hn : n = 0
          · refine .inr ?_
            cases hx : holes with
            | true => rfl
            | false => exact absurd ⟨hn, hx⟩ hc
          · exact .inl hn)
      (cO.mono (by
        rintro e w1 ⟨n1, was, er, rfl, hl, hres⟩
        refine ⟨n1, was, er, rfl, hl, ?_⟩
        rcases hres with ⟨her, s', n1', was', h1, h2, h3⟩ | h
        · exact .inl ⟨her, s', Ino.thr_open hc h1 her, h2, h3⟩
        · exact .inr h))
      (by
        rintro er w1 w2 ⟨s', h1, h2, h3⟩ hb
        exact ⟨s', h1, H.below h2 hb, h3.trans (Kp.below hb)⟩)
      (by
        rintro n1 was w1 hl ⟨s1, ho, h1, hK1⟩ w5 b hb hB hT hs hTb
        have hB' : Below w1.heap.size w1 w5 := by rw [hb]; exact hB
        have hK5 : Kp none w w5 := hK1.trans (Kp.below hB')
        have hk5 := hK5.walk hk (by simp)
        have hs1 := H.low s1 w1 h1
        rw [ho] at hmo
        have hmo : m s1 ≤ m s + 1 := hmo
        refine (hL was s1 w5 (b + 1) hl (H.below h1 hB') (by omega) hk5 hT (by omega)).mono ?_
        rintro e w6 ⟨l, er, s2, hlv, hll, rfl, h6, hK6, hT6⟩
        have hw1 := hK1.1
        have hKw : Kp none w w6 := hK5.high hK6 (by omega)
        refine ⟨er, rfl, ?_⟩
        by_cases her : er = 0
        · subst her
          refine .inr ⟨rfl, l, hll, hT6 rfl, (hK6.2 _ _ _ _ hTb (.inl rfl) (by simp)).trans hTb.symm, hKw.walk hk (by simp), s1, s2, ho, hlv, h6, hKw, hl⟩
        · exact .inl ⟨her, s2, Ino.thr_level hc ho hlv her, h6, hKw⟩)
      (by
        rintro n1 was now w6 ⟨s1, s2, ho, hlv, h6, hK0, hwl⟩ hz
        rw [ho] at hmo
        have hmo : m s1 ≤ m s + 1 := hmo
        have hml := hK was s1 hwl
        rw [hlv] at hml
        have hml : m s2 ≤ m s1 + K := hml
        refine (H.give s2 w6 n1 h6 (by omega)).mono ?_
        rintro e w7 ⟨rfl, h7, hK7⟩
        exact ⟨rfl, _, Ino.thr_give hc ho hlv hz, h7, hK0.trans hK7⟩)
      (by
        rintro n1 was now w6 ⟨s1, s2, ho, hlv, h6, hK0, hwl⟩ hll hz hw w7 g hB hg hd
        have hs6 := H.low s2 w6 h6
        rw [ho] at hmo
        have hmo : m s1 ≤ m s + 1 := hmo
        have hml := hK was s1 hwl
        rw [hlv] at hml
        have hml : m s2 ≤ m s1 + K := hml
        refine (H.put s2 w7 n1 (Ino.tabB now) g (H.below h6 hB) (by omega) (by have := tabPart_length now hll 64 (Nat.le_refl _); rwa [tabPart_full now hll] at this) hd (by omega)).mono ?_
        rintro e w8 ⟨rfl, h8, hK8⟩
        exact ⟨rfl, _, Ino.thr_put hc ho hlv hz hw, h8, (hK0.trans (Kp.below hB)).trans hK8⟩)
      (by
        rintro n1 was now w6 ⟨s1, s2, ho, hlv, h6, hK0, hwl⟩ hz hw
        exact ⟨_, Ino.thr_same hc ho hlv hz hw, h6, hK0⟩)
    refine cA.mono ?_
    rintro e w' ⟨n', er, rfl, ⟨her, rfl, s', h1, h2, h3⟩ | ⟨rfl, s', h1, h2, h3⟩⟩
    · rw [h1]; exact ⟨rfl, h2, h3⟩
    · rw [h1]; exact ⟨rfl, h2, h3⟩

theorem thr1_cost (H : Hands o vis c V lo f t rec holes J m lim) (p : Nat) (n : BitVec 32) (s : σ) : m (Ino.thr1 o holes f t vis p n s).2.2 ≤ m s + 258 :=
  Ino.thr_cost (K := 256) H.cost (fun l s hl => by
    have := Ino.lev_cost (step := vis) (f := f) (t := t) (first := p) (sp := 1) m 4 H.cvis l 0 s
    rw [hl] at this; exact this) H.len n s
theorem thr2_cost (H : Hands o vis c V lo f t rec holes J m lim) (p : Nat) (n : BitVec 32) (s : σ) : m (Ino.thr2 o holes f t vis p n s).2.2 ≤ m s + 16514 :=
  Ino.thr_cost (K := 16512) H.cost (fun l s hl => by
    have := Ino.lev_cost (step := Ino.thr1 o holes f t vis) (f := f) (t := t) (first := p) (sp := 64) m 258 (thr1_cost H) l 0 s
    rw [hl] at this; exact this) H.len n s
theorem rowNums {w : World} {g : Nat} {ns : List (BitVec 32)} : RowU w g ns 55 ↔ NumsAt w g ns := Iff.rfl

/-- through over the blocks of a file. -/
theorem through1_J (H : Hands o vis c V lo f t rec holes J m lim) (k place : Nat) (n : BitVec 32) (s : σ) (w : World) (hp : place ≤ 100000) (hk : WalkAt w k (.pointer (some ⟨c, 0, none⟩)) f t holes (.func (.func V) #[rec] #[])) (hJ : J s w) (hm : m s + 258 ≤ lim) :
    Calls Tryz.prog 67 #[.pointer (some ⟨k, 0, none⟩), .int .i64 (place : Nat), u32v n, .int .i64 ((1 : Nat) : Int)] w fun e w' => e = .returned (.tuple #[u32v (Ino.thr1 o holes f t vis place n s).1, .int .i64 (Ino.thr1 o holes f t vis place n s).2.1]) ∧ J (Ino.thr1 o holes f t vis place n s).2.2 w' ∧ Kp none w w' := by
  refine through_J H _ 256 (fun l s hl => by
    have := Ino.lev_cost (step := vis) (f := f) (t := t) (first := place) (sp := 1) m 4 H.cvis l 0 s
    rw [hl] at this; exact this) k place 1 n _ s w hk hJ hm ?_
  intro was s1 w1 g hl h1 hm1 hk1 hT hg
  refine (level_J H k g 0 64 place 64 145 (.inl rfl) was s1 w1 hk1 hT (by omega) (by omega) hp h1 hg hm1).mono ?_
  rintro e w' ⟨l, er, s', hlv, rfl, h2, hK, hr⟩
  rw [List.drop_zero, List.take_of_length_le (by omega)] at hlv
  have hll := Ino.lev_length (step := vis) (f := f) (t := t) (first := place) (sp := 1) was 0 s1
  rw [hlv] at hll
  have hll : l.length = was.length := hll
  refine ⟨l, er, s', hlv, by omega, rfl, h2, hK, fun he => ?_⟩
  have := hr he
  rw [List.take_zero, List.nil_append, List.drop_of_length_le (by omega), List.append_nil] at this
  exact this

/-- through over blocks of numbers. -/
theorem through2_J (H : Hands o vis c V lo f t rec holes J m lim) (k place : Nat) (n : BitVec 32) (s : σ) (w : World) (hp : place ≤ 90000) (hk : WalkAt w k (.pointer (some ⟨c, 0, none⟩)) f t holes (.func (.func V) #[rec] #[])) (hJ : J s w) (hm : m s + 16514 ≤ lim) :
    Calls Tryz.prog 67 #[.pointer (some ⟨k, 0, none⟩), .int .i64 (place : Nat), u32v n, .int .i64 ((64 : Nat) : Int)] w fun e w' => e = .returned (.tuple #[u32v (Ino.thr2 o holes f t vis place n s).1, .int .i64 (Ino.thr2 o holes f t vis place n s).2.1]) ∧ J (Ino.thr2 o holes f t vis place n s).2.2 w' ∧ Kp none w w' := by
  refine through_J H _ 16512 (fun l s hl => by
    have := Ino.lev_cost (step := Ino.thr1 o holes f t vis) (f := f) (t := t) (first := place) (sp := 64) m 258 (thr1_cost H) l 0 s
    rw [hl] at this; exact this) k place 64 n _ s w hk hJ hm ?_
  intro was s1 w1 g hl h1 hm1 hk1 hT hg
  refine (levelT_J H (Ino.thr1 o holes f t vis) 258 (thr1_cost H) k g 0 64 place 64 64 _ 145 (.inl rfl) was s1 w1 hk1 hT (by omega) (by omega) (by omega) (by omega) (by omega) h1 hg hm1 ?_).mono ?_
  · intro s' w' i n' hJ' hm' hk' hi _ _
    exact through1_J H k (place + i * 64) n' s' w' (by omega) hk' hJ' hm'
  rintro e w' ⟨l, er, s', hlv, rfl, h2, hK, hr⟩
  rw [List.drop_zero, List.take_of_length_le (by omega)] at hlv
  have hll := Ino.lev_length (step := Ino.thr1 o holes f t vis) (f := f) (t := t) (first := place) (sp := 64) was 0 s1
  rw [hlv] at hll
  have hll : l.length = was.length := hll
  refine ⟨l, er, s', hlv, by omega, rfl, h2, hK, fun he => ?_⟩
  have := hr he
  rw [List.take_zero, List.nil_append, List.drop_of_length_le (by omega), List.append_nil] at this
  exact this

set_option maxRecDepth 8000 in
set_option maxHeartbeats 1000000 in
theorem over_J (H : Hands o vis c V lo f t rec holes J m lim) (k g : Nat) (ns : List (BitVec 32)) (s : σ) (w : World) (hn : ns.length = 10) (hk : WalkAt w k (.pointer (some ⟨c, 0, none⟩)) f t holes (.func (.func V) #[rec] #[])) (hr : NumsAt w g ns) (hJ : J s w) (hlo : lo ≤ g) (hm : m s + 16804 ≤ lim) :
    Calls Tryz.prog 29 #[.pointer (some ⟨k, 0, none⟩), .pointer (some ⟨g, 0, none⟩)] w fun e w' => ∃ ns' er s', Ino.ovr o holes f t vis ns s = (ns', er, s') ∧ e = .returned (.int .i64 er) ∧ J s' w' ∧ Kp (some g) w w' ∧ (er = 0 → NumsAt w' g ns' ∧ ns'.length = 10) := by
  have hkg := walk_ne hk (rowNums.2 hr) (.inr rfl)
  have c1 : Calls Tryz.prog 46 #[.pointer (some ⟨k, 0, none⟩), .slice (some ⟨g, 0, none⟩) 8 10, .int .i64 0, .int .i64 1] w fun e w' => LvP g 0 8 0 1 f t 55 J vis ns s w e w' := level_J H k g 0 8 0 10 55 (.inr rfl) ns s w hk hr (by omega) (by omega) (by omega) hJ hlo (by omega)
  have c2 : ∀ ms s1 w1, ms.length = 10 → J s1 w1 → m s1 ≤ m s + 32 → WalkAt w1 k (.pointer (some ⟨c, 0, none⟩)) f t holes (.func (.func V) #[rec] #[]) → NumsAt w1 g ms → Calls Tryz.prog 46 #[.pointer (some ⟨k, 0, none⟩), .slice (some ⟨g, 8, none⟩) 1 2, .int .i64 8, .int .i64 64] w1 fun e w' => LvP g 8 1 8 64 f t 55 J (Ino.thr1 o holes f t vis) ms s1 w1 e w' := fun ms s1 w1 hml h1 hm1 hk1 hr1 =>
    levelT_J H _ 258 (thr1_cost H) k g 8 1 8 64 2 _ 55 (.inr rfl) ms s1 w1 hk1 hr1 (by omega) (by omega) (by omega) (by omega) (by omega) h1 hlo (by omega) (fun s' w' i n' hJ' hm' hk' hi _ _ => through1_J H k (8 + i * 64) n' s' w' (by omega) hk' hJ' hm')
  have c3 : ∀ ms s1 w1, ms.length = 10 → J s1 w1 → m s1 ≤ m s + 290 → WalkAt w1 k (.pointer (some ⟨c, 0, none⟩)) f t holes (.func (.func V) #[rec] #[]) → NumsAt w1 g ms → Calls Tryz.prog 46 #[.pointer (some ⟨k, 0, none⟩), .slice (some ⟨g, 9, none⟩) 1 1, .int .i64 72, .int .i64 4096] w1 fun e w' => LvP g 9 1 72 4096 f t 55 J (Ino.thr2 o holes f t vis) ms s1 w1 e w' := fun ms s1 w1 hml h1 hm1 hk1 hr1 =>
    levelT_J H _ 16514 (thr2_cost H) k g 9 1 72 4096 1 _ 55 (.inr rfl) ms s1 w1 hk1 hr1 (by omega) (by omega) (by omega) (by omega) (by omega) h1 hlo (by omega) (fun s' w' i n' hJ' hm' hk' hi _ _ => through2_J H k (72 + i * 4096) n' s' w' (by omega) hk' hJ' hm')
  have sl1 := slice10a g
  have sl2 := slice10b g
  have sl3 := slice10c g
  have HK := hide hk
  have C2 := hide c2
  have C3 := hide c3
  obtain ⟨P, hP⟩ : ∃ P, P = Ino.ovr o holes f t vis ns s := ⟨_, rfl⟩
  have HP := hide hP
  rw [← hP]
  clear c2 c3 hk hr hP
  go_enter Tryz.func29, Tryz.ntmps29
  go_wp2_with (go_at_call 46; refine c1.mono ?_; rintro e w1 ⟨l1, er, s1, hlv, rfl, h1, hK1, hr1⟩; clear c1; refine Stop.out ?_)
  refine Stop.mk ?_
  rw [List.drop_zero] at hlv
  have hll := Ino.lev_length (step := vis) (f := f) (t := t) (first := 0) (sp := 1) (ns.take 8) 0 s
  rw [hlv, List.length_take] at hll
  have hl1 : l1.length = 8 := by have : l1.length = min 8 ns.length := hll; omega
  clear hll
  by_cases her : er = 0
  · subst her
    have HR1 := hide (hr1 rfl)
    have H1 := hide (⟨hlv, hl1, h1, hK1⟩ : _ ∧ _ ∧ _ ∧ _)
    have hml : ([] ++ l1 ++ ns.drop 8).length = 10 := by simp; omega
    have hmc : m s1 ≤ m s + 32 := by
      have := Ino.lev_cost (step := vis) (f := f) (t := t) (first := 0) (sp := 1) m 4 H.cvis (ns.take 8) 0 s
      rw [H1.out.1, List.length_take, hn] at this; exact this
    have HM1 := hide hmc
    have c2 := C2.out _ s1 w1 hml h1 hmc (hK1.walk HK.out (fun e => hkg (by simpa using e))) HR1.out
    clear hlv h1 hK1 hr1 hl1 hml hmc
    go_wp2_with (go_at_call 46; refine c2.mono ?_; rintro e w2 ⟨l2, er, s2, hlv, rfl, h2, hK2, hr2⟩; clear c2; refine Stop.out ?_)
    refine Stop.mk ?_
    have hl1 := H1.out.2.1
    have e8 : (([] ++ l1 ++ ns.drop 8).drop 8).take 1 = (ns.drop 8).take 1 := by rw [List.nil_append, List.drop_left' hl1]
    rw [e8] at hlv
    have hll := Ino.lev_length (step := Ino.thr1 o holes f t vis) (f := f) (t := t) (first := 8) (sp := 64) ((ns.drop 8).take 1) 0 s1
    rw [hlv, List.length_take, List.length_drop] at hll
    have hl2 : l2.length = 1 := by have : l2.length = min 1 (ns.length - 8) := hll; omega
    have e9 : ([] ++ l1 ++ ns.drop 8).take 8 ++ l2 ++ ([] ++ l1 ++ ns.drop 8).drop (8 + 1) = l1 ++ l2 ++ ns.drop 9 := by
      rw [List.nil_append, List.take_left' hl1, ← List.drop_drop, List.drop_left' hl1, List.drop_drop]
    rw [e9] at hr2
    clear hll e8 e9
    by_cases her : er = 0
    · subst her
      have HR2 := hide (hr2 rfl)
      have H2 := hide (⟨hlv, hl2, h2, H1.out.2.2.2.trans hK2⟩ : _ ∧ _ ∧ _ ∧ _)
      have hml : (l1 ++ l2 ++ ns.drop 9).length = 10 := by simp; omega
      have hmc : m s2 ≤ m s + 290 := by
        have := Ino.lev_cost (step := Ino.thr1 o holes f t vis) (f := f) (t := t) (first := 8) (sp := 64) m 258 (thr1_cost H) ((ns.drop 8).take 1) 0 s1
        rw [H2.out.1, List.length_take, List.length_drop, hn] at this
        have h258 : m s2 ≤ m s1 + 258 := this
        have := HM1.out; omega
      have c3 := C3.out _ s2 w2 hml h2 hmc (H2.out.2.2.2.walk HK.out (fun e => hkg (by simpa using e))) HR2.out
      clear hlv h2 hK2 hr2 hl2 hml hl1 hmc
      go_wp2_with (go_at_call 46; refine c3.mono ?_; rintro e w3 ⟨l3, er, s3, hlv, rfl, h3, hK3, hr3⟩; clear c3; refine Stop.out ?_)
      refine Stop.mk ?_
      have hl1 := H1.out.2.1
      have hl2 := H2.out.2.1
      have h12 : (l1 ++ l2).length = 9 := by simp; omega
      have e10 : ((l1 ++ l2 ++ ns.drop 9).drop 9).take 1 = ns.drop 9 := by rw [List.drop_left' h12, List.take_of_length_le (by simp; omega)]
      rw [e10] at hlv
      have hll := Ino.lev_length (step := Ino.thr2 o holes f t vis) (f := f) (t := t) (first := 72) (sp := 4096) (ns.drop 9) 0 s2
      rw [hlv, List.length_drop] at hll
      have hl3 : l3.length = 1 := by have : l3.length = ns.length - 9 := hll; omega
      have e11 : (l1 ++ l2 ++ ns.drop 9).take 9 ++ l3 ++ (l1 ++ l2 ++ ns.drop 9).drop (9 + 1) = l1 ++ l2 ++ l3 := by
        rw [List.take_left' h12, List.drop_of_length_le (by simp; omega), List.append_nil]
      rw [e11] at hr3
      have hov : Ino.ovr o holes f t vis ns s = if er ≠ 0 then (ns, er, s3) else (l1 ++ l2 ++ l3, 0, s3) := by
        unfold Ino.ovr
        simp only [H1.out.1, H2.out.1, hlv, ne_eq, not_true, if_false]
      have H3 := hide (⟨hov, h3, H2.out.2.2.2.trans hK3, hr3, hl3, hl1, hl2⟩ : _ ∧ _ ∧ _ ∧ _ ∧ _ ∧ _ ∧ _)
      clear hlv h3 hK3 hr3 hl1 hl2 h12 hll e10 e11 hl3 hov
      go_wp2
      go_ret
      obtain ⟨q1, q2, q3, q4, q5, q6, q7⟩ := H3.out
      rw [HP.out]
      by_cases her : er = 0
      · subst her
        exact ⟨_, 0, s3, by rw [q1, if_neg (by simp)], rfl, q2, q3, fun _ => ⟨q4 rfl, by simp; omega⟩⟩
      · exact ⟨_, er, s3, by rw [q1, if_pos her], rfl, q2, q3, fun h => absurd h her⟩
    · have hov : Ino.ovr o holes f t vis ns s = (ns, er, s2) := by
        unfold Ino.ovr
        simp only [H1.out.1, hlv, ne_eq, not_true, if_false]
        rw [if_pos her]
      have H3 := hide (⟨hov, h2, H1.out.2.2.2.trans hK2⟩ : _ ∧ _ ∧ _)
      have q1 : (er != 0) = true := by simp [her]
      have q2 : (er == 0) = false := by simp [her]
      clear hlv h2 hK2 hr2 hl2 hl1 hov
      go_wp2
      go_ret
      exact ⟨ns, er, s2, HP.out.trans H3.out.1, rfl, H3.out.2.1, H3.out.2.2, fun h => absurd h her⟩
  · have hov : Ino.ovr o holes f t vis ns s = (ns, er, s1) := by
      unfold Ino.ovr
      simp only [hlv]
      rw [if_pos her]
    have H3 := hide (⟨hov, h1, hK1⟩ : _ ∧ _ ∧ _)
    have q1 : (er != 0) = true := by simp [her]
    have q2 : (er == 0) = false := by simp [her]
    clear hlv h1 hK1 hr1 hl1 hov
    go_wp2
    go_ret
    exact ⟨ns, er, s1, HP.out.trans H3.out.1, rfl, H3.out.2.1, H3.out.2.2, fun h => absurd h her⟩

set_option maxRecDepth 8000 in
set_option maxHeartbeats 400000 in
theorem ovr_cost (H : Hands o vis c V lo f t rec holes J m lim) (ns : List (BitVec 32)) (hn : ns.length = 10) (s : σ) : m (Ino.ovr o holes f t vis ns s).2.2 ≤ m s + 16804 := by
  have h1 := Ino.lev_cost (step := vis) (f := f) (t := t) (first := 0) (sp := 1) m 4 H.cvis (ns.take 8) 0 s
  have h2 := Ino.lev_cost (step := Ino.thr1 o holes f t vis) (f := f) (t := t) (first := 8) (sp := 64) m 258 (thr1_cost H) ((ns.drop 8).take 1) 0 (Ino.lev vis f t 0 1 (ns.take 8) 0 s).2.2
  have h3 := Ino.lev_cost (step := Ino.thr2 o holes f t vis) (f := f) (t := t) (first := 72) (sp := 4096) m 16514 (thr2_cost H) (ns.drop 9) 0 (Ino.lev (Ino.thr1 o holes f t vis) f t 8 64 ((ns.drop 8).take 1) 0 (Ino.lev vis f t 0 1 (ns.take 8) 0 s).2.2).2.2
  rw [List.length_take] at h1
  rw [List.length_take, List.length_drop] at h2
  rw [List.length_drop] at h3
  rw [hn] at h1 h2 h3
  unfold Ino.ovr
  dsimp only
  generalize Ino.lev vis f t 0 1 (ns.take 8) 0 s = A at h1 h2 h3 ⊢
  generalize Ino.lev (Ino.thr1 o holes f t vis) f t 8 64 ((ns.drop 8).take 1) 0 A.2.2 = B at h2 h3 ⊢
  generalize Ino.lev (Ino.thr2 o holes f t vis) f t 72 4096 (ns.drop 9) 0 B.2.2 = C at h3 ⊢
  have h1 : m A.2.2 ≤ m s + 32 := by simpa using h1
  have h2 : m B.2.2 ≤ m A.2.2 + 258 := by simpa using h2
  have h3 : m C.2.2 ≤ m B.2.2 + 16514 := by simpa using h3
  split
  · show m A.2.2 ≤ _; omega
  split
  · show m B.2.2 ≤ _; omega
  split
  · show m C.2.2 ≤ _; omega
  · show m C.2.2 ≤ _; omega

end

end Go.Proofs.YtebdgcoandfocaaGreatDoor

/-
  Package inode: a write's parts: put, find, fill.
-/
namespace Go.Proofs.YtebdgcoandfocaaGreatDoor
open Go.RowKit Go.Maps Go.Sort Go.Shelf

/-- A first element is appended, and the field that holds the slice is set. -/
theorem app_first {w1 w2 : World} {wb base : Nat} {cs : List Value} {t e : TypeId} {size : Nat} {v2 : Value} {xs : List Value} {o : Obj} (hw : BlkAt w1 wb cs t) (hown : w2.ownsRow base e size v2 1 xs) (hg : (w1.alloc o).grownBy w2 none)
    (hat : v2.ownBlock = (Value.slice none 0 0).ownBlock ∨ v2.ownBlock = some (w1.alloc o).heap.size) :
    ∃ g cap, v2 = .slice (some ⟨g, 0, none⟩) 1 cap ∧ BlkAt w2 wb cs t ∧ Below w1.heap.size w1 w2 ∧ w1.heap.size < g ∧ ∀ i, BlkAt (w2.setCell ⟨wb, i, none⟩ (.slice (some ⟨g, 0, none⟩) 1 cap)) wb (cs.set i (.slice (some ⟨g, 0, none⟩) 1 cap)) t ∧ (w2.setCell ⟨wb, i, none⟩ (.slice (some ⟨g, 0, none⟩) 1 cap)).ownsRow base e size (.slice (some ⟨g, 0, none⟩) 1 cap) 1 xs ∧ But (fun k => k = wb) w1 (w2.setCell ⟨wb, i, none⟩ (.slice (some ⟨g, 0, none⟩) 1 cap)) := by
  obtain ⟨g, cap, rfl, _, _⟩ := hown.form (by omega)
  have hb : Below w1.heap.size w1 w2 := ((Below.refl _ w1).alloc (Nat.le_refl _) _).grown hg (by simp) (fun k e => by cases e)
  have hgs : g = w1.heap.size + 1 := by
    rcases hat with e | e
    · cases e
    · simpa [Value.ownBlock] using e
  have hlt := hw.lt
  have hw2 : BlkAt w2 wb cs t := hw.below hb
  exact ⟨g, cap, rfl, hw2, hb, by omega, fun i => ⟨hw2.set i _, own_set hown (fun k hk => own_ne (by omega) hk) _ _, (But.of_below (S := fun k => k = wb) hb).setCell _ rfl _⟩⟩

set_option maxRecDepth 8000 in
set_option maxHeartbeats 1000000 in
theorem iput_first (wb n dg dc : Nat) (cs : List Value) (t : TypeId) (w : World) (hw : BlkAt w wb cs t) (h4 : cs[4]? = some (.slice none 0 0)) (hn : n < 65536) :
    Calls Tryz.prog 64 #[.pointer (some ⟨wb, 0, none⟩), .int .u32 (n : Nat), .slice (some ⟨dg, 0, none⟩) 512 dc] w fun e w' => e = .returned (.tuple #[]) ∧ ∃ g cap, BlkAt w' wb (cs.set 4 (.slice (some ⟨g, 0, none⟩) 1 cap)) t ∧ w'.ownsRow w.heap.size 143 2 (.slice (some ⟨g, 0, none⟩) 1 cap) 1 [.int .i64 (n : Nat), .slice (some ⟨dg, 0, none⟩) 512 dc] ∧ But (fun k => k = wb) w w' := by
  have d1 := hw.cell h4
  obtain ⟨k0, hk0, hx0, hx1, hx2⟩ := info_parts Tryz.infoAPut
  have hcv : IntKind.i64.wrap (n : Int) = (n : Int) := by rw [IntKind.wrap_i64]; omega
  have HW : Hid (BlkAt w wb cs t) := hw
  clear hw
  go_enter Tryz.func64, Tryz.ntmps64
  go_wp2_with (at_builtin; refine Stop.out ?_)
  refine Stop.mk ?_
  refine wpList_append_own_at _ rfl _ _ 66 rfl w.heap.size 143 k0 (.agg #[.int .i64 0, .slice none 0 0]) 2 32 Tryz.underlying66 hk0 hx0 hx1 hx2 rfl (by decide) (.slice none 0 0) 0 [] rfl ⟨rfl, .inl ⟨rfl, rfl⟩⟩ ⟨w.heap.size, 0, none⟩ 1 1 [.int .i64 (n : Nat), .slice (some ⟨dg, 0, none⟩) 512 dc] rfl rfl (cell_two_new _ _ _ _) (by intro u hu; simp at hu; rcases hu with rfl | rfl <;> rfl) (by unfold maxLen; omega) (by omega) (by simp) ?_
  intro v2 w2 hown2 hg2 _ hat2
  obtain ⟨g, cap, rfl, hw2, hb2, hgl, H⟩ := app_first HW.out hown2 hg2 hat2
  have d3 := hw2.cell h4
  have f3 : w2.frozen? ⟨wb, 4, none⟩ = false := frozenOf hw2 _
  have H2 : Hid _ := H 4
  clear hown2 hg2 hat2 hb2 hw2 H
  go_wp2
  go_end0
  exact ⟨rfl, g, cap, H2.out⟩

theorem cell_three_new (w : World) (x y z : Value) (t : TypeId) : ∀ j u, [x, y, z][j]? = some u → (w.alloc (.cells #[x, y, z] t)).cell? ((⟨w.heap.size, 0, none⟩ : Addr).add j) = some u := by
  intro j u hj
  rw [Addr.add_lit, Nat.zero_add, cellOf (heap_alloc_new w _) j]
  simpa using hj

set_option maxRecDepth 8000 in
set_option maxHeartbeats 1000000 in
theorem find_one (wb r q : Nat) (cs : List Value) (mf : Bm.MS) (w : World) (hw : BlkAt w wb cs 71) (h1 : cs[1]? = some (.pointer (some ⟨mf.a, 0, none⟩))) (h2 : cs[2]? = some (.slice none 0 0)) (h7 : cs[7]? = some (.slice none 0 0)) (hm : Bm.MapAt w mf) (ht : Bm.Tab64 w) (hL : Least mf r) (hr : r < 65536) :
    Calls Tryz.prog 41 #[.pointer (some ⟨wb, 0, none⟩), .int .i64 (q : Nat), .int .u32 0] w fun e w' => e = .returned (.tuple #[.int .u32 (r : Nat), .int .i64 0]) ∧ ∃ g cap g7 cap7, BlkAt w' wb ((cs.set 2 (.slice (some ⟨g, 0, none⟩) 1 cap)).set 7 (.slice (some ⟨g7, 0, none⟩) 1 cap7)) 71 ∧ w'.ownsRow w.heap.size 3 1 (.slice (some ⟨g, 0, none⟩) 1 cap) 1 [.int .i64 (r : Nat)] ∧ w'.ownsRow w.heap.size 102 3 (.slice (some ⟨g7, 0, none⟩) 1 cap7) 1 [.int .i64 (q : Nat), .int .u32 (r : Nat), .bool true] ∧ Bm.MapAt w' (mf.turn r) ∧ But (fun k => k = mf.b ∨ k = wb) w w' := by
  have cT := take_one wb r cs 71 mf w hw h1 h2 hm ht hL hr (by decide)
  obtain ⟨k0, hk0, hx0, hx1, hx2⟩ := info_parts Tryz.infoSpot
  have hmn := hm.ne
  have HW : Hid (wb ≠ mf.b ∧ wb ≠ mf.a) := ⟨map_b_ne hm hw (by decide), map_a_ne hm hw (by decide)⟩
  clear hm ht hw
  go_enter Tryz.func41, Tryz.ntmps41
  go_wp2_with (go_at_call 63; refine cT.mono ?_; rintro e w1 ⟨rfl, g, cap, hw1, ho1, hm1, hb1⟩; clear cT; refine Stop.out ?_)
  refine Stop.mk ?_
  have h7' : (cs.set 2 (.slice (some ⟨g, 0, none⟩) 1 cap))[7]? = some (.slice none 0 0) := by rw [List.getElem?_set_ne (by decide)]; exact h7
  have d7 := hw1.cell h7'
  have hz1 := hb1.size
  have H1 : Hid (BlkAt w1 wb (cs.set 2 (.slice (some ⟨g, 0, none⟩) 1 cap)) 71 ∧ w1.ownsRow w.heap.size 3 1 (.slice (some ⟨g, 0, none⟩) 1 cap) 1 [.int .i64 (r : Nat)] ∧ Bm.MapAt w1 (mf.turn r) ∧ But (fun k => k = mf.b ∨ k = wb) w w1) := ⟨hw1, ho1, hm1, hb1⟩
  clear hw1 ho1 hm1 hb1
  go_wp2_with (at_builtin; refine Stop.out ?_)
  refine Stop.mk ?_
  refine wpList_append_own_at _ rfl _ _ 69 rfl w.heap.size 102 k0 (.agg #[.int .i64 0, .int .u32 0, .bool false]) 3 16 Tryz.underlying69 hk0 hx0 hx1 hx2 rfl (by decide) (.slice none 0 0) 0 [] rfl ⟨rfl, .inl ⟨rfl, rfl⟩⟩ ⟨w1.heap.size, 0, none⟩ 1 1 [.int .i64 (q : Nat), .int .u32 (r : Nat), .bool true] rfl rfl (cell_three_new _ _ _ _ _) (by intro u hu; simp at hu; rcases hu with rfl | rfl | rfl <;> rfl) (by unfold maxLen; omega) (by omega) (by simp; omega) ?_
  intro v2 w2 hown2 hg2 _ hat2
  obtain ⟨g7, cap7, rfl, hw2, hb2, hgl, H⟩ := app_first H1.out.1 hown2 hg2 hat2
  have d3 := hw2.cell h7'
  have f3 : w2.frozen? ⟨wb, 7, none⟩ = false := frozenOf hw2 _
  obtain ⟨x1, x2, x3⟩ := H 7
  have hgw : g ≠ wb := fun e => by
    obtain ⟨g', _, cur, e', _, hblk, _⟩ : ∃ g' cap' cur, (Value.slice (some ⟨g, 0, none⟩) 1 cap) = .slice (some ⟨g', 0, none⟩) 1 cap' ∧ w.heap.size ≤ g' ∧ w1.heap[g']? = some (.cells cur 3 (0, 0)) ∧ True := by
      rcases H1.out.2.1.2 with ⟨e, _⟩ | ⟨g', cap', cur, e, hge, hblk, _⟩
      · cases e
      · exact ⟨g', cap', cur, e, hge, hblk, trivial⟩
    cases e'
    subst e
    rw [show w1.heap[g]? = _ from H1.out.1] at hblk
    simp only [Option.some.injEq, Obj.cells.injEq] at hblk
    exact absurd hblk.2.1 (by decide)
  have H2 : Hid (BlkAt (w2.setCell ⟨wb, 7, none⟩ (.slice (some ⟨g7, 0, none⟩) 1 cap7)) wb ((cs.set 2 (.slice (some ⟨g, 0, none⟩) 1 cap)).set 7 (.slice (some ⟨g7, 0, none⟩) 1 cap7)) 71 ∧ (w2.setCell ⟨wb, 7, none⟩ (.slice (some ⟨g7, 0, none⟩) 1 cap7)).ownsRow w.heap.size 3 1 (.slice (some ⟨g, 0, none⟩) 1 cap) 1 [.int .i64 (r : Nat)] ∧ (w2.setCell ⟨wb, 7, none⟩ (.slice (some ⟨g7, 0, none⟩) 1 cap7)).ownsRow w.heap.size 102 3 (.slice (some ⟨g7, 0, none⟩) 1 cap7) 1 [.int .i64 (q : Nat), .int .u32 (r : Nat), .bool true] ∧ Bm.MapAt (w2.setCell ⟨wb, 7, none⟩ (.slice (some ⟨g7, 0, none⟩) 1 cap7)) (mf.turn r) ∧ But (fun k => k = mf.b ∨ k = wb) w (w2.setCell ⟨wb, 7, none⟩ (.slice (some ⟨g7, 0, none⟩) 1 cap7))) :=
    ⟨x1, own_set (own_belowT H1.out.2.1 hb2) (fun k hk => own_ne hgw hk) _ _, x2, H1.out.2.2.1.keep (but_only x3) (fun e => HW.out.2 e.symm) (fun e => HW.out.1 e.symm), H1.out.2.2.2.trans (x3.mono (fun k _ e => .inr e))⟩
  clear hown2 hg2 hat2 hb2 hw2 H x1 x2 x3 hgl
  go_wp2
  go_ret2
  exact ⟨rfl, g, cap, g7, cap7, H2.out⟩

end Go.Proofs.YtebdgcoandfocaaGreatDoor

/-
  Package inode: a change in memory, and what take, give, put and get make of it.
-/
namespace Go.Proofs.YtebdgcoandfocaaGreatDoor
open Go.RowKit Go.Maps Go.Sort Go.Shelf

def i64n (x : Nat) : Value := .int .i64 (x : Nat)
def putC : List (Nat × By) → List (Nat × Nat) → List Value
  | p :: P, d :: D => .int .i64 (p.1 : Nat) :: .slice (some ⟨d.1, 0, none⟩) 512 d.2 :: putC P D
  | _, _ => []
theorem putC_snoc : ∀ (P : List (Nat × By)) (D : List (Nat × Nat)) (p : Nat × By) (d : Nat × Nat), D.length = P.length → putC (P ++ [p]) (D ++ [d]) = putC P D ++ [.int .i64 (p.1 : Nat), .slice (some ⟨d.1, 0, none⟩) 512 d.2]
  | [], [], p, d, _ => rfl
  | q :: P, f :: D, p, d, h => by
    simp only [List.cons_append, putC]
    rw [putC_snoc P D p d (by simpa using h)]
  | [], _ :: _, _, _, h => by simp at h
  | _ :: _, [], _, _, h => by simp at h
theorem putC_get : ∀ {P : List (Nat × By)} {D : List (Nat × Nat)} {i : Nat} {p : Nat × By} {d : Nat × Nat}, P[i]? = some p → D[i]? = some d → (putC P D)[2 * i]? = some (.int .i64 (p.1 : Nat)) ∧ (putC P D)[2 * i + 1]? = some (.slice (some ⟨d.1, 0, none⟩) 512 d.2)
  | q :: P, f :: D, 0, p, d, h1, h2 => by
    simp only [List.getElem?_cons_zero, Option.some.injEq] at h1 h2
    subst h1; subst h2
    simp [putC]
  | q :: P, f :: D, i + 1, p, d, h1, h2 => by
    have := putC_get (P := P) (D := D) (i := i) (by simpa using h1) (by simpa using h2)
    simp only [putC]
    rw [show 2 * (i + 1) = 2 * i + 1 + 1 by omega, show 2 * i + 1 + 1 + 1 = 2 * i + 1 + 1 + 1 from rfl]
    simpa using this
  | [], _, _, _, _, h1, _ => by simp at h1
  | _ :: _, [], _, _, _, _, h2 => by simp at h2

/-- A change's lists. -/
structure CR (w : World) (lo : Nat) (T G : List Nat) (P : List (Nat × By)) (sT sG sP : Value) (D : List (Nat × Nat)) : Prop where
  t : w.ownsRow lo 3 1 sT T.length (T.map i64n)
  g : w.ownsRow lo 3 1 sG G.length (G.map i64n)
  ap : ∀ k, sT.ownBlock = some k → sG.ownBlock = some k → False
  p : w.ownsRow lo 143 2 sP P.length (putC P D)
  dl : D.length = P.length
  d : ∀ (i : Nat) (p : Nat × By) (d : Nat × Nat), P[i]? = some p → D[i]? = some d → Bytes w (some ⟨d.1, 0, none⟩) p.2 ∧ p.2.length = 512 ∧ (∃ cs fr, w.heap[d.1]? = some (.cells cs 5 fr)) ∧ lo ≤ d.1
theorem bytes_kept {w w' : World} {g : Nat} {b : By} {S : Nat → Prop} (hbb : Bytes w (some ⟨g, 0, none⟩) b) (ht : ∃ cs fr, w.heap[g]? = some (.cells cs 5 fr)) (hb : But S w w') (hS : ¬ S g) : Bytes w' (some ⟨g, 0, none⟩) b ∧ ∃ cs fr, w'.heap[g]? = some (.cells cs 5 fr) := by
  obtain ⟨cs, fr, ht⟩ := ht
  have hk := hb.block g (Array.getElem?_eq_some_iff.1 ht).1 hS
  refine ⟨?_, cs, fr, hk.trans ht⟩
  intro h0
  obtain ⟨s, o, e, hx⟩ := hbb h0
  refine ⟨s, o, e, fun i x hi => ?_⟩
  cases e
  rw [World.cell?_of_block (w := w) hk]
  exact hx i x hi
theorem CR.but {w w' : World} {lo : Nat} {T G : List Nat} {P : List (Nat × By)} {sT sG sP : Value} {D : List (Nat × Nat)} {S : Nat → Prop} (h : CR w lo T G P sT sG sP D) (hb : But S w w') (hS : ∀ k cs t fr, w.heap[k]? = some (.cells cs t fr) → t = 3 ∨ t = 143 ∨ t = 5 → ¬ S k) : CR w' lo T G P sT sG sP D := by
  refine ⟨own_butI h.t hb (fun k cs _ hk => hS k cs 3 _ hk (.inl rfl)), own_butI h.g hb (fun k cs _ hk => hS k cs 3 _ hk (.inl rfl)), h.ap, own_butI h.p hb (fun k cs _ hk => hS k cs 143 _ hk (.inr (.inl rfl))), h.dl, ?_⟩
  intro i p d h1 h2
  obtain ⟨h3, h4, ⟨cs, fr, h5⟩, h8⟩ := h.d i p d h1 h2
  obtain ⟨h6, h7⟩ := bytes_kept h3 ⟨cs, fr, h5⟩ hb (hS d.1 cs 5 fr h5 (.inr (.inr rfl)))
  exact ⟨h6, h4, h7, h8⟩

/-- A cache, as a walk needs it. -/
structure LPok (LP : Nat → World → Prop) (w0 : World) (c nb : Nat) (V : Nat → By) : Prop where
  foreign : ∀ b w w' S, LP b w → But S w w' → Foreign w S → LP b w'
  more : ∀ b w, LP b w → LP (b + 1) w
  get : ∀ b w x, LP b w → b < 800000 → x < nb → Calls Tryz.prog 68 #[ep c, .int .i64 (x : Nat)] w fun e w' => ∃ g cap, e = .returned (.tuple #[.slice (some ⟨g, 0, none⟩) 512 cap, .int .i64 0]) ∧ (∀ w'', But (fun k => k = g) w' w'' → LP (b + 1) w'') ∧ But (Cmn w0 w) w w' ∧ w'.ownsRow w.heap.size 5 1 (.slice (some ⟨g, 0, none⟩) 512 cap) 512 ((V x).map u8v) ∧ (V x).length = 512
  bad : ∀ b w (x : Nat), LP b w → nb ≤ x → x < 4294967296 → Calls Tryz.prog 68 #[ep c, .int .i64 (x : Nat)] w fun e w' => e = .returned (.tuple #[.slice none 0 0, .int .i64 22]) ∧ w' = w

/-- The types of what is a change's own. -/
def chT (tt t : TypeId) : Prop := t = 3 ∨ t = 143 ∨ t = tt ∨ cTag t
def CT (tt : TypeId) (w : World) (k : Nat) : Prop := ∀ cs t fr, w.heap[k]? = some (.cells cs t fr) → chT tt t
structure okTT (tt : TypeId) : Prop where
  f : foreignT tt
  n : tt ≠ 3 ∧ tt ≠ 143 ∧ tt ≠ 61 ∧ tt ≠ 60 ∧ tt ≠ 145 ∧ tt ≠ 55 ∧ tt ≠ 81 ∧ tt ≠ 102 ∧ tt ≠ 57
theorem ct_kp {tt : TypeId} (htt : okTT tt) {w w' : World} (h : But (CT tt w) w w') : Kp none w w' := by
  refine ⟨h.size, fun g cs t fr hg ht _ => (h.block g (Array.getElem?_eq_some_iff.1 hg).1 fun hc => ?_).trans hg⟩
  have hn := htt.n
  rcases ht with rfl | rfl | rfl <;> rcases hc _ _ _ hg with e | e | e | e | e | e
  all_goals first | exact absurd e (by decide) | exact hn.2.2.2.2.1 e.symm | exact hn.2.2.2.2.2.1 e.symm | exact hn.2.2.2.2.2.2.1 e.symm
theorem ct_trans {tt : TypeId} {a b c : World} (h1 : But (CT tt a) a b) (h2 : But (CT tt b) b c) : But (CT tt a) a c := by
  refine ⟨h2.os.trans h1.os, h2.tape.trans h1.tape, h2.output.trans h1.output, Nat.le_trans h1.size h2.size, fun k hk hn => ?_⟩
  have e1 := h1.block k hk hn
  refine (h2.block k (Nat.lt_of_lt_of_le hk h1.size) fun hc => hn fun cs t fr hh => ?_).trans e1
  exact hc cs t fr (e1.trans hh)
theorem ct_cmn {tt : TypeId} {w0 a b : World} (h : But (Cmn w0 a) a b) : But (CT tt a) a b := h.mono (fun _ _ hc _ _ _ hh => .inr (.inr (.inr (hc.2 _ _ _ hh))))
theorem ct_below {tt : TypeId} {a b : World} (h : Below a.heap.size a b) : But (CT tt a) a b := But.of_below h

/-- A change in memory: budget b, taken T, given G, puts P; exs: what stands behind it in its struct. -/
structure CJ (LP : Nat → World → Prop) (w0 ws : World) (lz wb c : Nat) (tt : TypeId) (fp : Value) (exs : List Value) (b : Nat) (T G : List Nat) (P : List (Nat × By)) (w : World) : Prop where
  lp : LP b w
  fr : But (Cmn w0 ws) ws w
  hlo : ws.heap.size ≤ lz
  lo : lz ≤ wb
  blk : ∃ sT sG sP D, BlkAt w wb (ep c :: fp :: sT :: sG :: sP :: exs) tt ∧ CR w lz T G P sT sG sP D
  len : T.length ≤ b ∧ G.length ≤ b ∧ P.length ≤ b

theorem cmn_hi {w0 ws w w' : World} {S : Nat → Prop} (h : But (Cmn w0 ws) ws w) (hb : But S w w') (hS : ∀ k, S k → ws.heap.size ≤ k ∨ Cmn w0 w k) : But (Cmn w0 ws) ws w' := by
  refine ⟨hb.os.trans h.os, hb.tape.trans h.tape, hb.output.trans h.output, Nat.le_trans h.size hb.size, fun k hk hn => ?_⟩
  have e1 := h.block k hk hn
  refine (hb.block k (Nat.lt_of_lt_of_le hk h.size) fun hc => ?_).trans e1
  rcases hS k hc with h1 | h1
  · omega
  · exact hn ⟨h1.1, fun cs t fr hh => h1.2 cs t fr (e1.trans hh)⟩

section
variable {LP : Nat → World → Prop} {w0 ws : World} {lo wb c nb : Nat} {V : Nat → By} {tt : TypeId} {fp : Value} {exs : List Value} {b : Nat} {T G : List Nat} {P : List (Nat × By)} {w w' : World}

/-- What isn't a change's own may turn. -/
theorem CJ.foreign (h : CJ LP w0 ws lo wb c tt fp exs b T G P w) (hL : LPok LP w0 c nb V) {S : Nat → Prop} (hb : But S w w') (hS : ∀ k, S k → ws.heap.size ≤ k ∧ ∃ cs t fr, w.heap[k]? = some (.cells cs t fr) ∧ foreignT t ∧ t ≠ 3 ∧ t ≠ 143 ∧ t ≠ tt) : CJ LP w0 ws lo wb c tt fp exs b T G P w' := by
  obtain ⟨sT, sG, sP, D, h1, h2⟩ := h.blk
  have key : ∀ k cs t fr, w.heap[k]? = some (.cells cs t fr) → t = 3 ∨ t = 143 ∨ t = 5 ∨ t = tt → ¬ S k := by
    intro k cs t fr hk ht hs
    obtain ⟨_, cs', t', fr', hk', hf, n1, n2, n3⟩ := hS k hs
    rw [hk] at hk'
    simp only [Option.some.injEq, Obj.cells.injEq] at hk'
    obtain ⟨_, rfl, _⟩ := hk'
    rcases ht with e | e | e | e
    · exact n1 e
    · exact n2 e
    · exact hf.2.2.2.2.2.2.1 e
    · exact n3 e
  refine ⟨hL.foreign b w w' S h.lp hb (fun k hk => ?_), cmn_hi h.fr hb (fun k hk => .inl (hS k hk).1), h.hlo, h.lo, ⟨sT, sG, sP, D, h1.but hb (key wb _ _ _ h1 (.inr (.inr (.inr rfl)))), h2.but hb (fun k cs t fr hk ht => key k cs t fr hk ?_)⟩, h.len⟩
  · obtain ⟨_, cs, t, fr, hh, hf, _⟩ := hS k hk
    exact ⟨cs, t, fr, hh, hf⟩
  · rcases ht with e | e | e
    · exact .inl e
    · exact .inr (.inl e)
    · exact .inr (.inr (.inl e))
/-- The cache's own may turn, if it is a cache again. -/
theorem CJ.cache (h : CJ LP w0 ws lo wb c tt fp exs b T G P w) (htt : okTT tt) (hb : But (Cmn w0 w) w w') (hl : LP (b + 1) w') : CJ LP w0 ws lo wb c tt fp exs (b + 1) T G P w' := by
  obtain ⟨sT, sG, sP, D, h1, h2⟩ := h.blk
  have ht : ¬ cTag tt := cTag_not htt.f.1 htt.f.2.1 htt.f.2.2.1
  obtain ⟨l1, l2, l3⟩ := h.len
  refine ⟨hl, cmn_hi h.fr hb (fun k hk => .inr hk), h.hlo, h.lo, ⟨sT, sG, sP, D, h1.cache hb ht, h2.but hb (fun k cs t fr hk e => cmn_not hk ?_)⟩, by omega, by omega, by omega⟩
  rcases e with rfl | rfl | rfl
  · exact cTag_not (by decide) (by decide) (by decide)
  · exact cTag_not (by decide) (by decide) (by decide)
  · exact cTag_not (by decide) (by decide) (by decide)

theorem CJ.size (h : CJ LP w0 ws lo wb c tt fp exs b T G P w) : lo ≤ w.heap.size := by
  obtain ⟨sT, sG, sP, D, h1, _⟩ := h.blk
  have := h1.lt
  have := h.lo
  omega
theorem own_type {W : World} {base : Nat} {e : TypeId} {size : Nat} {v : Value} {n : Nat} {xs : List Value} (h : W.ownsRow base e size v n xs) {k : Nat} (hk : v.ownBlock = some k) : base ≤ k ∧ ∃ cs, W.heap[k]? = some (.cells cs e (0, 0)) := by
  rcases h.2 with ⟨rfl, _⟩ | ⟨g, cap, cur, rfl, hg, hblk, _⟩
  · cases hk
  · have : g = k := by simpa [Value.ownBlock] using hk
    subst this
    exact ⟨hg, cur, hblk⟩

/-- An element is appended, and the field that holds the slice is set. -/
theorem app_field {w1 w2 : World} {wb base i : Nat} {cs : List Value} {t e : TypeId} {size n : Nat} {v v2 : Value} {xs xs2 : List Value} {o : Obj} (hw : BlkAt w1 wb cs t) (hte : t ≠ e) (hold : w1.ownsRow base e size v n xs) (hown : w2.ownsRow base e size v2 (n + 1) xs2) (hg : (w1.alloc o).grownBy w2 v.ownBlock)
    (hat : v2.ownBlock = v.ownBlock ∨ v2.ownBlock = some (w1.alloc o).heap.size) :
    BlkAt w2 wb cs t ∧ ∃ g cap, v2 = .slice (some ⟨g, 0, none⟩) (n + 1) cap ∧ BlkAt (w2.setCell ⟨wb, i, none⟩ v2) wb (cs.set i v2) t ∧ (w2.setCell ⟨wb, i, none⟩ v2).ownsRow base e size v2 (n + 1) xs2 ∧ But (fun k => k = wb ∨ v.ownBlock = some k) w1 (w2.setCell ⟨wb, i, none⟩ v2) ∧ (v.ownBlock = some g ∨ w1.heap.size ≤ g) := by
  obtain ⟨g, cap, rfl, _, _⟩ := hown.form (by omega)
  have hlt := hw.lt
  have hne : ∀ k, v.ownBlock = some k → k ≠ wb := fun k hk e => by
    obtain ⟨_, cs', hc⟩ := own_type hold hk
    rw [e, show w1.heap[wb]? = _ from hw] at hc
    simp only [Option.some.injEq, Obj.cells.injEq] at hc
    exact hte hc.2.1
  have hb : But (fun k => v.ownBlock = some k) w1 w2 := (But.of_below ((Below.refl _ w1).alloc (Nat.le_refl _) o)).trans (But.of_grown hg (fun k hk => hk))
  have hw2 : BlkAt w2 wb cs t := hw.but hb (fun e => hne wb e rfl)
  have hgo : v.ownBlock = some g ∨ w1.heap.size ≤ g := by
    rcases hat with e | e
    · exact .inl (e.symm.trans rfl)
    · have : g = (w1.alloc o).heap.size := by simpa [Value.ownBlock] using e
      simp at this
      exact .inr (by omega)
  have hgw : g ≠ wb := by
    rcases hgo with e | e
    · exact hne g e
    · omega
  exact ⟨hw2, g, cap, rfl, hw2.set i _, own_set hown (fun k hk => own_ne hgw hk) _ _, (hb.mono (fun k _ e => .inr e)).setCell _ (.inl rfl) _, hgo⟩

end
end Go.Proofs.YtebdgcoandfocaaGreatDoor
