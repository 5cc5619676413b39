/-
  A cache of which all is known, and what else lies in memory.
-/
import Derived.Test.YtebdgcoandfocaaGreatDoorQBhp
import Derived.Deep.DeepAppendRoom
import Derived.Test.YtebdgcoandfocaaGreatDoorQIa
import Derived.Test.YtebdgcoandfocaaGreatDoorQMpop
import Derived.Test.YtebdgcoandfocaaGreatDoorQBpu

/-
  append, and what becomes of the slice that was appended to: it holds what it held.
-/
namespace Go.Proofs.YtebdgcoandfocaaGreatDoor
open Go.RowKit Go.Maps Go.Sort Go.Shelf

/-- Two cells that were just laid. -/
theorem cell_two_new (w : World) (x y : Value) (t : TypeId) : ∀ j u, [x, y][j]? = some u → (w.alloc (.cells #[x, y] t)).cell? ((⟨w.heap.size, 0, none⟩ : Addr).add j) = some u := by
  intro j u hj
  rw [Addr.add_lit, Nat.zero_add, cellOf (heap_alloc_new w _) j]
  simpa using hj

end Go.Proofs.YtebdgcoandfocaaGreatDoor

/-
  What WalWhole's loops keep.
-/
namespace Go.Proofs.YtebdgcoandfocaaGreatDoor
open Go.RowKit Go.Maps Go.Sort Go.Shelf

/-- What block i is behind the commit of number t. -/
def wb (b : By) (t i : Nat) : By := fullB (BitVec.ofNat 8 i :: BitVec.ofNat 8 t :: b) 512
end Go.Proofs.YtebdgcoandfocaaGreatDoor

/-
  Package inode: what a change gathers.
-/
namespace Go.Proofs.YtebdgcoandfocaaGreatDoor
open Go.RowKit Go.Maps Go.Sort Go.Shelf

theorem Tryz.infoI : (Tryz.prog.info? 3).map (fun i => (i.zero, i.size, i.bytes)) = some (some (.int .i64 0), 1, 8) := by kernel_rfl
theorem Tryz.infoSpot : (Tryz.prog.info? 102).map (fun i => (i.zero, i.size, i.bytes)) = some (some (.agg #[.int .i64 0, .int .u32 0, .bool false]), 3, 16) := by kernel_rfl
theorem Tryz.infoAPut : (Tryz.prog.info? 143).map (fun i => (i.zero, i.size, i.bytes)) = some (some (.agg #[.int .i64 0, .slice none 0 0]), 2, 32) := by kernel_rfl

/-- A block of cells, whole. -/
def BlkAt (w : World) (g : Nat) (cs : List Value) (t : TypeId) : Prop := w.heap[g]? = some (.cells cs.toArray t (0, 0))
theorem BlkAt.cell {w : World} {g : Nat} {cs : List Value} {t : TypeId} (h : BlkAt w g cs t) {i : Nat} {v : Value} (hv : cs[i]? = some v) : w.cell? ⟨g, i, none⟩ = some v := by
  rw [cellOf h i, List.getElem?_toArray]; exact hv
theorem BlkAt.lt {w : World} {g : Nat} {cs : List Value} {t : TypeId} (h : BlkAt w g cs t) : g < w.heap.size := (Array.getElem?_eq_some_iff.1 h).1
theorem BlkAt.but {w w' : World} {g : Nat} {cs : List Value} {t : TypeId} {S : Nat → Prop} (h : BlkAt w g cs t) (hb : But S w w') (hS : ¬ S g) : BlkAt w' g cs t := (hb.block g h.lt hS).trans h
theorem BlkAt.below {w w' : World} {g : Nat} {cs : List Value} {t : TypeId} (h : BlkAt w g cs t) (hb : Below w.heap.size w w') : BlkAt w' g cs t := (hb.block g h.lt).trans h
theorem BlkAt.set {w : World} {g : Nat} {cs : List Value} {t : TypeId} (h : BlkAt w g cs t) (i : Nat) (v : Value) : BlkAt (w.setCell ⟨g, i, none⟩ v) g (cs.set i v) t := by
  unfold BlkAt at *
  simp [World.setCell, Array.getElem?_modify, h]
/-- The least free number is r. -/
def Least (m : Bm.MS) (r : Nat) : Prop := r < m.n ∧ Bm.used m.ws r = false ∧ ∀ i, i < r → Bm.used m.ws i = true
theorem take_least {m : Bm.MS} {r : Nat} {e : Ending} {m' : Bm.MS} (h : Least m r) (ht : Bm.TakeOut m e m') : e = .returned (.tuple #[.int .i64 r, .int .i64 0]) ∧ m' = m.turn r := by
  obtain ⟨q, hq, h1⟩ := ht
  have hr : q = r := by
    rcases Nat.lt_trichotomy q r with h2 | h2 | h2
    · have h3 := hq.yes (by have := h.1; omega)
      rw [h.2.2 q h2] at h3
      cases h3
    · exact h2
    · have h3 := hq.not r (Nat.zero_le _) h2
      rw [h.2.1] at h3
      cases h3
  subst hr
  rcases h1 with ⟨h2, _⟩ | ⟨_, h3, h4⟩
  · have := h.1; omega
  · exact ⟨h3, h4⟩
theorem only_but {S : Nat → Prop} {w w' : World} (h : Bm.Only S w w') : But S w w' := ⟨h.os, h.tape, h.output, h.size, h.block⟩
theorem but_only {S : Nat → Prop} {w w' : World} (h : But S w w') : Bm.Only S w w' := ⟨h.os, h.tape, h.output, h.size, h.block⟩
theorem map_b_ne {w : World} {m : Bm.MS} (hm : Bm.MapAt w m) {g : Nat} {cs : List Value} {t : TypeId} (h : BlkAt w g cs t) (ht : t ≠ 61) : g ≠ m.b := fun e => by
  subst e
  obtain ⟨cs', h1, _⟩ := hm.row
  rw [show w.heap[m.b]? = _ from h] at h1
  simp only [Option.some.injEq, Obj.cells.injEq] at h1
  exact ht h1.2.1
theorem map_a_ne {w : World} {m : Bm.MS} (hm : Bm.MapAt w m) {g : Nat} {cs : List Value} {t : TypeId} (h : BlkAt w g cs t) (ht : t ≠ 60) : g ≠ m.a := fun e => by
  subst e
  have h1 := hm.st
  rw [show w.heap[m.a]? = _ from h] at h1
  simp only [Option.some.injEq, Obj.cells.injEq] at h1
  exact ht h1.2.1

theorem own_ne {g b k n cap : Nat} (h : g ≠ b) (hk : (Value.slice (some ⟨g, 0, none⟩) n cap).ownBlock = some k) : k ≠ b := by
  have e : g = k := by simpa [Value.ownBlock] using hk
  rw [← e]; exact h
theorem own_set {W : World} {base : Nat} {e : TypeId} {size : Nat} {v : Value} {n : Nat} {xs : List Value} (h : W.ownsRow base e size v n xs) {b : Nat} (hb : ∀ k, v.ownBlock = some k → k ≠ b) (o : Nat) (u : Value) : (W.setCell ⟨b, o, none⟩ u).ownsRow base e size v n xs := by
  refine ⟨h.1, ?_⟩
  rcases h.2 with h0 | ⟨g, cap, cur, rfl, hg, hblk, r⟩
  · exact .inl h0
  · exact .inr ⟨g, cap, cur, rfl, hg, (Below.heap_setCell _ _ _ _ (fun e => hb g rfl e)).trans hblk, r⟩
theorem own_butI {W W' : World} {base : Nat} {e : TypeId} {size : Nat} {v : Value} {n : Nat} {xs : List Value} {S : Nat → Prop} (h : W.ownsRow base e size v n xs) (hb : But S W W') (hS : ∀ k cs, v.ownBlock = some k → W.heap[k]? = some (.cells cs e (0, 0)) → ¬ S k) : W'.ownsRow base e size v n xs := by
  refine ⟨h.1, ?_⟩
  rcases h.2 with h0 | ⟨g, cap, cur, rfl, hg, hblk, r⟩
  · exact .inl h0
  · exact .inr ⟨g, cap, cur, rfl, hg, (hb.block g (Array.getElem?_eq_some_iff.1 hblk).1 (hS g cur rfl hblk)).trans hblk, r⟩

end Go.Proofs.YtebdgcoandfocaaGreatDoor

namespace Go.Proofs.YtebdgcoandfocaaGreatDoor
open Go.RowKit Go.Maps Go.Sort Go.Shelf

/-- A type of cells that neither a cache nor a volume has. -/
def foreignT (t : TypeId) : Prop := t ≠ 91 ∧ t ≠ 148 ∧ t ≠ 154 ∧ t ≠ 127 ∧ t ≠ 155 ∧ t ≠ 115 ∧ t ≠ 5 ∧ t ≠ 158
def Foreign (w : World) (S : Nat → Prop) : Prop := ∀ k, S k → ∃ cs t fr, w.heap[k]? = some (.cells cs t fr) ∧ foreignT t
theorem CI.foreign {w w' : World} {s : CS} {vs : VS} {B : Nat → By} {S : Nat → Prop} (h : CI w s vs B) (hb : But S w w') (hF : Foreign w S) : CI w' s vs B := by
  have h5 : ∀ g cs t fr, w.heap[g]? = some (.cells cs t fr) → t = 5 ∨ t = 158 → ¬ S g := fun g cs t fr hg ht hS => by
    obtain ⟨cs', t', fr', hk, hf⟩ := hF g hS
    rw [hg] at hk
    simp only [Option.some.injEq, Obj.cells.injEq] at hk
    obtain ⟨_, rfl, _⟩ := hk
    rcases ht with rfl | rfl
    · exact hf.2.2.2.2.2.2.1 rfl
    · exact hf.2.2.2.2.2.2.2 rfl
  refine ⟨h.cm.but hb (fun hS => ?_) (fun k cs t fr hk ht hS => ?_), vi_but h.vi hb (fun k hk hS => ?_) h5, h.vv, h.hf, h.hd, fun a ha => (h.dat a ha).but hb (fun k cs fr hk => h5 k cs 5 fr hk (.inl rfl)), h.hx, h.ord, h.idle, h.dirty, h.dnd, h.used, h.uinj, h.blk, h.clean, h.room⟩
  · obtain ⟨cs', t', fr', hk, _⟩ := hF _ hS
    exact h.cm.hne hk rfl
  · obtain ⟨cs', t', fr', hk', hf⟩ := hF _ hS
    rw [hk] at hk'
    simp only [Option.some.injEq, Obj.cells.injEq] at hk'
    obtain ⟨_, rfl, _⟩ := hk'
    rcases ht with e | e | e
    · exact hf.1 e
    · exact hf.2.1 e
    · exact hf.2.2.1 e
  · obtain ⟨cs', t', fr', hk', hf⟩ := hF _ hS
    exact h.vi.other hk' hf.2.2.2.1 hf.2.2.2.2.1 hf.2.2.2.2.2.1 hk

/-- A cache, known as A. -/
structure CW (w0 w : World) (c : Nat) (vs : VS) (A : AC) (b : Nat) : Prop where
  st : ∃ s B, CI w s vs B ∧ CB s b ∧ s.c = c ∧ acOf s B = A ∧ w0.heap.size ≤ s.h
/-- What a cache's call may turn. -/
def Cmn (w0 w : World) (k : Nat) : Prop := w0.heap.size ≤ k ∧ ∀ cs t fr, w.heap[k]? = some (.cells cs t fr) → cTag t
theorem cmn_of {w0 w : World} {s : CS} {vs : VS} {B : Nat → By} (h : CI w s vs B) (hl : w0.heap.size ≤ s.h) : ∀ k, cMine w s.h k → Cmn w0 w k := by
  rintro k (rfl | ⟨hk, cs, t, fr, hb, ht⟩)
  · exact ⟨hl, fun cs t fr hk => absurd rfl (h.cm.hne hk)⟩
  · refine ⟨Nat.le_trans hl hk, fun cs' t' fr' hk' => ?_⟩
    rw [hb] at hk'
    simp only [Option.some.injEq, Obj.cells.injEq] at hk'
    rw [← hk'.2.1]; exact ht
theorem cmn_not {w0 w : World} {g : Nat} {cs : Array Value} {t : TypeId} {fr : Nat × Nat} (h : w.heap[g]? = some (.cells cs t fr)) (ht : ¬ cTag t) : ¬ Cmn w0 w g := fun hc => ht (hc.2 _ _ _ h)
theorem cTag_not {t : TypeId} (h1 : t ≠ 91) (h2 : t ≠ 148) (h3 : t ≠ 154) : ¬ cTag t := by
  rintro (e | e | e)
  · exact h1 e
  · exact h2 e
  · exact h3 e
theorem BlkAt.cache {w0 w w' : World} {g : Nat} {cs : List Value} {t : TypeId} (h : BlkAt w g cs t) (hb : But (Cmn w0 w) w w') (ht : ¬ cTag t) : BlkAt w' g cs t := h.but hb (cmn_not h ht)
theorem CW.below {w0 w w' : World} {c : Nat} {vs : VS} {A : AC} {b : Nat} (h : CW w0 w c vs A b) (hb : Below w.heap.size w w') : CW w0 w' c vs A b := by
  obtain ⟨s, B, h1, h2, h3, h4, h5⟩ := h.st
  exact ⟨s, B, h1.below hb, h2, h3, h4, h5⟩
theorem CW.foreign {w0 w w' : World} {c : Nat} {vs : VS} {A : AC} {b : Nat} {S : Nat → Prop} (h : CW w0 w c vs A b) (hb : But S w w') (hF : Foreign w S) : CW w0 w' c vs A b := by
  obtain ⟨s, B, h1, h2, h3, h4, h5⟩ := h.st
  exact ⟨s, B, h1.foreign hb hF, h2, h3, h4, h5⟩

theorem cw_pin (w0 w : World) (c : Nat) (vs : VS) (A : AC) (b x : Nat) (h : CW w0 w c vs A b) (hb : b < 800000) (hx : x < nbOf vs.d.n) (hok : A.held x = true ∨ A.full = false) (hp : ∀ e ∈ A.L, e.pins < 1000000) :
    Calls Tryz.prog 85 #[ep c, .int .i64 (x : Nat)] w fun e w' => e = .returned (.int .i64 0) ∧ CW w0 w' c vs (A.meet x (vs.cont x) (fun x => { x with pins := x.pins + 1 })) (b + 1) ∧ But (Cmn w0 w) w w' := by
  obtain ⟨s, B, h1, h2, rfl, rfl, h5⟩ := h.st
  refine (pin_ok s vs B x b w h1 h2 hb hx hok (fun a ha => hp (heOf s.U B a) (List.mem_map.2 ⟨a, ha, rfl⟩))).mono ?_
  rintro e w' ⟨rfl, s', B', hC, hA⟩
  exact ⟨rfl, ⟨s', B', hC.ci, hC.cb, hC.c, hA, by rw [hC.h]; exact h5⟩, hC.but.mono (fun k _ hk => cmn_of h1 h5 k hk)⟩
theorem cw_unpin (w0 w : World) (c : Nat) (vs : VS) (A : AC) (b x : Nat) (h : CW w0 w c vs A b) (he : ∃ e ∈ A.L, e.block = x ∧ 0 < e.pins ∧ e.pins < 1000000) :
    Calls Tryz.prog 106 #[ep c, .int .i64 (x : Nat)] w fun e w' => e = .returned (.int .i64 0) ∧ CW w0 w' c vs (A.unpin x) (b + 1) ∧ But (Cmn w0 w) w w' := by
  obtain ⟨s, B, h1, h2, rfl, rfl, h5⟩ := h.st
  obtain ⟨e, hm, rfl, hp, hp2⟩ := he
  obtain ⟨a, ha, rfl⟩ := List.mem_map.1 hm
  refine (unpin_ok s vs B a b w h1 h2 ha hp hp2).mono ?_
  rintro e w' ⟨rfl, s', hC, hA⟩
  exact ⟨rfl, ⟨s', B, hC.ci, hC.cb, hC.c, hA, by rw [hC.h]; exact h5⟩, hC.but.mono (fun k _ hk => cmn_of h1 h5 k hk)⟩
end Go.Proofs.YtebdgcoandfocaaGreatDoor
