import Derived.Test.YthhakekbffembaaGreatDoorQPd

namespace Go.Proofs.YthhakekbffembaaGreatDoor.Ck.Y
open Go.RowKit Go.Maps Go.Lib
abbrev PL := Option (PI × ByteArray)
def plA (bl : PI → Nat) : PL → Value
 | some (p, _) => pv (bl p)
 | none => .pointer none
def plN : PL → ByteArray
 | some (_, nm) => nm
 | none => ⟨#[]⟩
def objC (bl : PI → Nat) (kv : PI → Value) (dr : PI → Bool) (pl : PL) (q : PI) : Array Value := #[plA bl pl, .string (plN pl), .int .i64 q.1, .int .i64 q.2, .bool (dr q), kv q]
structure KidsP (U : List PI) (pk : PI → PL) (q : PI) (m : List PI) : Prop where
 rise : m.Pairwise lessP
 mem : ∀ r, r ∈ m ↔ r ∈ U ∧ ∃ nm, pk r = some (q, nm)
theorem lessP_irrefl (a : PI) : ¬ lessP a a := fun h => lessP_asymm h h
theorem KidsP.nodup {U : List PI} {pk : PI → PL} {q : PI} {m : List PI} (h : KidsP U pk q m) : m.Nodup := h.rise.imp fun {a b} hab => by
 intro e
 rw [e] at hab
 exact lessP_irrefl b hab
theorem nodup_le {α : Type} [DecidableEq α] : ∀ (l m : List α), l.Nodup → (∀ x ∈ l, x ∈ m) → l.length ≤ m.length
 | [], _, _, _ => Nat.zero_le _
 | x :: l, m, hn, hs => by
   have h1 := List.nodup_cons.1 hn
   have := nodup_le l (m.erase x) h1.2 (fun y hy => (List.mem_erase_of_ne (show y ≠ x from fun e => h1.1 (by rw [← e]; exact hy))).2 (hs y (List.mem_cons_of_mem _ hy)))
   have hm := hs x List.mem_cons_self
   rw [List.length_erase_of_mem hm] at this
   have := List.length_pos_of_mem hm
   simp only [List.length_cons]
   omega
theorem KidsP.len {U : List PI} {pk : PI → PL} {q : PI} {m : List PI} (h : KidsP U pk q m) : m.length ≤ U.length := nodup_le m U h.nodup fun x hx => ((h.mem x).1 hx).1
def updP (f : PI → PL) (q : PI) (v : PL) : PI → PL := fun r => if r = q then v else f r
def updV (f : PI → Value) (q : PI) (v : Value) : PI → Value := fun r => if r = q then v else f r
theorem updP_at (f : PI → PL) (q : PI) (v : PL) : updP f q v q = v := if_pos rfl
theorem updP_ne (f : PI → PL) {q r : PI} (v : PL) (h : r ≠ q) : updP f q v r = f r := if_neg h
theorem updV_at (f : PI → Value) (q : PI) (v : Value) : updV f q v q = v := if_pos rfl
theorem updV_ne (f : PI → Value) {q r : PI} (v : Value) (h : r ≠ q) : updV f q v r = f r := if_neg h
theorem updP_twice (f : PI → PL) (q : PI) (u v : PL) : updP (updP f q u) q v = updP f q v := by
 funext r
 by_cases h : r = q
 · subst h; rw [updP_at, updP_at]
 · rw [updP_ne _ _ h, updP_ne _ _ h, updP_ne _ _ h]
theorem updP_self (f : PI → PL) (q : PI) : updP f q (f q) = f := by
 funext r
 by_cases h : r = q
 · subst h; rw [updP_at]
 · rw [updP_ne _ _ h]
def growF (F : Nat → Prop) (w w' : World) : Nat → Prop := fun b => F b ∨ (w.heap.size ≤ b ∧ b < w'.heap.size)
structure ObjsM (F : Nat → Prop) (w : World) (U : List PI) (bl : PI → Nat) (kv : PI → Value) (dr : PI → Bool) (pf pk : PI → PL) : Prop where
 inj : ∀ q ∈ U, ∀ q' ∈ U, bl q = bl q' → q = q'
 obj : ∀ q ∈ U, w.heap[bl q]? = some (.cells (objC bl kv dr (pf q) q) 131 (0, 0))
 kid : ∀ q ∈ U, ∃ m, KidsP U pk q m ∧ RowP 125 w 0 (kv q) (m.map bl)
 apart : ∀ q ∈ U, ∀ q' ∈ U, q ≠ q' → ∀ g, (kv q).ownBlock = some g → (kv q').ownBlock ≠ some g
 own : ∀ q ∈ U, F (bl q) ∧ ∀ g, (kv q).ownBlock = some g → F g
 len : U.length ≤ 900
section
variable {F : Nat → Prop} {w w' : World} {U : List PI} {bl : PI → Nat} {kv : PI → Value} {dr : PI → Bool} {pf pk : PI → PL}
theorem ObjsM.kept {S : Nat → Prop} (h : ObjsM F w U bl kv dr pf pk) (ho : Only S w w') (hn : ∀ b, F b → ¬ S b) : ObjsM F w' U bl kv dr pf pk :=
 ⟨h.inj, fun q hq => (ho.block _ (block_lt (h.obj q hq)) (hn _ (h.own q hq).1)).trans (h.obj q hq), fun q hq => by
   obtain ⟨m, h1, h2⟩ := h.kid q hq
   exact ⟨m, h1, h2.kept ho fun b hb => hn b ((h.own q hq).2 b hb)⟩, h.apart, h.own, h.len⟩
theorem ObjsM.mono {G : Nat → Prop} (h : ObjsM F w U bl kv dr pf pk) (hn : ∀ b, F b → G b) : ObjsM G w U bl kv dr pf pk :=
 ⟨h.inj, h.obj, h.kid, h.apart, fun q hq => ⟨hn _ (h.own q hq).1, fun g hg => hn g ((h.own q hq).2 g hg)⟩, h.len⟩
theorem ObjsM.below (h : ObjsM F w U bl kv dr pf pk) (hb : Below w.heap.size w w') : ObjsM F w' U bl kv dr pf pk := h.kept (Below.only hb (fun _ => False)) fun _ _ f => f
theorem ObjsM.cell (h : ObjsM F w U bl kv dr pf pk) {q : PI} (hq : q ∈ U) (k : Nat) : w.cell? ⟨bl q, k, none⟩ = (objC bl kv dr (pf q) q)[k]? := cellOf (h.obj q hq) k
theorem ObjsM.frozen (h : ObjsM F w U bl kv dr pf pk) {q : PI} (hq : q ∈ U) (k : Nat) : w.frozen? ⟨bl q, k, none⟩ = false := frozenOf (h.obj q hq) k
theorem ObjsM.row_ne (h : ObjsM F w U bl kv dr pf pk) {q r : PI} (hq : q ∈ U) (hr : r ∈ U) {g : Nat} (hg : (kv r).ownBlock = some g) : bl q ≠ g := by
 obtain ⟨m, _, h2⟩ := h.kid r hr
 obtain ⟨_, _, cur, ht⟩ := h2.tag hg
 exact apart_tags (h.obj q hq) ht (by decide)
theorem ObjsM.place (h : ObjsM F w U bl kv dr pf pk) {q : PI} (hq : q ∈ U) (v : PL) :
   ObjsM F ((w.setCell ⟨bl q, 0, none⟩ (plA bl v)).setCell ⟨bl q, 1, none⟩ (.string (plN v))) U bl kv dr (updP pf q v) pk ∧ Only (· = bl q) w ((w.setCell ⟨bl q, 0, none⟩ (plA bl v)).setCell ⟨bl q, 1, none⟩ (.string (plN v))) := by
 have hO : Only (· = bl q) w ((w.setCell ⟨bl q, 0, none⟩ (plA bl v)).setCell ⟨bl q, 1, none⟩ (.string (plN v))) := (Only.setCell (S := (· = bl q)) w ⟨bl q, 0, none⟩ _ rfl).next (Only.setCell (S := (· = bl q)) _ ⟨bl q, 1, none⟩ _ rfl)
 refine ⟨⟨h.inj, fun r hr => ?_, fun r hr => ?_, h.apart, h.own, h.len⟩, hO⟩
 · by_cases e : r = q
   · subst e
     rw [updP_at]
     exact heap_set_same (k := 1) (heap_set_same (k := 0) (h.obj r hr) _) _
   · rw [updP_ne _ _ e]
     exact (hO.block _ (block_lt (h.obj r hr)) fun e' => e (h.inj r hr q hq e')).trans (h.obj r hr)
 · obtain ⟨m, h1, h2⟩ := h.kid r hr
   exact ⟨m, h1, h2.kept hO fun b hb e' => h.row_ne hq hr hb e'.symm⟩
theorem ObjsM.rekid {pk' : PI → PL} (h : ObjsM F w U bl kv dr pf pk) {p : PI} (hp : p ∈ U) {v : Value} {m : List PI} (hO : Only (fun j => (kv p).ownBlock = some j) w w') (hm : KidsP U pk' p m) (hr : RowP 125 w' 0 v (m.map bl)) (hk : ∀ r ∈ U, r ≠ p → ∀ m, KidsP U pk r m → KidsP U pk' r m) (hv : v.ownBlock = (kv p).ownBlock ∨ ∃ g, v.ownBlock = some g ∧ w.heap.size ≤ g) (hF : ∀ b, F b → b < w.heap.size) :
   ObjsM (growF F w w') (w'.setCell ⟨bl p, 5, none⟩ v) U bl (updV kv p v) dr pf pk' ∧ Only F w (w'.setCell ⟨bl p, 5, none⟩ v) := by
 have hob : ∀ q ∈ U, w'.heap[bl q]? = some (.cells (objC bl kv dr (pf q) q) 131 (0, 0)) := fun q hq => (hO.block _ (block_lt (h.obj q hq)) fun e => h.row_ne hq hp e rfl).trans (h.obj q hq)
 have hvt : ∀ g, v.ownBlock = some g → ∃ cur, w'.heap[g]? = some (.cells cur 125 (0, 0)) := fun g hg => (hr.tag hg).2.2
 have hO2 : Only (· = bl p) w' (w'.setCell ⟨bl p, 5, none⟩ v) := Only.setCell (S := (· = bl p)) w' ⟨bl p, 5, none⟩ _ rfl
 refine ⟨⟨h.inj, fun q hq => ?_, fun q hq => ?_, fun q hq q' hq' hne g hg => ?_, fun q hq => ⟨.inl (h.own q hq).1, fun g hg => ?_⟩, h.len⟩, ?_⟩
 · by_cases e : q = p
   · subst e
     have := heap_set_same (k := 5) (hob q hq) v
     rw [this]
     unfold objC
     rw [updV_at]
     rfl
   · have := (hO2.block _ (block_lt (hob q hq)) fun e' => e (h.inj q hq p hp e')).trans (hob q hq)
     rw [this]
     unfold objC
     rw [updV_ne _ _ e]
 · by_cases e : q = p
   · subst e
     refine ⟨m, hm, ?_⟩
     rw [updV_at]
     refine hr.kept hO2 fun b hb e' => ?_
     obtain ⟨cur, ht⟩ := hvt b hb
     exact apart_tags (hob q hq) ht (by decide) e'.symm
   · obtain ⟨m', h1, h2⟩ := h.kid q hq
     refine ⟨m', hk q hq e m' h1, ?_⟩
     rw [updV_ne _ _ e]
     refine (h2.kept hO fun b hb e' => h.apart q hq p hp e b hb e').kept hO2 fun b hb e' => ?_
     exact h.row_ne hp hq hb e'.symm
 · by_cases e : q = p
   · subst e
     rw [updV_at] at hg
     rw [updV_ne _ _ (Ne.symm hne)]
     intro hg'
     rcases hv with hv | ⟨g2, hv, hlt⟩
     · rw [hv] at hg
       exact h.apart q hq q' hq' hne g hg hg'
     · rw [hv] at hg; cases hg
       have := hF _ ((h.own q' hq').2 _ hg')
       omega
   · rw [updV_ne _ _ e] at hg
     by_cases e2 : q' = p
     · subst e2
       rw [updV_at]
       intro hg'
       rcases hv with hv | ⟨g2, hv, hlt⟩
       · rw [hv] at hg'
         exact h.apart q hq q' hq' hne g hg hg'
       · rw [hv] at hg'; cases hg'
         have := hF _ ((h.own q hq).2 _ hg)
         omega
     · rw [updV_ne _ _ e2]
       exact h.apart q hq q' hq' hne g hg
 · by_cases e : q = p
   · subst e
     rw [updV_at] at hg
     rcases hv with hv | ⟨g2, hv, hlt⟩
     · rw [hv] at hg
       exact .inl ((h.own q hq).2 g hg)
     · rw [hv] at hg; cases hg
       exact .inr ⟨hlt, (hr.tag hv).2.1⟩
   · rw [updV_ne _ _ e] at hg
     exact .inl ((h.own q hq).2 g hg)
 · refine Only.trans (S := F) ⟨hO.os, hO.tape, hO.output, hO.size, fun i hi hn => hO.block i hi fun e => hn ((h.own p hp).2 i e)⟩ hO2 (fun i hi => .inl ?_)
   rw [hi]
   exact (h.own p hp).1
end
def kyU (U : List PI) (bl : PI → Nat) (b : Nat) : PI := (U.find? fun r => decide (bl r = b)).getD (0, 0)
theorem kyU_at {U : List PI} {bl : PI → Nat} (inj : ∀ q ∈ U, ∀ q' ∈ U, bl q = bl q' → q = q') {r : PI} (hr : r ∈ U) : kyU U bl (bl r) = r := by
 unfold kyU
 cases h : U.find? fun q => decide (bl q = bl r) with
 | none => exact absurd (List.find?_eq_none.1 h r hr) (by simp)
 | some q =>
   have h1 := List.find?_some h
   exact inj q (List.mem_of_find?_eq_some h) r hr (by simpa using h1)
theorem KidsP.out {U : List PI} {pk : PI → PL} {p q : PI} {m : List PI} (h : KidsP U pk p m) {i : Nat} (hi : m[i]? = some q) : KidsP U (updP pk q none) p (m.take i ++ m.drop (i + 1)) := by
 have hlt := (List.getElem?_eq_some_iff.1 hi).1
 have hqi := (List.getElem?_eq_some_iff.1 hi).2
 have hm : m = m.take i ++ q :: m.drop (i + 1) := by
   rw [← hqi, ← List.drop_eq_getElem_cons hlt, List.take_append_drop]
 have hn := h.nodup
 rw [hm] at hn
 have hr := h.rise
 rw [hm] at hr
 have h1 := List.pairwise_append.1 hr
 have h2 := List.pairwise_cons.1 h1.2.1
 have n1 := List.nodup_append.1 hn
 have n2 := List.nodup_cons.1 n1.2.1
 refine ⟨List.pairwise_append.2 ⟨h1.1, h2.2, fun a ha b hb => h1.2.2 a ha b (List.mem_cons_of_mem _ hb)⟩, fun r => ?_⟩
 have e : r ∈ m.take i ++ m.drop (i + 1) ↔ r ∈ m ∧ r ≠ q := by
   constructor
   · intro hrm
     refine ⟨?_, fun e => ?_⟩
     · rw [hm]
       rcases List.mem_append.1 hrm with h | h
       · exact List.mem_append.2 (.inl h)
       · exact List.mem_append.2 (.inr (List.mem_cons_of_mem _ h))
     · subst e
       rcases List.mem_append.1 hrm with h | h
       · exact n1.2.2 r h r List.mem_cons_self rfl
       · exact n2.1 h
   · rintro ⟨hr, hne⟩
     rw [hm] at hr
     rcases List.mem_append.1 hr with h | h
     · exact List.mem_append.2 (.inl h)
     · rcases List.mem_cons.1 h with h | h
       · exact absurd h hne
       · exact List.mem_append.2 (.inr h)
 rw [e, h.mem]
 constructor
 · rintro ⟨⟨hu, nm, hp⟩, hne⟩
   exact ⟨hu, nm, by rw [updP_ne _ _ hne]; exact hp⟩
 · rintro ⟨hu, nm, hp⟩
   by_cases hne : r = q
   · subst hne; rw [updP_at] at hp; cases hp
   · rw [updP_ne _ _ hne] at hp; exact ⟨⟨hu, nm, hp⟩, hne⟩
theorem KidsP.other {U : List PI} {pk : PI → PL} {r q : PI} {m : List PI} (h : KidsP U pk r m) {v : PL} (h1 : ∀ nm, pk q ≠ some (r, nm)) (h2 : ∀ nm, v ≠ some (r, nm)) : KidsP U (updP pk q v) r m := by
 refine ⟨h.rise, fun x => ?_⟩
 rw [h.mem]
 by_cases e : x = q
 · subst e
   rw [updP_at]
   constructor
   · rintro ⟨_, nm, hp⟩; exact absurd hp (h1 nm)
   · rintro ⟨_, nm, hp⟩; exact absurd hp (h2 nm)
 · rw [updP_ne _ _ e]
theorem KidsP.inn {U : List PI} {pk : PI → PL} {p q : PI} {nm : ByteArray} {m : List PI} (h : KidsP U pk p m) (hq : q ∈ U) (h0 : pk q = none) {i : Nat} (h1 : ∀ k x, k < i → m[k]? = some x → lessP x q) (h2 : ∀ k x, i ≤ k → m[k]? = some x → ¬ lessP x q) : KidsP U (updP pk q (some (p, nm))) p (m.take i ++ q :: m.drop i) := by
 have hnq : q ∉ m := fun hm => by
   obtain ⟨_, nm', e⟩ := (h.mem q).1 hm
   rw [h0] at e; cases e
 refine ⟨insI_rise h.rise (fun a ha => ?_) (fun a ha => ?_), fun r => ?_⟩
 · obtain ⟨k, hk, e⟩ := List.getElem_of_mem ha
   rw [List.length_take] at hk
   refine h1 k a (by omega) ?_
   rw [List.getElem?_eq_getElem (by omega), ← e, List.getElem_take]
 · obtain ⟨k, hk, e⟩ := List.getElem_of_mem ha
   rw [List.length_drop] at hk
   have hx : m[i + k]? = some a := by rw [List.getElem?_eq_getElem (by omega), ← e, List.getElem_drop]
   refine lessP_or (h2 (i + k) a (by omega) hx) fun e => hnq ?_
   have : a = q := Prod.ext e.1 e.2
   rw [← this]
   exact List.mem_of_getElem? hx
 · have e : r ∈ m.take i ++ q :: m.drop i ↔ r = q ∨ r ∈ m := by
     have := (insI_perm m i q).mem_iff (a := r)
     unfold insI at this
     rw [this]
     simp [or_comm]
   rw [e]
   by_cases hr : r = q
   · subst hr
     rw [updP_at]
     exact ⟨fun _ => ⟨hq, nm, rfl⟩, fun _ => .inl rfl⟩
   · rw [updP_ne _ _ hr, h.mem]
     simp [hr]
theorem AtK.found {U : List PI} {bl : PI → Nat} (inj : ∀ q ∈ U, ∀ q' ∈ U, bl q = bl q' → q = q') {m : List PI} (hs : m.Pairwise lessP) (hu : ∀ x ∈ m, x ∈ U) {q : PI} (hq : q ∈ m) {i : Nat} {r : Bool} (h : AtK (m.map bl) (kyU U bl) q i r) : m[i]? = some q := by
 obtain ⟨k, hk, e⟩ := List.getElem_of_mem hq
 have hik : i ≤ k := by
   by_cases hlt : k < i
   · have := h.lo k (bl q) hlt (by rw [List.getElem?_map, List.getElem?_eq_getElem hk, e]; rfl)
     rw [kyU_at inj (hu q hq)] at this
     exact absurd this (lessP_irrefl q)
   · omega
 rcases Nat.lt_or_eq_of_le hik with hlt | rfl
 · have hi : i < m.length := by omega
   have h1 := List.pairwise_iff_getElem.1 hs i k hi hk hlt
   rw [e] at h1
   have := h.hi i (bl m[i]) (Nat.le_refl _) (by rw [List.getElem?_map, List.getElem?_eq_getElem hi]; rfl)
   rw [kyU_at inj (hu _ (List.getElem_mem hi))] at this
   exact absurd h1 this
 · rw [List.getElem?_eq_getElem hk, e]
end Go.Proofs.YthhakekbffembaaGreatDoor.Ck.Y

namespace Go.Proofs.YthhakekbffembaaGreatDoor.Ck.Y
open Go.RowKit Go.Maps Go.Lib
theorem only_cell {S : Nat → Prop} {w w' : World} (h : Only S w w') {b k : Nat} {v : Value} (hc : w.cell? ⟨b, k, none⟩ = some v) (hn : ¬ S b) : w'.cell? ⟨b, k, none⟩ = some v := by
 have e := h.block b (cell_lt hc) hn
 have : w'.cell? ⟨b, k, none⟩ = w.cell? ⟨b, k, none⟩ := by simp [World.cell?, e]
 rw [this]
 exact hc
set_option maxRecDepth 8000 in
set_option maxHeartbeats 4000000 in
theorem find_reg {Q : Exit → Act → World → Prop} {base : Array Value} {dd : List Deferred} {ops : Array Oper} (hops : Tryz.f183.body.bind (regs 1) = some ops) (bb bx len cp i0 : Nat) (r0 : Bool) (p : Option Addr) (t n : Int) (w9 : World) (hsz : base.size = 14) (b0 : base.getD 0 undef = .pointer (some ⟨bb, 0, none⟩)) (b3 : base.getD 3 undef = .pointer (some ⟨bx, 0, none⟩))
   (k5 : w9.cell? ⟨bb, 5, none⟩ = some (.slice p len cp)) (x0 : w9.cell? ⟨bx, 0, none⟩ = some (.int .i64 t)) (x1 : w9.cell? ⟨bx, 1, none⟩ = some (.int .i64 n)) (cK : ∀ W, Below w9.heap.size w9 W → Calls Tryz.prog 202 #[.slice p len cp, idv t n, .func (.func 203) #[] #[]] W fun e w' => e = .returned (.tuple #[.int .i64 (i0 : Nat), .bool r0]) ∧ Below W.heap.size W w') (hQ : ∀ W, Below w9.heap.size w9 W → Q .normal ⟨putAll base [(some 6, .pointer (some ⟨bb, 0, none⟩)), (some 7, .pointer (some ⟨bb, 0, none⟩)), (some 8, .pointer (some ⟨bb, 5, none⟩)), (some 9, .slice p len cp), (some 10, .agg #[.int .i64 t, .int .i64 n]), (some 11, .tuple #[.int .i64 (i0 : Nat), .bool r0]), (some 12, .int .i64 (i0 : Nat)), (some 13, .bool r0), (some 4, .int .i64 (i0 : Nat)), (some 5, .bool r0)], dd⟩ W) :
   (Code.region 1 ops true).wp Tryz.prog Q ⟨base, dd⟩ w9 := by
 have hmix := hmx
 have h2 := (show Tryz.f183.body.bind (regs 1) = some _ from rfl).symm.trans hops
 obtain rfl := Option.some.inj h2
 clear h2 hops
 have below9 : Below w9.heap.size w9 w9.drew := (Below.refl _ _).drew
 obtain ⟨LL, hLe⟩ := qL hQ
 have vv0 : vals LL 0 = .pointer (some ⟨bb, 0, none⟩) := vL hLe rfl
 have vv1 : vals LL 1 = .pointer (some ⟨bb, 0, none⟩) := vL hLe rfl
 have vv2 : vals LL 2 = .pointer (some ⟨bb, 5, none⟩) := vL hLe rfl
 have vv3 : vals LL 3 = .slice p len cp := vL hLe rfl
 have vv4 : vals LL 4 = .agg #[.int .i64 t, .int .i64 n] := vL hLe rfl
 have vv5 : vals LL 5 = .tuple #[.int .i64 (i0 : Nat), .bool r0] := vL hLe rfl
 have vv6 : vals LL 6 = .int .i64 (i0 : Nat) := vL hLe rfl
 have vv7 : vals LL 7 = .bool r0 := vL hLe rfl
 have vv8 : vals LL 8 = .int .i64 (i0 : Nat) := vL hLe rfl
 have vv9 : vals LL 9 = .bool r0 := vL hLe rfl
 refine region_laid hmix (by kernel_rfl) 14 hsz (by kernel_rfl) LL (by rw [hLe]; rfl) (fun _ W => Below w9.heap.size w9 W) below9 ?_ ?_
 · intro b W i o a hS hcl ho hb hd ev kp yl
   match i with
   | 0 => simp only [qq] at ho; subst ho; have e0 := (kp 0 (by kernel_rfl)).trans b0; rw [vv0]; exact dV (by simp [execOp, go_sem, e0]) hS
   | 1 => simp only [qq] at ho; subst ho; have e6 := eD ev hd 0 6 vv0; rw [vv1]; exact dV (by simp [execOp, go_sem, e6]) hS
   | 2 => simp only [qq] at ho; subst ho; have e7 := eD ev hd 1 7 vv1; rw [vv2]; exact dV (by simp [execOp, go_sem, e7]) hS
   | 3 => simp only [qq] at ho; subst ho; have e8 := eD ev hd 2 8 vv2; have d5 := (hS.cell (p := ⟨bb, 5, none⟩) (cell_lt k5)).trans k5; rw [vv3]; exact dV (by simp [execOp, go_sem, e8, d5]) hS
   | 4 => simp only [qq] at ho; subst ho; have e3 := (kp 3 (by kernel_rfl)).trans b3; have d0 := (hS.cell (p := ⟨bx, 0, none⟩) (cell_lt x0)).trans x0; have d1 := (hS.cell (p := ⟨bx, 1, none⟩) (cell_lt x1)).trans x1; rw [vv4]; exact dV (by simp [execOp, go_sem, e3, d0, d1]) hS
   | 5 =>
     simp only [qq] at ho; subst ho; have e9 := eD ev hd 3 9 vv3; have e10 := eD ev hd 4 10 vv4; rw [vv5]
     refine does_call rfl nofun (f := 202) (args := #[.slice p len cp, .agg #[.int .i64 t, .int .i64 n], .func (.func 203) #[] #[]]) ?_ ?_
     · simp [go_sem, e9, e10]
     · exact (cK W hS).mono (fun e w' h => ⟨h.1, hS.trans (h.2.mono hS.size)⟩)
   | 6 => simp only [qq] at ho; subst ho; have e11 := eD ev hd 5 11 vv5; rw [vv6]; exact dV (by simp [execOp, go_sem, e11]) hS
   | 7 => simp only [qq] at ho; subst ho; have e11 := eD ev hd 5 11 vv5; rw [vv7]; exact dV (by simp [execOp, go_sem, e11]) hS
   | 8 => simp only [qq] at ho; subst ho; have e12 := eD ev hd 6 12 vv6; rw [vv8]; exact dV (by simp [execOp, go_sem, e12]) hS
   | 9 => simp only [qq] at ho; subst ho; have e13 := eD ev hd 7 13 vv7; rw [vv9]; exact dV (by simp [execOp, go_sem, e13]) hS
   | k + 10 => simp at ho
 · intro b' W hS _
   subst hLe
   exact hQ W hS
set_option maxRecDepth 8000 in
set_option maxHeartbeats 4000000 in
theorem put_r2 {Q : Exit → Act → World → Prop} {base : Array Value} {dd : List Deferred} {ops : Array Oper} (hops : Tryz.f150.body.bind (regs 2) = some ops) (o u i0 : Nat) (r0 : Bool) (t n : Int) (w9 : World) (hsz : base.size = 88) (b0 : base.getD 0 undef = .pointer (some ⟨o, 0, none⟩)) (c0 : w9.cell? ⟨o, 0, none⟩ = some (.pointer (some ⟨u, 0, none⟩))) (c2 : w9.cell? ⟨o, 2, none⟩ = some (.int .i64 t)) (c3 : w9.cell? ⟨o, 3, none⟩ = some (.int .i64 n)) (cK : ∀ W, Below w9.heap.size w9 W → Calls Tryz.prog 183 #[.pointer (some ⟨u, 0, none⟩), idv t n] W fun e w' => e = .returned (.tuple #[.int .i64 (i0 : Nat), .bool r0]) ∧ Below W.heap.size W w') (hQ : ∀ W, Below w9.heap.size w9 W → Q .normal ⟨putAll base [(some 15, .pointer (some ⟨o, 0, none⟩)), (some 16, .pointer (some ⟨o, 0, none⟩)), (some 17, .pointer (some ⟨o, 0, none⟩)), (some 18, .pointer (some ⟨o, 0, none⟩)), (some 19, .pointer (some ⟨u, 0, none⟩)), (some 20, .pointer (some ⟨o, 0, none⟩)), (some 21, .pointer (some ⟨o, 0, none⟩)), (some 22, .pointer (some ⟨o, 2, none⟩)), (some 23, .agg #[.int .i64 t, .int .i64 n]), (some 24, .tuple #[.int .i64 (i0 : Nat), .bool r0]), (some 14, .tuple #[.int .i64 (i0 : Nat), .bool r0]), (some 25, .int .i64 (i0 : Nat)), (some 26, .bool r0), (some 4, .int .i64 (i0 : Nat)), (some 5, .bool r0)], dd⟩ W) :
   (Code.region 2 ops true).wp Tryz.prog Q ⟨base, dd⟩ w9 := by
 have hmix := hmx
 have h2 := (show Tryz.f150.body.bind (regs 2) = some _ from rfl).symm.trans hops
 obtain rfl := Option.some.inj h2
 clear h2 hops
 have below9 : Below w9.heap.size w9 w9.drew := (Below.refl _ _).drew
 obtain ⟨LL, hLe⟩ := qL hQ
 have vv0 : vals LL 0 = .pointer (some ⟨o, 0, none⟩) := vL hLe rfl
 have vv1 : vals LL 1 = .pointer (some ⟨o, 0, none⟩) := vL hLe rfl
 have vv2 : vals LL 2 = .pointer (some ⟨o, 0, none⟩) := vL hLe rfl
 have vv3 : vals LL 3 = .pointer (some ⟨o, 0, none⟩) := vL hLe rfl
 have vv4 : vals LL 4 = .pointer (some ⟨u, 0, none⟩) := vL hLe rfl
 have vv5 : vals LL 5 = .pointer (some ⟨o, 0, none⟩) := vL hLe rfl
 have vv6 : vals LL 6 = .pointer (some ⟨o, 0, none⟩) := vL hLe rfl
 have vv7 : vals LL 7 = .pointer (some ⟨o, 2, none⟩) := vL hLe rfl
 have vv8 : vals LL 8 = .agg #[.int .i64 t, .int .i64 n] := vL hLe rfl
 have vv9 : vals LL 9 = .tuple #[.int .i64 (i0 : Nat), .bool r0] := vL hLe rfl
 have vv10 : vals LL 10 = .tuple #[.int .i64 (i0 : Nat), .bool r0] := vL hLe rfl
 have vv11 : vals LL 11 = .int .i64 (i0 : Nat) := vL hLe rfl
 have vv12 : vals LL 12 = .bool r0 := vL hLe rfl
 have vv13 : vals LL 13 = .int .i64 (i0 : Nat) := vL hLe rfl
 have vv14 : vals LL 14 = .bool r0 := vL hLe rfl
 refine region_laid hmix (by kernel_rfl) 88 hsz (by kernel_rfl) LL (by rw [hLe]; rfl) (fun _ W => Below w9.heap.size w9 W) below9 ?_ ?_
 · intro b W i o a hS hcl ho hb hd ev kp yl
   match i with
   | 0 => simp only [qq] at ho; subst ho; have e0 := (kp 0 (by kernel_rfl)).trans b0; rw [vv0]; exact dV (by simp [execOp, go_sem, e0]) hS
   | 1 => simp only [qq] at ho; subst ho; have e15 := eD ev hd 0 15 vv0; rw [vv1]; exact dV (by simp [execOp, go_sem, e15]) hS
   | 2 => simp only [qq] at ho; subst ho; have e16 := eD ev hd 1 16 vv1; rw [vv2]; exact dV (by simp [execOp, go_sem, e16]) hS
   | 3 => simp only [qq] at ho; subst ho; have e17 := eD ev hd 2 17 vv2; rw [vv3]; exact dV (by simp [execOp, go_sem, e17]) hS
   | 4 => simp only [qq] at ho; subst ho; have e18 := eD ev hd 3 18 vv3; have d0 := (hS.cell (p := ⟨o, 0, none⟩) (cell_lt c0)).trans c0; rw [vv4]; exact dV (by simp [execOp, go_sem, e18, d0]) hS
   | 5 => simp only [qq] at ho; subst ho; have e0 := (kp 0 (by kernel_rfl)).trans b0; rw [vv5]; exact dV (by simp [execOp, go_sem, e0]) hS
   | 6 => simp only [qq] at ho; subst ho; have e20 := eD ev hd 5 20 vv5; rw [vv6]; exact dV (by simp [execOp, go_sem, e20]) hS
   | 7 => simp only [qq] at ho; subst ho; have e21 := eD ev hd 6 21 vv6; rw [vv7]; exact dV (by simp [execOp, go_sem, e21]) hS
   | 8 => simp only [qq] at ho; subst ho; have e22 := eD ev hd 7 22 vv7; have d2 := (hS.cell (p := ⟨o, 2, none⟩) (cell_lt c2)).trans c2; have d3 := (hS.cell (p := ⟨o, 3, none⟩) (cell_lt c3)).trans c3; rw [vv8]; exact dV (by simp [execOp, go_sem, e22, d2, d3]) hS
   | 9 =>
     simp only [qq] at ho; subst ho; have e19 := eD ev hd 4 19 vv4; have e23 := eD ev hd 8 23 vv8; rw [vv9]
     refine does_call rfl nofun (f := 183) (args := #[.pointer (some ⟨u, 0, none⟩), .agg #[.int .i64 t, .int .i64 n]]) ?_ ?_
     · simp [go_sem, e19, e23]
     · exact (cK W hS).mono (fun e w' h => ⟨h.1, hS.trans (h.2.mono hS.size)⟩)
   | 10 => simp only [qq] at ho; subst ho; have e24 := eD ev hd 9 24 vv9; rw [vv10]; exact dV (by simp [execOp, go_sem, e24]) hS
   | 11 => simp only [qq] at ho; subst ho; have e14 := eD ev hd 10 14 vv10; rw [vv11]; exact dV (by simp [execOp, go_sem, e14]) hS
   | 12 => simp only [qq] at ho; subst ho; have e14 := eD ev hd 10 14 vv10; rw [vv12]; exact dV (by simp [execOp, go_sem, e14]) hS
   | 13 => simp only [qq] at ho; subst ho; have e25 := eD ev hd 11 25 vv11; rw [vv13]; exact dV (by simp [execOp, go_sem, e25]) hS
   | 14 => simp only [qq] at ho; subst ho; have e26 := eD ev hd 12 26 vv12; rw [vv14]; exact dV (by simp [execOp, go_sem, e26]) hS
   | k + 15 => simp at ho
 · intro b' W hS _
   subst hLe
   exact hQ W hS
set_option maxRecDepth 8000 in
set_option maxHeartbeats 4000000 in
theorem put_r6 {Q : Exit → Act → World → Prop} {base : Array Value} {dd : List Deferred} {ops : Array Oper} (hops : Tryz.f150.body.bind (regs 6) = some ops) (o u i0 : Nat) (r0 : Bool) (t n : Int) (w9 : World) (hsz : base.size = 88) (b0 : base.getD 0 undef = .pointer (some ⟨o, 0, none⟩)) (c0 : w9.cell? ⟨o, 0, none⟩ = some (.pointer (some ⟨u, 0, none⟩))) (c2 : w9.cell? ⟨o, 2, none⟩ = some (.int .i64 t)) (c3 : w9.cell? ⟨o, 3, none⟩ = some (.int .i64 n)) (cK : ∀ W, Below w9.heap.size w9 W → Calls Tryz.prog 183 #[.pointer (some ⟨u, 0, none⟩), idv t n] W fun e w' => e = .returned (.tuple #[.int .i64 (i0 : Nat), .bool r0]) ∧ Below W.heap.size W w') (hQ : ∀ W, Below w9.heap.size w9 W → Q .normal ⟨putAll base [(some 57, .pointer (some ⟨o, 0, none⟩)), (some 58, .pointer (some ⟨o, 0, none⟩)), (some 59, .pointer (some ⟨o, 0, none⟩)), (some 60, .pointer (some ⟨o, 0, none⟩)), (some 61, .pointer (some ⟨u, 0, none⟩)), (some 62, .pointer (some ⟨o, 0, none⟩)), (some 63, .pointer (some ⟨o, 0, none⟩)), (some 64, .pointer (some ⟨o, 2, none⟩)), (some 65, .agg #[.int .i64 t, .int .i64 n]), (some 66, .tuple #[.int .i64 (i0 : Nat), .bool r0]), (some 56, .tuple #[.int .i64 (i0 : Nat), .bool r0]), (some 67, .int .i64 (i0 : Nat)), (some 68, .bool r0), (some 6, .int .i64 (i0 : Nat)), (some 7, .bool r0)], dd⟩ W) :
   (Code.region 6 ops true).wp Tryz.prog Q ⟨base, dd⟩ w9 := by
 have hmix := hmx
 have h2 := (show Tryz.f150.body.bind (regs 6) = some _ from rfl).symm.trans hops
 obtain rfl := Option.some.inj h2
 clear h2 hops
 have below9 : Below w9.heap.size w9 w9.drew := (Below.refl _ _).drew
 obtain ⟨LL, hLe⟩ := qL hQ
 have vv0 : vals LL 0 = .pointer (some ⟨o, 0, none⟩) := vL hLe rfl
 have vv1 : vals LL 1 = .pointer (some ⟨o, 0, none⟩) := vL hLe rfl
 have vv2 : vals LL 2 = .pointer (some ⟨o, 0, none⟩) := vL hLe rfl
 have vv3 : vals LL 3 = .pointer (some ⟨o, 0, none⟩) := vL hLe rfl
 have vv4 : vals LL 4 = .pointer (some ⟨u, 0, none⟩) := vL hLe rfl
 have vv5 : vals LL 5 = .pointer (some ⟨o, 0, none⟩) := vL hLe rfl
 have vv6 : vals LL 6 = .pointer (some ⟨o, 0, none⟩) := vL hLe rfl
 have vv7 : vals LL 7 = .pointer (some ⟨o, 2, none⟩) := vL hLe rfl
 have vv8 : vals LL 8 = .agg #[.int .i64 t, .int .i64 n] := vL hLe rfl
 have vv9 : vals LL 9 = .tuple #[.int .i64 (i0 : Nat), .bool r0] := vL hLe rfl
 have vv10 : vals LL 10 = .tuple #[.int .i64 (i0 : Nat), .bool r0] := vL hLe rfl
 have vv11 : vals LL 11 = .int .i64 (i0 : Nat) := vL hLe rfl
 have vv12 : vals LL 12 = .bool r0 := vL hLe rfl
 have vv13 : vals LL 13 = .int .i64 (i0 : Nat) := vL hLe rfl
 have vv14 : vals LL 14 = .bool r0 := vL hLe rfl
 refine region_laid hmix (by kernel_rfl) 88 hsz (by kernel_rfl) LL (by rw [hLe]; rfl) (fun _ W => Below w9.heap.size w9 W) below9 ?_ ?_
 · intro b W i o a hS hcl ho hb hd ev kp yl
   match i with
   | 0 => simp only [qq] at ho; subst ho; have e0 := (kp 0 (by kernel_rfl)).trans b0; rw [vv0]; exact dV (by simp [execOp, go_sem, e0]) hS
   | 1 => simp only [qq] at ho; subst ho; have e57 := eD ev hd 0 57 vv0; rw [vv1]; exact dV (by simp [execOp, go_sem, e57]) hS
   | 2 => simp only [qq] at ho; subst ho; have e58 := eD ev hd 1 58 vv1; rw [vv2]; exact dV (by simp [execOp, go_sem, e58]) hS
   | 3 => simp only [qq] at ho; subst ho; have e59 := eD ev hd 2 59 vv2; rw [vv3]; exact dV (by simp [execOp, go_sem, e59]) hS
   | 4 => simp only [qq] at ho; subst ho; have e60 := eD ev hd 3 60 vv3; have d0 := (hS.cell (p := ⟨o, 0, none⟩) (cell_lt c0)).trans c0; rw [vv4]; exact dV (by simp [execOp, go_sem, e60, d0]) hS
   | 5 => simp only [qq] at ho; subst ho; have e0 := (kp 0 (by kernel_rfl)).trans b0; rw [vv5]; exact dV (by simp [execOp, go_sem, e0]) hS
   | 6 => simp only [qq] at ho; subst ho; have e62 := eD ev hd 5 62 vv5; rw [vv6]; exact dV (by simp [execOp, go_sem, e62]) hS
   | 7 => simp only [qq] at ho; subst ho; have e63 := eD ev hd 6 63 vv6; rw [vv7]; exact dV (by simp [execOp, go_sem, e63]) hS
   | 8 => simp only [qq] at ho; subst ho; have e64 := eD ev hd 7 64 vv7; have d2 := (hS.cell (p := ⟨o, 2, none⟩) (cell_lt c2)).trans c2; have d3 := (hS.cell (p := ⟨o, 3, none⟩) (cell_lt c3)).trans c3; rw [vv8]; exact dV (by simp [execOp, go_sem, e64, d2, d3]) hS
   | 9 =>
     simp only [qq] at ho; subst ho; have e61 := eD ev hd 4 61 vv4; have e65 := eD ev hd 8 65 vv8; rw [vv9]
     refine does_call rfl nofun (f := 183) (args := #[.pointer (some ⟨u, 0, none⟩), .agg #[.int .i64 t, .int .i64 n]]) ?_ ?_
     · simp [go_sem, e61, e65]
     · exact (cK W hS).mono (fun e w' h => ⟨h.1, hS.trans (h.2.mono hS.size)⟩)
   | 10 => simp only [qq] at ho; subst ho; have e66 := eD ev hd 9 66 vv9; rw [vv10]; exact dV (by simp [execOp, go_sem, e66]) hS
   | 11 => simp only [qq] at ho; subst ho; have e56 := eD ev hd 10 56 vv10; rw [vv11]; exact dV (by simp [execOp, go_sem, e56]) hS
   | 12 => simp only [qq] at ho; subst ho; have e56 := eD ev hd 10 56 vv10; rw [vv12]; exact dV (by simp [execOp, go_sem, e56]) hS
   | 13 => simp only [qq] at ho; subst ho; have e67 := eD ev hd 11 67 vv11; rw [vv13]; exact dV (by simp [execOp, go_sem, e67]) hS
   | 14 => simp only [qq] at ho; subst ho; have e68 := eD ev hd 12 68 vv12; rw [vv14]; exact dV (by simp [execOp, go_sem, e68]) hS
   | k + 15 => simp at ho
 · intro b' W hS _
   subst hLe
   exact hQ W hS
set_option maxRecDepth 8000 in
set_option maxHeartbeats 4000000 in
theorem put_r3 {Q : Exit → Act → World → Prop} {base : Array Value} {dd : List Deferred} {ops : Array Oper} (hops : Tryz.f150.body.bind (regs 3) = some ops) (o u len cp at_ : Nat) (p : Option Addr) (Post : Option Addr × Nat × Nat → World → Prop) (w9 : World) (hsz : base.size = 88) (b0 : base.getD 0 undef = .pointer (some ⟨o, 0, none⟩)) (b4 : base.getD 4 undef = .int .i64 (at_ : Nat)) (hou : o ≠ u) (hat : at_ ≤ 1000) (c0 : w9.cell? ⟨o, 0, none⟩ = some (.pointer (some ⟨u, 0, none⟩))) (c5 : w9.cell? ⟨u, 5, none⟩ = some (.slice p len cp)) (hc : Calls Tryz.prog 184 #[.slice p len cp, .int .i64 (at_ : Nat), .int .i64 (at_ + 1 : Nat)] w9.drew fun e W' => ∃ x, e = .returned (.slice x.1 x.2.1 x.2.2) ∧ Post x W') (hk : ∀ v W, Post v W → W.cell? ⟨o, 0, none⟩ = some (.pointer (some ⟨u, 0, none⟩)) ∧ (W.cell? ⟨u, 5, none⟩).isSome = true ∧ W.frozen? ⟨u, 5, none⟩ = false) (hQ : ∀ (g : (Option Addr × Nat × Nat) × World) (W : World), (Post g.1 g.2 ∧ W = g.2.setCell ⟨u, 5, none⟩ (.slice g.1.1 g.1.2.1 g.1.2.2)) → Q .normal ⟨putAll base ((fun g : (Option Addr × Nat × Nat) × World => ([(some 27, .pointer (some ⟨o, 0, none⟩)), (some 28, .pointer (some ⟨o, 0, none⟩)), (some 29, .pointer (some ⟨o, 0, none⟩)), (some 30, .pointer (some ⟨o, 0, none⟩)), (some 31, .pointer (some ⟨u, 0, none⟩)), (some 32, .pointer (some ⟨o, 0, none⟩)), (some 33, .pointer (some ⟨o, 0, none⟩)), (some 34, .pointer (some ⟨o, 0, none⟩)), (some 35, .pointer (some ⟨o, 0, none⟩)), (some 36, .pointer (some ⟨u, 0, none⟩)), (some 37, .pointer (some ⟨u, 0, none⟩)), (some 38, .pointer (some ⟨u, 5, none⟩)), (some 39, .slice p len cp), (some 40, .int .i64 (at_ : Nat)), (some 41, .int .i64 (at_ : Nat)), (some 42, .int .i64 (at_ + 1 : Nat)), (some 43, .slice g.1.1 g.1.2.1 g.1.2.2), (some 44, .pointer (some ⟨u, 0, none⟩)), (some 45, .pointer (some ⟨u, 5, none⟩)), (none, undef)] : List (Option Tmp × Value))) g), dd⟩ W) :
   (Code.region 3 ops true).wp Tryz.prog Q ⟨base, dd⟩ w9 := by
 have hmix := hmx
 have h2 := (show Tryz.f150.body.bind (regs 3) = some _ from rfl).symm.trans hops
 obtain rfl := Option.some.inj h2
 clear h2 hops
 have keepU : ∀ (g : (Option Addr × Nat × Nat) × World) (b : Nat → Bool) (W : World), (if b 19 = true then (Post g.1 g.2 ∧ W = g.2.setCell ⟨u, 5, none⟩ (.slice g.1.1 g.1.2.1 g.1.2.2)) else if b 16 = true then (Post g.1 g.2 ∧ W = g.2) else W = w9.drew) → W.cell? ⟨o, 0, none⟩ = some (.pointer (some ⟨u, 0, none⟩)) := by
   intro g b W hS
   split at hS
   · obtain ⟨hP, rfl⟩ := hS
     exact only_cell (Only.setCell (S := (· = u)) g.2 ⟨u, 5, none⟩ (.slice g.1.1 g.1.2.1 g.1.2.2) rfl) (hk _ _ hP).1 hou
   · split at hS
     · obtain ⟨hP, rfl⟩ := hS
       exact (hk _ _ hP).1
     · rw [hS]
       exact c0
 have cK : ∀ (g : (Option Addr × Nat × Nat) × World) (W : World), W = w9.drew → Calls Tryz.prog 184 #[.slice p len cp, .int .i64 (at_ : Nat), .int .i64 (at_ + 1 : Nat)] W fun e W' => ∃ x, e = .returned (.slice x.1 x.2.1 x.2.2) ∧ Post x W' := fun g W hW => by rw [hW]; exact hc
 obtain ⟨LL, hLe⟩ : ∃ LL : (Option Addr × Nat × Nat) × World → List (Option Tmp × Value), LL = (fun g : (Option Addr × Nat × Nat) × World => ([(some 27, .pointer (some ⟨o, 0, none⟩)), (some 28, .pointer (some ⟨o, 0, none⟩)), (some 29, .pointer (some ⟨o, 0, none⟩)), (some 30, .pointer (some ⟨o, 0, none⟩)), (some 31, .pointer (some ⟨u, 0, none⟩)), (some 32, .pointer (some ⟨o, 0, none⟩)), (some 33, .pointer (some ⟨o, 0, none⟩)), (some 34, .pointer (some ⟨o, 0, none⟩)), (some 35, .pointer (some ⟨o, 0, none⟩)), (some 36, .pointer (some ⟨u, 0, none⟩)), (some 37, .pointer (some ⟨u, 0, none⟩)), (some 38, .pointer (some ⟨u, 5, none⟩)), (some 39, .slice p len cp), (some 40, .int .i64 (at_ : Nat)), (some 41, .int .i64 (at_ : Nat)), (some 42, .int .i64 (at_ + 1 : Nat)), (some 43, .slice g.1.1 g.1.2.1 g.1.2.2), (some 44, .pointer (some ⟨u, 0, none⟩)), (some 45, .pointer (some ⟨u, 5, none⟩)), (none, undef)] : List (Option Tmp × Value))) := ⟨_, rfl⟩
 have vv0 : ∀ g, vals (LL g) 0 = .pointer (some ⟨o, 0, none⟩) := fun g => by rw [hLe]; rfl
 have vv1 : ∀ g, vals (LL g) 1 = .pointer (some ⟨o, 0, none⟩) := fun g => by rw [hLe]; rfl
 have vv2 : ∀ g, vals (LL g) 2 = .pointer (some ⟨o, 0, none⟩) := fun g => by rw [hLe]; rfl
 have vv3 : ∀ g, vals (LL g) 3 = .pointer (some ⟨o, 0, none⟩) := fun g => by rw [hLe]; rfl
 have vv4 : ∀ g, vals (LL g) 4 = .pointer (some ⟨u, 0, none⟩) := fun g => by rw [hLe]; rfl
 have vv5 : ∀ g, vals (LL g) 5 = .pointer (some ⟨o, 0, none⟩) := fun g => by rw [hLe]; rfl
 have vv6 : ∀ g, vals (LL g) 6 = .pointer (some ⟨o, 0, none⟩) := fun g => by rw [hLe]; rfl
 have vv7 : ∀ g, vals (LL g) 7 = .pointer (some ⟨o, 0, none⟩) := fun g => by rw [hLe]; rfl
 have vv8 : ∀ g, vals (LL g) 8 = .pointer (some ⟨o, 0, none⟩) := fun g => by rw [hLe]; rfl
 have vv9 : ∀ g, vals (LL g) 9 = .pointer (some ⟨u, 0, none⟩) := fun g => by rw [hLe]; rfl
 have vv10 : ∀ g, vals (LL g) 10 = .pointer (some ⟨u, 0, none⟩) := fun g => by rw [hLe]; rfl
 have vv11 : ∀ g, vals (LL g) 11 = .pointer (some ⟨u, 5, none⟩) := fun g => by rw [hLe]; rfl
 have vv12 : ∀ g, vals (LL g) 12 = .slice p len cp := fun g => by rw [hLe]; rfl
 have vv13 : ∀ g, vals (LL g) 13 = .int .i64 (at_ : Nat) := fun g => by rw [hLe]; rfl
 have vv14 : ∀ g, vals (LL g) 14 = .int .i64 (at_ : Nat) := fun g => by rw [hLe]; rfl
 have vv15 : ∀ g, vals (LL g) 15 = .int .i64 (at_ + 1 : Nat) := fun g => by rw [hLe]; rfl
 have vv16 : ∀ g, vals (LL g) 16 = .slice g.1.1 g.1.2.1 g.1.2.2 := fun g => by rw [hLe]; rfl
 have vv17 : ∀ g, vals (LL g) 17 = .pointer (some ⟨u, 0, none⟩) := fun g => by rw [hLe]; rfl
 have vv18 : ∀ g, vals (LL g) 18 = .pointer (some ⟨u, 5, none⟩) := fun g => by rw [hLe]; rfl
 have vv19 : ∀ g, vals (LL g) 19 = undef := fun g => by rw [hLe]; rfl
 refine region_laidg hmix (by kernel_rfl) 88 hsz (by kernel_rfl) ((none, 0, 0), w9) LL (fun g => by rw [hLe]; rfl) (fun (g : (Option Addr × Nat × Nat) × World) (b : Nat → Bool) (W : World) => if b 19 = true then (Post g.1 g.2 ∧ W = g.2.setCell ⟨u, 5, none⟩ (.slice g.1.1 g.1.2.1 g.1.2.2)) else if b 16 = true then (Post g.1 g.2 ∧ W = g.2) else (W = w9.drew)) ?_ ?_ ?_
 · simp only [Bool.false_eq_true, if_false]
 · intro g b W io o a hS hcl ho hb hd ev kp yl
   have q19_18 : b 19 = true → b 18 = true := fun h => hcl 19 _ rfl h ⟨18, .data⟩ (by simp) rfl
   have q19_17 : b 19 = true → b 17 = true := fun h => hcl 18 _ rfl (q19_18 h) ⟨17, .data⟩ (by simp) rfl
   have q19_4 : b 19 = true → b 4 = true := fun h => hcl 17 _ rfl (q19_17 h) ⟨4, .data⟩ (by simp) rfl
   have q19_3 : b 19 = true → b 3 = true := fun h => hcl 4 _ rfl (q19_4 h) ⟨3, .data⟩ (by simp) rfl
   have q19_2 : b 19 = true → b 2 = true := fun h => hcl 3 _ rfl (q19_3 h) ⟨2, .data⟩ (by simp) rfl
   have q19_1 : b 19 = true → b 1 = true := fun h => hcl 2 _ rfl (q19_2 h) ⟨1, .data⟩ (by simp) rfl
   have q19_0 : b 19 = true → b 0 = true := fun h => hcl 1 _ rfl (q19_1 h) ⟨0, .data⟩ (by simp) rfl
   have q16_12 : b 16 = true → b 12 = true := fun h => hcl 16 _ rfl h ⟨12, .data⟩ (by simp) rfl
   have q16_11 : b 16 = true → b 11 = true := fun h => hcl 12 _ rfl (q16_12 h) ⟨11, .data⟩ (by simp) rfl
   have q16_10 : b 16 = true → b 10 = true := fun h => hcl 11 _ rfl (q16_11 h) ⟨10, .data⟩ (by simp) rfl
   have q16_9 : b 16 = true → b 9 = true := fun h => hcl 10 _ rfl (q16_10 h) ⟨9, .data⟩ (by simp) rfl
   have q16_8 : b 16 = true → b 8 = true := fun h => hcl 9 _ rfl (q16_9 h) ⟨8, .data⟩ (by simp) rfl
   have q16_7 : b 16 = true → b 7 = true := fun h => hcl 8 _ rfl (q16_8 h) ⟨7, .data⟩ (by simp) rfl
   have q16_6 : b 16 = true → b 6 = true := fun h => hcl 7 _ rfl (q16_7 h) ⟨6, .data⟩ (by simp) rfl
   have q16_5 : b 16 = true → b 5 = true := fun h => hcl 6 _ rfl (q16_6 h) ⟨5, .data⟩ (by simp) rfl
   have q19_16 : b 19 = true → b 16 = true := fun h => hcl 19 _ rfl h ⟨16, .data⟩ (by simp) rfl
   have q19_12 : b 19 = true → b 12 = true := fun h => hcl 16 _ rfl (q19_16 h) ⟨12, .data⟩ (by simp) rfl
   have q19_11 : b 19 = true → b 11 = true := fun h => hcl 12 _ rfl (q19_12 h) ⟨11, .data⟩ (by simp) rfl
   have q19_10 : b 19 = true → b 10 = true := fun h => hcl 11 _ rfl (q19_11 h) ⟨10, .data⟩ (by simp) rfl
   have q19_9 : b 19 = true → b 9 = true := fun h => hcl 10 _ rfl (q19_10 h) ⟨9, .data⟩ (by simp) rfl
   have q19_8 : b 19 = true → b 8 = true := fun h => hcl 9 _ rfl (q19_9 h) ⟨8, .data⟩ (by simp) rfl
   have q19_7 : b 19 = true → b 7 = true := fun h => hcl 8 _ rfl (q19_8 h) ⟨7, .data⟩ (by simp) rfl
   have q19_6 : b 19 = true → b 6 = true := fun h => hcl 7 _ rfl (q19_7 h) ⟨6, .data⟩ (by simp) rfl
   have q19_5 : b 19 = true → b 5 = true := fun h => hcl 6 _ rfl (q19_6 h) ⟨5, .data⟩ (by simp) rfl
   have q16_13 : b 16 = true → b 13 = true := fun h => hcl 16 _ rfl h ⟨13, .data⟩ (by simp) rfl
   have q19_13 : b 19 = true → b 13 = true := fun h => hcl 16 _ rfl (q19_16 h) ⟨13, .data⟩ (by simp) rfl
   have q16_15 : b 16 = true → b 15 = true := fun h => hcl 16 _ rfl h ⟨15, .data⟩ (by simp) rfl
   have q16_14 : b 16 = true → b 14 = true := fun h => hcl 15 _ rfl (q16_15 h) ⟨14, .data⟩ (by simp) rfl
   have q19_15 : b 19 = true → b 15 = true := fun h => hcl 16 _ rfl (q19_16 h) ⟨15, .data⟩ (by simp) rfl
   have q19_14 : b 19 = true → b 14 = true := fun h => hcl 15 _ rfl (q19_15 h) ⟨14, .data⟩ (by simp) rfl
   have ch0 : b 19 = true → b 16 = true := fun h => hcl 19 _ rfl h ⟨16, .data⟩ (by simp) rfl
   match io with
   | 0 =>
     simp only [qq] at ho; subst ho; have e0 := (kp 0 (none_till (by kernel_rfl))).trans b0; have n19 := nF q19_0 hb
     refine doesg_value rfl nofun (v := .pointer (some ⟨o, 0, none⟩)) (w' := W) ?_ ⟨g, fun _ _ => rfl, (vv0 g).symm, by simpa [did] using hS⟩
     · simp [execOp, go_sem, e0]
   | 1 =>
     simp only [qq] at ho; subst ho; have e27 := eD ev hd 0 27 (vv0 g); have n19 := nF q19_1 hb
     refine doesg_value rfl nofun (v := .pointer (some ⟨o, 0, none⟩)) (w' := W) ?_ ⟨g, fun _ _ => rfl, (vv1 g).symm, by simpa [did] using hS⟩
     · simp [execOp, go_sem, e27]
   | 2 =>
     simp only [qq] at ho; subst ho; have e28 := eD ev hd 1 28 (vv1 g); have n19 := nF q19_2 hb
     refine doesg_value rfl nofun (v := .pointer (some ⟨o, 0, none⟩)) (w' := W) ?_ ⟨g, fun _ _ => rfl, (vv2 g).symm, by simpa [did] using hS⟩
     · simp [execOp, go_sem, e28]
   | 3 =>
     simp only [qq] at ho; subst ho; have e29 := eD ev hd 2 29 (vv2 g); have n19 := nF q19_3 hb
     refine doesg_value rfl nofun (v := .pointer (some ⟨o, 0, none⟩)) (w' := W) ?_ ⟨g, fun _ _ => rfl, (vv3 g).symm, by simpa [did] using hS⟩
     · simp [execOp, go_sem, e29]
   | 4 =>
     simp only [qq] at ho; subst ho; have e30 := eD ev hd 3 30 (vv3 g); have n19 := nF q19_4 hb; have hl := keepU g b W hS
     refine doesg_value rfl nofun (v := .pointer (some ⟨u, 0, none⟩)) (w' := W) ?_ ⟨g, fun _ _ => rfl, (vv4 g).symm, by simpa [did] using hS⟩
     · simp [execOp, go_sem, e30, hl]
   | 5 =>
     simp only [qq] at ho; subst ho; have e0 := (kp 0 (none_till (by kernel_rfl))).trans b0; have n16 := nF q16_5 hb; have n19 := nF q19_5 hb
     refine doesg_value rfl nofun (v := .pointer (some ⟨o, 0, none⟩)) (w' := W) ?_ ⟨g, fun _ _ => rfl, (vv5 g).symm, by simpa [did] using hS⟩
     · simp [execOp, go_sem, e0]
   | 6 =>
     simp only [qq] at ho; subst ho; have e32 := eD ev hd 5 32 (vv5 g); have n16 := nF q16_6 hb; have n19 := nF q19_6 hb
     refine doesg_value rfl nofun (v := .pointer (some ⟨o, 0, none⟩)) (w' := W) ?_ ⟨g, fun _ _ => rfl, (vv6 g).symm, by simpa [did] using hS⟩
     · simp [execOp, go_sem, e32]
   | 7 =>
     simp only [qq] at ho; subst ho; have e33 := eD ev hd 6 33 (vv6 g); have n16 := nF q16_7 hb; have n19 := nF q19_7 hb
     refine doesg_value rfl nofun (v := .pointer (some ⟨o, 0, none⟩)) (w' := W) ?_ ⟨g, fun _ _ => rfl, (vv7 g).symm, by simpa [did] using hS⟩
     · simp [execOp, go_sem, e33]
   | 8 =>
     simp only [qq] at ho; subst ho; have e34 := eD ev hd 7 34 (vv7 g); have n16 := nF q16_8 hb; have n19 := nF q19_8 hb
     refine doesg_value rfl nofun (v := .pointer (some ⟨o, 0, none⟩)) (w' := W) ?_ ⟨g, fun _ _ => rfl, (vv8 g).symm, by simpa [did] using hS⟩
     · simp [execOp, go_sem, e34]
   | 9 =>
     simp only [qq] at ho; subst ho; have e35 := eD ev hd 8 35 (vv8 g); have n16 := nF q16_9 hb; have n19 := nF q19_9 hb; have hl := keepU g b W hS
     refine doesg_value rfl nofun (v := .pointer (some ⟨u, 0, none⟩)) (w' := W) ?_ ⟨g, fun _ _ => rfl, (vv9 g).symm, by simpa [did] using hS⟩
     · simp [execOp, go_sem, e35, hl]
   | 10 =>
     simp only [qq] at ho; subst ho; have e36 := eD ev hd 9 36 (vv9 g); have n16 := nF q16_10 hb; have n19 := nF q19_10 hb
     refine doesg_value rfl nofun (v := .pointer (some ⟨u, 0, none⟩)) (w' := W) ?_ ⟨g, fun _ _ => rfl, (vv10 g).symm, by simpa [did] using hS⟩
     · simp [execOp, go_sem, e36]
   | 11 =>
     simp only [qq] at ho; subst ho; have e37 := eD ev hd 10 37 (vv10 g); have n16 := nF q16_11 hb; have n19 := nF q19_11 hb
     refine doesg_value rfl nofun (v := .pointer (some ⟨u, 5, none⟩)) (w' := W) ?_ ⟨g, fun _ _ => rfl, (vv11 g).symm, by simpa [did] using hS⟩
     · simp [execOp, go_sem, e37]
   | 12 =>
     simp only [qq] at ho; subst ho; have e38 := eD ev hd 11 38 (vv11 g); have n16 := nF q16_12 hb; have n19 := nF q19_12 hb; have hW : W = w9.drew := by simpa [n16, n19] using hS
     have hl : W.cell? ⟨u, 5, none⟩ = some (.slice p len cp) := by rw [hW]; exact c5
     refine doesg_value rfl nofun (v := .slice p len cp) (w' := W) ?_ ⟨g, fun _ _ => rfl, (vv12 g).symm, by simpa [did] using hS⟩
     · simp [execOp, go_sem, e38, hl]
   | 13 =>
     simp only [qq] at ho; subst ho; have e4 := (kp 4 (none_till (by kernel_rfl))).trans b4; have n16 := nF q16_13 hb; have n19 := nF q19_13 hb
     refine doesg_value rfl nofun (v := .int .i64 (at_ : Nat)) (w' := W) ?_ ⟨g, fun _ _ => rfl, (vv13 g).symm, by simpa [did] using hS⟩
     · simp [execOp, go_sem, e4]
   | 14 =>
     simp only [qq] at ho; subst ho; have e4 := (kp 4 (none_till (by kernel_rfl))).trans b4; have n16 := nF q16_14 hb; have n19 := nF q19_14 hb
     refine doesg_value rfl nofun (v := .int .i64 (at_ : Nat)) (w' := W) ?_ ⟨g, fun _ _ => rfl, (vv14 g).symm, by simpa [did] using hS⟩
     · simp [execOp, go_sem, e4]
   | 15 =>
     simp only [qq] at ho; subst ho; have e41 := eD ev hd 14 41 (vv14 g); have n16 := nF q16_15 hb; have n19 := nF q19_15 hb
     refine doesg_value rfl nofun (v := .int .i64 (at_ + 1 : Nat)) (w' := W) ?_ ⟨g, fun _ _ => rfl, (vv15 g).symm, by simpa [did] using hS⟩
     · (simp [execOp, go_sem, e41]; rw [IntKind.wrap_i64]; omega)
   | 16 =>
     simp only [qq] at ho; subst ho; have e39 := eD ev hd 12 39 (vv12 g); have e40 := eD ev hd 13 40 (vv13 g); have e42 := eD ev hd 15 42 (vv15 g); have n19 := nF q19_16 hb; have hS9 : W = w9.drew := by simpa [n19, hb] using hS
     refine doesg_call rfl nofun (f := 184) (args := #[.slice p len cp, .int .i64 (at_ : Nat), .int .i64 (at_ + 1 : Nat)]) ?_ ?_
     · simp [go_sem, e39, e40, e42]
     · refine (cK g W hS9).mono ?_
       rintro e W' ⟨x, rfl, hP⟩
       refine ⟨_, rfl, (x, W'), ?_, (vv16 (x, W')).symm, ?_⟩
       · intro j hj
         match j, hj with
         | 0, h => exact (vv0 _).trans (vv0 g).symm
         | 1, h => exact (vv1 _).trans (vv1 g).symm
         | 2, h => exact (vv2 _).trans (vv2 g).symm
         | 3, h => exact (vv3 _).trans (vv3 g).symm
         | 4, h => exact (vv4 _).trans (vv4 g).symm
         | 5, h => exact (vv5 _).trans (vv5 g).symm
         | 6, h => exact (vv6 _).trans (vv6 g).symm
         | 7, h => exact (vv7 _).trans (vv7 g).symm
         | 8, h => exact (vv8 _).trans (vv8 g).symm
         | 9, h => exact (vv9 _).trans (vv9 g).symm
         | 10, h => exact (vv10 _).trans (vv10 g).symm
         | 11, h => exact (vv11 _).trans (vv11 g).symm
         | 12, h => exact (vv12 _).trans (vv12 g).symm
         | 13, h => exact (vv13 _).trans (vv13 g).symm
         | 14, h => exact (vv14 _).trans (vv14 g).symm
         | 15, h => exact (vv15 _).trans (vv15 g).symm
         | 16, h => exact absurd (h.symm.trans hb) (by decide)
         | 17, h => exact (vv17 _).trans (vv17 g).symm
         | 18, h => exact (vv18 _).trans (vv18 g).symm
         | 19, h => exact (vv19 _).trans (vv19 g).symm
         | j + 20, _ => subst hLe; rfl
       · simpa [did, n19] using hP
   | 17 =>
     simp only [qq] at ho; subst ho; have e31 := eD ev hd 4 31 (vv4 g); have n19 := nF q19_17 hb
     refine doesg_value rfl nofun (v := .pointer (some ⟨u, 0, none⟩)) (w' := W) ?_ ⟨g, fun _ _ => rfl, (vv17 g).symm, by simpa [did] using hS⟩
     · simp [execOp, go_sem, e31]
   | 18 =>
     simp only [qq] at ho; subst ho; have e44 := eD ev hd 17 44 (vv17 g); have n19 := nF q19_18 hb
     refine doesg_value rfl nofun (v := .pointer (some ⟨u, 5, none⟩)) (w' := W) ?_ ⟨g, fun _ _ => rfl, (vv18 g).symm, by simpa [did] using hS⟩
     · simp [execOp, go_sem, e44]
   | 19 =>
     simp only [qq] at ho; subst ho; have p16 := hD hd 16; have e45 := eD ev hd 18 45 (vv18 g); have e43 := (ev 16 43 rfl p16).trans (vv16 g); have hS9 : Post g.1 g.2 ∧ W = g.2 := by simpa [hb, p16] using hS
     obtain ⟨W', hr, hP⟩ := (⟨_, trivial, hS9.1, rfl⟩ : ∃ W', True ∧ Post g.1 g.2 ∧ W' = g.2.setCell ⟨u, 5, none⟩ (.slice g.1.1 g.1.2.1 g.1.2.2))
     refine doesg_skip rfl nofun (w' := W') ?_ ⟨g, fun _ _ => rfl, (vv19 _).symm, ?_⟩
     · (obtain ⟨hP1, hP2⟩ := hP; obtain ⟨c9, hc9⟩ := Option.isSome_iff_exists.1 (hk _ _ hP1).2.1; have f9 := (hk _ _ hP1).2.2; rw [hS9.2, hP2]; simp [execOp, go_sem, e45, e43, hc9, f9])
     · simpa [did] using hP
   | k + 20 => simp at ho
 · intro g b W hS hall
   have hl9 : b 19 = true := hall 19 (by decide)
   subst hLe
   exact hQ g W (by simpa [hl9] using hS)
set_option maxRecDepth 8000 in
set_option maxHeartbeats 4000000 in
theorem put_r7 {Q : Exit → Act → World → Prop} {base : Array Value} {dd : List Deferred} {ops : Array Oper} (hops : Tryz.f150.body.bind (regs 7) = some ops) (o u len cp at_ : Nat) (p : Option Addr) (Post : Option Addr × Nat × Nat → World → Prop) (w9 : World) (hsz : base.size = 88) (b0 : base.getD 0 undef = .pointer (some ⟨o, 0, none⟩)) (b6 : base.getD 6 undef = .int .i64 (at_ : Nat)) (hou : o ≠ u) (c0 : w9.cell? ⟨o, 0, none⟩ = some (.pointer (some ⟨u, 0, none⟩))) (c5 : w9.cell? ⟨u, 5, none⟩ = some (.slice p len cp)) (hc : Calls Tryz.prog 185 #[.slice p len cp, .int .i64 (at_ : Nat), .slice (some ⟨w9.heap.size, 0, none⟩) 1 1] (w9.drew.alloc (.cells #[.pointer (some ⟨o, 0, none⟩)] 125)) fun e W' => ∃ x, e = .returned (.slice x.1 x.2.1 x.2.2) ∧ Post x W') (hk : ∀ v W, Post v W → W.cell? ⟨o, 0, none⟩ = some (.pointer (some ⟨u, 0, none⟩)) ∧ (W.cell? ⟨u, 5, none⟩).isSome = true ∧ W.frozen? ⟨u, 5, none⟩ = false) (hQ : ∀ (g : (Option Addr × Nat × Nat) × World) (W : World), (Post g.1 g.2 ∧ W = g.2.setCell ⟨u, 5, none⟩ (.slice g.1.1 g.1.2.1 g.1.2.2)) → Q .normal ⟨putAll base ((fun g : (Option Addr × Nat × Nat) × World => ([(some 69, .pointer (some ⟨o, 0, none⟩)), (some 70, .pointer (some ⟨o, 0, none⟩)), (some 71, .pointer (some ⟨o, 0, none⟩)), (some 72, .pointer (some ⟨o, 0, none⟩)), (some 73, .pointer (some ⟨u, 0, none⟩)), (some 74, .pointer (some ⟨o, 0, none⟩)), (some 75, .pointer (some ⟨o, 0, none⟩)), (some 76, .pointer (some ⟨o, 0, none⟩)), (some 77, .pointer (some ⟨o, 0, none⟩)), (some 78, .pointer (some ⟨u, 0, none⟩)), (some 79, .pointer (some ⟨u, 0, none⟩)), (some 80, .pointer (some ⟨u, 5, none⟩)), (some 81, .slice p len cp), (some 82, .int .i64 (at_ : Nat)), (some 83, .pointer (some ⟨o, 0, none⟩)), (some 84, .slice (some ⟨w9.heap.size, 0, none⟩) 1 1), (some 85, .slice g.1.1 g.1.2.1 g.1.2.2), (some 86, .pointer (some ⟨u, 0, none⟩)), (some 87, .pointer (some ⟨u, 5, none⟩)), (none, undef)] : List (Option Tmp × Value))) g), dd⟩ W) :
   (Code.region 7 ops true).wp Tryz.prog Q ⟨base, dd⟩ w9 := by
 have hmix := hmx
 have h2 := (show Tryz.f150.body.bind (regs 7) = some _ from rfl).symm.trans hops
 obtain rfl := Option.some.inj h2
 clear h2 hops
 have hB1 : Below w9.heap.size w9.drew (w9.drew.alloc (.cells #[.pointer (some ⟨o, 0, none⟩)] 125)) := (Below.refl w9.heap.size w9.drew).alloc (Nat.le_refl _) _
 have c0b : (w9.drew.alloc (.cells #[.pointer (some ⟨o, 0, none⟩)] 125)).cell? ⟨o, 0, none⟩ = some (.pointer (some ⟨u, 0, none⟩)) := (hB1.cell (p := ⟨o, 0, none⟩) (cell_lt c0)).trans c0
 have c5b : (w9.drew.alloc (.cells #[.pointer (some ⟨o, 0, none⟩)] 125)).cell? ⟨u, 5, none⟩ = some (.slice p len cp) := (hB1.cell (p := ⟨u, 5, none⟩) (cell_lt c5)).trans c5
 have keepU : ∀ (g : (Option Addr × Nat × Nat) × World) (b : Nat → Bool) (W : World), (if b 19 = true then (Post g.1 g.2 ∧ W = g.2.setCell ⟨u, 5, none⟩ (.slice g.1.1 g.1.2.1 g.1.2.2)) else if b 16 = true then (Post g.1 g.2 ∧ W = g.2) else if b 15 = true then (W = w9.drew.alloc (.cells #[.pointer (some ⟨o, 0, none⟩)] 125)) else W = w9.drew) → W.cell? ⟨o, 0, none⟩ = some (.pointer (some ⟨u, 0, none⟩)) := by
   intro g b W hS
   split at hS
   · obtain ⟨hP, rfl⟩ := hS
     exact only_cell (Only.setCell (S := (· = u)) g.2 ⟨u, 5, none⟩ (.slice g.1.1 g.1.2.1 g.1.2.2) rfl) (hk _ _ hP).1 hou
   · split at hS
     · obtain ⟨hP, rfl⟩ := hS
       exact (hk _ _ hP).1
     · split at hS
       · rw [hS]; exact c0b
       · rw [hS]; exact c0
 have cK : ∀ (g : (Option Addr × Nat × Nat) × World) (W : World), W = w9.drew.alloc (.cells #[.pointer (some ⟨o, 0, none⟩)] 125) → Calls Tryz.prog 185 #[.slice p len cp, .int .i64 (at_ : Nat), .slice (some ⟨w9.heap.size, 0, none⟩) 1 1] W fun e W' => ∃ x, e = .returned (.slice x.1 x.2.1 x.2.2) ∧ Post x W' := fun g W hW => by rw [hW]; exact hc
 obtain ⟨LL, hLe⟩ : ∃ LL : (Option Addr × Nat × Nat) × World → List (Option Tmp × Value), LL = (fun g : (Option Addr × Nat × Nat) × World => ([(some 69, .pointer (some ⟨o, 0, none⟩)), (some 70, .pointer (some ⟨o, 0, none⟩)), (some 71, .pointer (some ⟨o, 0, none⟩)), (some 72, .pointer (some ⟨o, 0, none⟩)), (some 73, .pointer (some ⟨u, 0, none⟩)), (some 74, .pointer (some ⟨o, 0, none⟩)), (some 75, .pointer (some ⟨o, 0, none⟩)), (some 76, .pointer (some ⟨o, 0, none⟩)), (some 77, .pointer (some ⟨o, 0, none⟩)), (some 78, .pointer (some ⟨u, 0, none⟩)), (some 79, .pointer (some ⟨u, 0, none⟩)), (some 80, .pointer (some ⟨u, 5, none⟩)), (some 81, .slice p len cp), (some 82, .int .i64 (at_ : Nat)), (some 83, .pointer (some ⟨o, 0, none⟩)), (some 84, .slice (some ⟨w9.heap.size, 0, none⟩) 1 1), (some 85, .slice g.1.1 g.1.2.1 g.1.2.2), (some 86, .pointer (some ⟨u, 0, none⟩)), (some 87, .pointer (some ⟨u, 5, none⟩)), (none, undef)] : List (Option Tmp × Value))) := ⟨_, rfl⟩
 have vv0 : ∀ g, vals (LL g) 0 = .pointer (some ⟨o, 0, none⟩) := fun g => by rw [hLe]; rfl
 have vv1 : ∀ g, vals (LL g) 1 = .pointer (some ⟨o, 0, none⟩) := fun g => by rw [hLe]; rfl
 have vv2 : ∀ g, vals (LL g) 2 = .pointer (some ⟨o, 0, none⟩) := fun g => by rw [hLe]; rfl
 have vv3 : ∀ g, vals (LL g) 3 = .pointer (some ⟨o, 0, none⟩) := fun g => by rw [hLe]; rfl
 have vv4 : ∀ g, vals (LL g) 4 = .pointer (some ⟨u, 0, none⟩) := fun g => by rw [hLe]; rfl
 have vv5 : ∀ g, vals (LL g) 5 = .pointer (some ⟨o, 0, none⟩) := fun g => by rw [hLe]; rfl
 have vv6 : ∀ g, vals (LL g) 6 = .pointer (some ⟨o, 0, none⟩) := fun g => by rw [hLe]; rfl
 have vv7 : ∀ g, vals (LL g) 7 = .pointer (some ⟨o, 0, none⟩) := fun g => by rw [hLe]; rfl
 have vv8 : ∀ g, vals (LL g) 8 = .pointer (some ⟨o, 0, none⟩) := fun g => by rw [hLe]; rfl
 have vv9 : ∀ g, vals (LL g) 9 = .pointer (some ⟨u, 0, none⟩) := fun g => by rw [hLe]; rfl
 have vv10 : ∀ g, vals (LL g) 10 = .pointer (some ⟨u, 0, none⟩) := fun g => by rw [hLe]; rfl
 have vv11 : ∀ g, vals (LL g) 11 = .pointer (some ⟨u, 5, none⟩) := fun g => by rw [hLe]; rfl
 have vv12 : ∀ g, vals (LL g) 12 = .slice p len cp := fun g => by rw [hLe]; rfl
 have vv13 : ∀ g, vals (LL g) 13 = .int .i64 (at_ : Nat) := fun g => by rw [hLe]; rfl
 have vv14 : ∀ g, vals (LL g) 14 = .pointer (some ⟨o, 0, none⟩) := fun g => by rw [hLe]; rfl
 have vv15 : ∀ g, vals (LL g) 15 = .slice (some ⟨w9.heap.size, 0, none⟩) 1 1 := fun g => by rw [hLe]; rfl
 have vv16 : ∀ g, vals (LL g) 16 = .slice g.1.1 g.1.2.1 g.1.2.2 := fun g => by rw [hLe]; rfl
 have vv17 : ∀ g, vals (LL g) 17 = .pointer (some ⟨u, 0, none⟩) := fun g => by rw [hLe]; rfl
 have vv18 : ∀ g, vals (LL g) 18 = .pointer (some ⟨u, 5, none⟩) := fun g => by rw [hLe]; rfl
 have vv19 : ∀ g, vals (LL g) 19 = undef := fun g => by rw [hLe]; rfl
 refine region_laidg hmix (by kernel_rfl) 88 hsz (by kernel_rfl) ((none, 0, 0), w9) LL (fun g => by rw [hLe]; rfl) (fun (g : (Option Addr × Nat × Nat) × World) (b : Nat → Bool) (W : World) => if b 19 = true then (Post g.1 g.2 ∧ W = g.2.setCell ⟨u, 5, none⟩ (.slice g.1.1 g.1.2.1 g.1.2.2)) else if b 16 = true then (Post g.1 g.2 ∧ W = g.2) else if b 15 = true then (W = w9.drew.alloc (.cells #[.pointer (some ⟨o, 0, none⟩)] 125)) else (W = w9.drew)) ?_ ?_ ?_
 · simp only [Bool.false_eq_true, if_false]
 · intro g b W io o a hS hcl ho hb hd ev kp yl
   have q19_18 : b 19 = true → b 18 = true := fun h => hcl 19 _ rfl h ⟨18, .data⟩ (by simp) rfl
   have q19_17 : b 19 = true → b 17 = true := fun h => hcl 18 _ rfl (q19_18 h) ⟨17, .data⟩ (by simp) rfl
   have q19_4 : b 19 = true → b 4 = true := fun h => hcl 17 _ rfl (q19_17 h) ⟨4, .data⟩ (by simp) rfl
   have q19_3 : b 19 = true → b 3 = true := fun h => hcl 4 _ rfl (q19_4 h) ⟨3, .data⟩ (by simp) rfl
   have q19_2 : b 19 = true → b 2 = true := fun h => hcl 3 _ rfl (q19_3 h) ⟨2, .data⟩ (by simp) rfl
   have q19_1 : b 19 = true → b 1 = true := fun h => hcl 2 _ rfl (q19_2 h) ⟨1, .data⟩ (by simp) rfl
   have q19_0 : b 19 = true → b 0 = true := fun h => hcl 1 _ rfl (q19_1 h) ⟨0, .data⟩ (by simp) rfl
   have q16_12 : b 16 = true → b 12 = true := fun h => hcl 16 _ rfl h ⟨12, .data⟩ (by simp) rfl
   have q16_11 : b 16 = true → b 11 = true := fun h => hcl 12 _ rfl (q16_12 h) ⟨11, .data⟩ (by simp) rfl
   have q16_10 : b 16 = true → b 10 = true := fun h => hcl 11 _ rfl (q16_11 h) ⟨10, .data⟩ (by simp) rfl
   have q16_9 : b 16 = true → b 9 = true := fun h => hcl 10 _ rfl (q16_10 h) ⟨9, .data⟩ (by simp) rfl
   have q16_8 : b 16 = true → b 8 = true := fun h => hcl 9 _ rfl (q16_9 h) ⟨8, .data⟩ (by simp) rfl
   have q16_7 : b 16 = true → b 7 = true := fun h => hcl 8 _ rfl (q16_8 h) ⟨7, .data⟩ (by simp) rfl
   have q16_6 : b 16 = true → b 6 = true := fun h => hcl 7 _ rfl (q16_7 h) ⟨6, .data⟩ (by simp) rfl
   have q16_5 : b 16 = true → b 5 = true := fun h => hcl 6 _ rfl (q16_6 h) ⟨5, .data⟩ (by simp) rfl
   have q19_16 : b 19 = true → b 16 = true := fun h => hcl 19 _ rfl h ⟨16, .data⟩ (by simp) rfl
   have q19_12 : b 19 = true → b 12 = true := fun h => hcl 16 _ rfl (q19_16 h) ⟨12, .data⟩ (by simp) rfl
   have q19_11 : b 19 = true → b 11 = true := fun h => hcl 12 _ rfl (q19_12 h) ⟨11, .data⟩ (by simp) rfl
   have q19_10 : b 19 = true → b 10 = true := fun h => hcl 11 _ rfl (q19_11 h) ⟨10, .data⟩ (by simp) rfl
   have q19_9 : b 19 = true → b 9 = true := fun h => hcl 10 _ rfl (q19_10 h) ⟨9, .data⟩ (by simp) rfl
   have q19_8 : b 19 = true → b 8 = true := fun h => hcl 9 _ rfl (q19_9 h) ⟨8, .data⟩ (by simp) rfl
   have q19_7 : b 19 = true → b 7 = true := fun h => hcl 8 _ rfl (q19_8 h) ⟨7, .data⟩ (by simp) rfl
   have q19_6 : b 19 = true → b 6 = true := fun h => hcl 7 _ rfl (q19_7 h) ⟨6, .data⟩ (by simp) rfl
   have q19_5 : b 19 = true → b 5 = true := fun h => hcl 6 _ rfl (q19_6 h) ⟨5, .data⟩ (by simp) rfl
   have q16_13 : b 16 = true → b 13 = true := fun h => hcl 16 _ rfl h ⟨13, .data⟩ (by simp) rfl
   have q19_13 : b 19 = true → b 13 = true := fun h => hcl 16 _ rfl (q19_16 h) ⟨13, .data⟩ (by simp) rfl
   have q15_14 : b 15 = true → b 14 = true := fun h => hcl 15 _ rfl h ⟨14, .data⟩ (by simp) rfl
   have q16_15 : b 16 = true → b 15 = true := fun h => hcl 16 _ rfl h ⟨15, .data⟩ (by simp) rfl
   have q16_14 : b 16 = true → b 14 = true := fun h => hcl 15 _ rfl (q16_15 h) ⟨14, .data⟩ (by simp) rfl
   have q19_15 : b 19 = true → b 15 = true := fun h => hcl 16 _ rfl (q19_16 h) ⟨15, .data⟩ (by simp) rfl
   have q19_14 : b 19 = true → b 14 = true := fun h => hcl 15 _ rfl (q19_15 h) ⟨14, .data⟩ (by simp) rfl
   have ch0 : b 16 = true → b 15 = true := fun h => hcl 16 _ rfl h ⟨15, .data⟩ (by simp) rfl
   have ch1 : b 19 = true → b 16 = true := fun h => hcl 19 _ rfl h ⟨16, .data⟩ (by simp) rfl
   match io with
   | 0 =>
     simp only [qq] at ho; subst ho; have e0 := (kp 0 (none_till (by kernel_rfl))).trans b0; have n19 := nF q19_0 hb
     refine doesg_value rfl nofun (v := .pointer (some ⟨o, 0, none⟩)) (w' := W) ?_ ⟨g, fun _ _ => rfl, (vv0 g).symm, by simpa [did] using hS⟩
     · simp [execOp, go_sem, e0]
   | 1 =>
     simp only [qq] at ho; subst ho; have e69 := eD ev hd 0 69 (vv0 g); have n19 := nF q19_1 hb
     refine doesg_value rfl nofun (v := .pointer (some ⟨o, 0, none⟩)) (w' := W) ?_ ⟨g, fun _ _ => rfl, (vv1 g).symm, by simpa [did] using hS⟩
     · simp [execOp, go_sem, e69]
   | 2 =>
     simp only [qq] at ho; subst ho; have e70 := eD ev hd 1 70 (vv1 g); have n19 := nF q19_2 hb
     refine doesg_value rfl nofun (v := .pointer (some ⟨o, 0, none⟩)) (w' := W) ?_ ⟨g, fun _ _ => rfl, (vv2 g).symm, by simpa [did] using hS⟩
     · simp [execOp, go_sem, e70]
   | 3 =>
     simp only [qq] at ho; subst ho; have e71 := eD ev hd 2 71 (vv2 g); have n19 := nF q19_3 hb
     refine doesg_value rfl nofun (v := .pointer (some ⟨o, 0, none⟩)) (w' := W) ?_ ⟨g, fun _ _ => rfl, (vv3 g).symm, by simpa [did] using hS⟩
     · simp [execOp, go_sem, e71]
   | 4 =>
     simp only [qq] at ho; subst ho; have e72 := eD ev hd 3 72 (vv3 g); have n19 := nF q19_4 hb; have hl := keepU g b W hS
     refine doesg_value rfl nofun (v := .pointer (some ⟨u, 0, none⟩)) (w' := W) ?_ ⟨g, fun _ _ => rfl, (vv4 g).symm, by simpa [did] using hS⟩
     · simp [execOp, go_sem, e72, hl]
   | 5 =>
     simp only [qq] at ho; subst ho; have e0 := (kp 0 (none_till (by kernel_rfl))).trans b0; have n16 := nF q16_5 hb; have n19 := nF q19_5 hb
     refine doesg_value rfl nofun (v := .pointer (some ⟨o, 0, none⟩)) (w' := W) ?_ ⟨g, fun _ _ => rfl, (vv5 g).symm, by simpa [did] using hS⟩
     · simp [execOp, go_sem, e0]
   | 6 =>
     simp only [qq] at ho; subst ho; have e74 := eD ev hd 5 74 (vv5 g); have n16 := nF q16_6 hb; have n19 := nF q19_6 hb
     refine doesg_value rfl nofun (v := .pointer (some ⟨o, 0, none⟩)) (w' := W) ?_ ⟨g, fun _ _ => rfl, (vv6 g).symm, by simpa [did] using hS⟩
     · simp [execOp, go_sem, e74]
   | 7 =>
     simp only [qq] at ho; subst ho; have e75 := eD ev hd 6 75 (vv6 g); have n16 := nF q16_7 hb; have n19 := nF q19_7 hb
     refine doesg_value rfl nofun (v := .pointer (some ⟨o, 0, none⟩)) (w' := W) ?_ ⟨g, fun _ _ => rfl, (vv7 g).symm, by simpa [did] using hS⟩
     · simp [execOp, go_sem, e75]
   | 8 =>
     simp only [qq] at ho; subst ho; have e76 := eD ev hd 7 76 (vv7 g); have n16 := nF q16_8 hb; have n19 := nF q19_8 hb
     refine doesg_value rfl nofun (v := .pointer (some ⟨o, 0, none⟩)) (w' := W) ?_ ⟨g, fun _ _ => rfl, (vv8 g).symm, by simpa [did] using hS⟩
     · simp [execOp, go_sem, e76]
   | 9 =>
     simp only [qq] at ho; subst ho; have e77 := eD ev hd 8 77 (vv8 g); have n16 := nF q16_9 hb; have n19 := nF q19_9 hb; have hl := keepU g b W hS
     refine doesg_value rfl nofun (v := .pointer (some ⟨u, 0, none⟩)) (w' := W) ?_ ⟨g, fun _ _ => rfl, (vv9 g).symm, by simpa [did] using hS⟩
     · simp [execOp, go_sem, e77, hl]
   | 10 =>
     simp only [qq] at ho; subst ho; have e78 := eD ev hd 9 78 (vv9 g); have n16 := nF q16_10 hb; have n19 := nF q19_10 hb
     refine doesg_value rfl nofun (v := .pointer (some ⟨u, 0, none⟩)) (w' := W) ?_ ⟨g, fun _ _ => rfl, (vv10 g).symm, by simpa [did] using hS⟩
     · simp [execOp, go_sem, e78]
   | 11 =>
     simp only [qq] at ho; subst ho; have e79 := eD ev hd 10 79 (vv10 g); have n16 := nF q16_11 hb; have n19 := nF q19_11 hb
     refine doesg_value rfl nofun (v := .pointer (some ⟨u, 5, none⟩)) (w' := W) ?_ ⟨g, fun _ _ => rfl, (vv11 g).symm, by simpa [did] using hS⟩
     · simp [execOp, go_sem, e79]
   | 12 =>
     simp only [qq] at ho; subst ho; have e80 := eD ev hd 11 80 (vv11 g); have n16 := nF q16_12 hb; have n19 := nF q19_12 hb
     have hl : W.cell? ⟨u, 5, none⟩ = some (.slice p len cp) := by
       have hS2 : if b 15 = true then W = w9.drew.alloc (.cells #[.pointer (some ⟨o, 0, none⟩)] 125) else W = w9.drew := by simpa [n16, n19] using hS
       split at hS2
       · rw [hS2]; exact c5b
       · rw [hS2]; exact c5
     refine doesg_value rfl nofun (v := .slice p len cp) (w' := W) ?_ ⟨g, fun _ _ => rfl, (vv12 g).symm, by simpa [did] using hS⟩
     · simp [execOp, go_sem, e80, hl]
   | 13 =>
     simp only [qq] at ho; subst ho; have e6 := (kp 6 (none_till (by kernel_rfl))).trans b6; have n16 := nF q16_13 hb; have n19 := nF q19_13 hb
     refine doesg_value rfl nofun (v := .int .i64 (at_ : Nat)) (w' := W) ?_ ⟨g, fun _ _ => rfl, (vv13 g).symm, by simpa [did] using hS⟩
     · simp [execOp, go_sem, e6]
   | 14 =>
     simp only [qq] at ho; subst ho; have e0 := (kp 0 (none_till (by kernel_rfl))).trans b0; have n15 := nF q15_14 hb; have n16 := nF q16_14 hb; have n19 := nF q19_14 hb
     refine doesg_value rfl nofun (v := .pointer (some ⟨o, 0, none⟩)) (w' := W) ?_ ⟨g, fun _ _ => rfl, (vv14 g).symm, by simpa [did] using hS⟩
     · simp [execOp, go_sem, e0]
   | 15 =>
     simp only [qq] at ho; subst ho; have e83 := eD ev hd 14 83 (vv14 g); have n16 := nF q16_15 hb; have n19 := nF q19_15 hb; have hS9 : W = w9.drew := by simpa [n16, n19, hb] using hS
     obtain ⟨W', hr, hP⟩ := (⟨_, trivial, rfl⟩ : ∃ W', True ∧ W' = w9.drew.alloc (.cells #[.pointer (some ⟨o, 0, none⟩)] 125))
     refine doesg_value rfl nofun (v := .slice (some ⟨w9.heap.size, 0, none⟩) 1 1) (w' := W') ?_ ⟨g, ?_, (vv15 _).symm, ?_⟩
     · rw [hS9, hP]; simp [execOp, go_sem, e83]
     · exact fun _ _ => rfl
     · simpa [did, n16, n19] using hP
   | 16 =>
     simp only [qq] at ho; subst ho; have p15 := hD hd 15; have e81 := eD ev hd 12 81 (vv12 g); have e82 := eD ev hd 13 82 (vv13 g); have e84 := (ev 15 84 rfl p15).trans (vv15 g); have n19 := nF q19_16 hb; have hS9 : W = w9.drew.alloc (.cells #[.pointer (some ⟨o, 0, none⟩)] 125) := by simpa [n19, hb, p15] using hS
     refine doesg_call rfl nofun (f := 185) (args := #[.slice p len cp, .int .i64 (at_ : Nat), .slice (some ⟨w9.heap.size, 0, none⟩) 1 1]) ?_ ?_
     · simp [go_sem, e81, e82, e84]
     · refine (cK g W hS9).mono ?_
       rintro e W' ⟨x, rfl, hP⟩
       refine ⟨_, rfl, (x, W'), ?_, (vv16 (x, W')).symm, ?_⟩
       · intro j hj
         match j, hj with
         | 0, h => exact (vv0 _).trans (vv0 g).symm
         | 1, h => exact (vv1 _).trans (vv1 g).symm
         | 2, h => exact (vv2 _).trans (vv2 g).symm
         | 3, h => exact (vv3 _).trans (vv3 g).symm
         | 4, h => exact (vv4 _).trans (vv4 g).symm
         | 5, h => exact (vv5 _).trans (vv5 g).symm
         | 6, h => exact (vv6 _).trans (vv6 g).symm
         | 7, h => exact (vv7 _).trans (vv7 g).symm
         | 8, h => exact (vv8 _).trans (vv8 g).symm
         | 9, h => exact (vv9 _).trans (vv9 g).symm
         | 10, h => exact (vv10 _).trans (vv10 g).symm
         | 11, h => exact (vv11 _).trans (vv11 g).symm
         | 12, h => exact (vv12 _).trans (vv12 g).symm
         | 13, h => exact (vv13 _).trans (vv13 g).symm
         | 14, h => exact (vv14 _).trans (vv14 g).symm
         | 15, h => exact (vv15 _).trans (vv15 g).symm
         | 16, h => exact absurd (h.symm.trans hb) (by decide)
         | 17, h => exact (vv17 _).trans (vv17 g).symm
         | 18, h => exact (vv18 _).trans (vv18 g).symm
         | 19, h => exact (vv19 _).trans (vv19 g).symm
         | j + 20, _ => subst hLe; rfl
       · simpa [did, n19] using hP
   | 17 =>
     simp only [qq] at ho; subst ho; have e73 := eD ev hd 4 73 (vv4 g); have n19 := nF q19_17 hb
     refine doesg_value rfl nofun (v := .pointer (some ⟨u, 0, none⟩)) (w' := W) ?_ ⟨g, fun _ _ => rfl, (vv17 g).symm, by simpa [did] using hS⟩
     · simp [execOp, go_sem, e73]
   | 18 =>
     simp only [qq] at ho; subst ho; have e86 := eD ev hd 17 86 (vv17 g); have n19 := nF q19_18 hb
     refine doesg_value rfl nofun (v := .pointer (some ⟨u, 5, none⟩)) (w' := W) ?_ ⟨g, fun _ _ => rfl, (vv18 g).symm, by simpa [did] using hS⟩
     · simp [execOp, go_sem, e86]
   | 19 =>
     simp only [qq] at ho; subst ho; have p16 := hD hd 16; have e87 := eD ev hd 18 87 (vv18 g); have e85 := (ev 16 85 rfl p16).trans (vv16 g); have hS9 : Post g.1 g.2 ∧ W = g.2 := by simpa [hb, p16] using hS
     obtain ⟨W', hr, hP⟩ := (⟨_, trivial, hS9.1, rfl⟩ : ∃ W', True ∧ Post g.1 g.2 ∧ W' = g.2.setCell ⟨u, 5, none⟩ (.slice g.1.1 g.1.2.1 g.1.2.2))
     refine doesg_skip rfl nofun (w' := W') ?_ ⟨g, fun _ _ => rfl, (vv19 _).symm, ?_⟩
     · (obtain ⟨hP1, hP2⟩ := hP; obtain ⟨c9, hc9⟩ := Option.isSome_iff_exists.1 (hk _ _ hP1).2.1; have f9 := (hk _ _ hP1).2.2; rw [hS9.2, hP2]; simp [execOp, go_sem, e87, e85, hc9, f9])
     · simpa [did] using hP
   | k + 20 => simp at ho
 · intro g b W hS hall
   have hl9 : b 19 = true := hall 19 (by decide)
   subst hLe
   exact hQ g W (by simpa [hl9] using hS)
section
variable {F : Nat → Prop} {w : World} {U : List PI} {bl : PI → Nat} {kv : PI → Value} {dr : PI → Bool} {pf pk : PI → PL}
theorem kids_search (h : ObjsM F w U bl kv dr pf pk) {p : PI} {m : List PI} (hm : KidsP U pk p m) (hr : RowP 125 w 0 (kv p) (m.map bl)) (q : PI) {i : Nat} {r : Bool} (hat : AtK (m.map bl) (kyU U bl) q i r) :
   ∀ W, Below w.heap.size w W → Calls Tryz.prog 202 #[kv p, idv q.1 q.2, .func (.func 203) #[] #[]] W fun e w' => e = .returned (.tuple #[.int .i64 (i : Nat), .bool r]) ∧ Below W.heap.size W w' := by
 intro W hW
 have h' := h.below hW
 have hr' := hr.below hW
 obtain ⟨pp, c, e, hlc, hcm, hpp⟩ := hr'.form
 have hl : (m.map bl).length ≤ 1001 := by rw [List.length_map]; have := hm.len; have := h.len; omega
 have hs : (m.map bl).Pairwise fun a b => lessP (kyU U bl a) (kyU U bl b) := by
   rw [List.pairwise_map]
   have hu : ∀ x ∈ m, x ∈ U := fun x hx => ((hm.mem x).1 hx).1
   exact List.Pairwise.imp_of_mem (fun {a b} ha hb hab => by rw [kyU_at h.inj (hu a ha), kyU_at h.inj (hu b hb)]; exact hab) hm.rise
 have hk : ∀ x ∈ m.map bl, W.cell? ⟨x, 2, none⟩ = some (.int .i64 (kyU U bl x).1) ∧ W.cell? ⟨x, 3, none⟩ = some (.int .i64 (kyU U bl x).2) := fun x hx => by
   obtain ⟨y, hy, rfl⟩ := List.mem_map.1 hx
   have hu := ((hm.mem y).1 hy).1
   rw [kyU_at h.inj hu]
   exact ⟨h'.cell hu 2, h'.cell hu 3⟩
 rw [e]
 rcases Nat.eq_zero_or_pos (m.map bl).length with h0 | h0
 · exact searchO_any 0 c (m.map bl) (kyU U bl) q.1 q.2 i r hat W pp (fun hh => by omega) hs hl hlc (fun j x hx => by have := (List.getElem?_eq_some_iff.1 hx).1; omega) hk
 · obtain ⟨g, rfl, hc⟩ := hpp h0
   exact searchO_any g c (m.map bl) (kyU U bl) q.1 q.2 i r hat W _ (fun _ => rfl) hs hl hlc hc hk
theorem ofind_any (h : ObjsM F w U bl kv dr pf pk) {p : PI} (hp : p ∈ U) {m : List PI} (hm : KidsP U pk p m) (hr : RowP 125 w 0 (kv p) (m.map bl)) (q : PI) {i : Nat} {r : Bool} (hat : AtK (m.map bl) (kyU U bl) q i r) :
   Calls Tryz.prog 183 #[.pointer (some ⟨bl p, 0, none⟩), idv q.1 q.2] w fun e w' => e = .returned (.tuple #[.int .i64 (i : Nat), .bool r]) ∧ Below w.heap.size w w' := by
 have c := kids_search h hm hr q hat
 obtain ⟨pp, cp, e, _, _, _⟩ := hr.form
 have k5 := h.cell hp 5
 have k5' : w.cell? ⟨bl p, 5, none⟩ = some (.slice pp (m.map bl).length cp) := by rw [k5, ← e]; rfl
 rw [e] at c
 obtain ⟨q1, q2⟩ := q
 have hB1 : Below w.heap.size w (w.alloc (.cells #[.int .i64 q1, .int .i64 q2] 28)) := (Below.refl w.heap.size w).alloc (Nat.le_refl _) _
 have HC : Hid ((w.alloc (.cells #[.int .i64 q1, .int .i64 q2] 28)).cell? ⟨bl p, 5, none⟩ = some (.slice pp (m.map bl).length cp) ∧ (w.alloc (.cells #[.int .i64 q1, .int .i64 q2] 28)).cell? ⟨w.heap.size, 0, none⟩ = some (.int .i64 q1) ∧ (w.alloc (.cells #[.int .i64 q1, .int .i64 q2] 28)).cell? ⟨w.heap.size, 1, none⟩ = some (.int .i64 q2)) :=
   ⟨(hB1.cell (p := ⟨bl p, 5, none⟩) (cell_lt k5')).trans k5', cellOf (heap_alloc_new w _) 0, cellOf (heap_alloc_new w _) 1⟩
 have HB : Hid (Below w.heap.size w (w.alloc (.cells #[.int .i64 q1, .int .i64 q2] 28))) := hB1
 have HK : Hid (∀ W, Below w.heap.size w W → Calls Tryz.prog 202 #[.slice pp (m.map bl).length cp, idv q1 q2, .func (.func 203) #[] #[]] W fun e w' => e = .returned (.tuple #[.int .i64 (i : Nat), .bool r]) ∧ Below W.heap.size W w') := c
 clear c k5 k5' hB1 h hm hr hat e
 generalize (m.map bl).length = len at *
 generalize bl p = u at *
 go_enter Tryz.func183, Tryz.ntmps183
 go_wp2_with fail
 refine find_reg (by kernel_rfl) u w.heap.size len cp i r pp q1 q2 _ rfl rfl rfl HC.out.1 HC.out.2.1 HC.out.2.2 (fun W hW => HK.out W (HB.out.trans (hW.mono HB.out.size))) ?_
 intro W hS
 have HS : Hid (Below w.heap.size w W) := HB.out.trans (hS.mono HB.out.size)
 clear hS
 simp only [putAll, sA, sB, sC]
 go_wp2_with fail
 go_ret2
 exact ⟨rfl, HS.out⟩
theorem RowP.drewr {e : TypeId} {W : World} {v : Value} {L : List Nat} (h : RowP e W 0 v L) : RowP e W.drew 0 v L := h.below ⟨rfl, rfl, rfl, Nat.le_refl _, fun _ _ => rfl⟩
end
end Go.Proofs.YthhakekbffembaaGreatDoor.Ck.Y

namespace Go.Proofs.YthhakekbffembaaGreatDoor.Ck.Y
open Go.RowKit Go.Maps Go.Lib
set_option maxRecDepth 8000 in
set_option maxHeartbeats 4000000 in
theorem put_ns {F : Nat → Prop} {w : World} {U : List PI} {bl : PI → Nat} {kv : PI → Value} {dr : PI → Bool} {pf : PI → PL} (h : ObjsM F w U bl kv dr pf pf) (hF : ∀ b, F b → b < w.heap.size) {q : PI} (hq : q ∈ U) (hpf : pf q = none) {p2 : PI} {nm2 : ByteArray} (hp2 : p2 ∈ U) (hpq2 : p2 ≠ q) :
   Calls Tryz.prog 150 #[.pointer (some ⟨bl q, 0, none⟩), .agg #[.pointer (some ⟨bl p2, 0, none⟩), .string nm2]] w fun e w' => e = .returned (.tuple #[]) ∧ ∃ kv', ObjsM (growF F w w') w' U bl kv' dr (updP pf q (some (p2, nm2))) (updP pf q (some (p2, nm2))) ∧ Only F w w' := by
 obtain ⟨w1, hw1⟩ : ∃ w1, w1 = w.alloc (.cells #[.pointer (some ⟨bl p2, 0, none⟩), .string nm2] 128) := ⟨_, rfl⟩
 have hB1 : Below w.heap.size w w1 := by rw [hw1]; exact (Below.refl w.heap.size w).alloc (Nat.le_refl _) _
 have hbx : w1.heap[w.heap.size]? = some (.cells #[.pointer (some ⟨bl p2, 0, none⟩), .string nm2] 128 (0, 0)) := by rw [hw1]; exact heap_alloc_new w _
 have hs1 : w1.heap.size = w.heap.size + 1 := by rw [hw1]; simp
 have h1 : ObjsM F w1 U bl kv dr pf pf := h.below hB1
 have H1 : Hid (ObjsM F w1 U bl kv dr pf pf ∧ Below w.heap.size w w1 ∧ w1.heap[w.heap.size]? = some (.cells #[.pointer (some ⟨bl p2, 0, none⟩), .string nm2] 128 (0, 0)) ∧ w1.heap.size = w.heap.size + 1 ∧ ∀ b, F b → b < w.heap.size) := ⟨h1, hB1, hbx, hs1, hF⟩
 have HW : Hid (w1 = w.alloc (.cells #[.pointer (some ⟨bl p2, 0, none⟩), .string nm2] 128)) := hw1
 have c0 : w1.cell? ⟨bl q, 0, none⟩ = some (.pointer none) := by rw [h1.cell hq 0, hpf]; rfl
 have hlq : bl q < w.heap.size := hF _ (h.own q hq).1
 have hlu2 : bl p2 < w.heap.size := hF _ (h.own p2 hp2).1
 have HA : Hid (ObjsM F w1 U bl kv dr pf (updP pf q none) ∧ Only F w w1 ∧ w1.heap[w.heap.size]? = some (.cells #[.pointer (some ⟨bl p2, 0, none⟩), .string nm2] 128 (0, 0)) ∧ (∀ b, F b → F b ∨ (w.heap.size + 1 ≤ b ∧ b < w1.heap.size)) ∧ ∀ b, F b → b < w1.heap.size) := by
   rw [← hpf, updP_self]
   refine ⟨H1.out.1, Below.only H1.out.2.1 F, H1.out.2.2.1, fun b hb => .inl hb, fun b hb => ?_⟩
   have := H1.out.2.2.2.2 b hb; have := H1.out.2.1.size; omega
 clear h hF hB1 hbx hs1 h1
 rw [hw1] at HA c0
 clear hw1 HW
 generalize kv = kvA at HA H1
 have x0 : (w.alloc (.cells #[.pointer (some ⟨bl p2, 0, none⟩), .string nm2] 128)).cell? ⟨w.heap.size, 0, none⟩ = some (.pointer (some ⟨bl p2, 0, none⟩)) := cellOf HA.out.2.2.1 0
 have x1 : (w.alloc (.cells #[.pointer (some ⟨bl p2, 0, none⟩), .string nm2] 128)).cell? ⟨w.heap.size, 1, none⟩ = some (.string nm2) := cellOf HA.out.2.2.1 1
 obtain ⟨y0, hy0⟩ : ∃ y0, (w.alloc (.cells #[.pointer (some ⟨bl p2, 0, none⟩), .string nm2] 128)).cell? ⟨bl q, 0, none⟩ = some y0 := ⟨_, HA.out.1.cell hq 0⟩
 obtain ⟨y1, hy1⟩ : ∃ y1, (w.alloc (.cells #[.pointer (some ⟨bl p2, 0, none⟩), .string nm2] 128)).cell? ⟨bl q, 1, none⟩ = some y1 := ⟨_, HA.out.1.cell hq 1⟩
 have f0 := HA.out.1.frozen hq 0
 have f1 := HA.out.1.frozen hq 1
 have hpl := HA.out.1.place hq (some (p2, nm2))
 have HP : Hid (ObjsM F (((w.alloc (.cells #[.pointer (some ⟨bl p2, 0, none⟩), .string nm2] 128)).setCell ⟨bl q, 0, none⟩ (.pointer (some ⟨bl p2, 0, none⟩))).setCell ⟨bl q, 1, none⟩ (.string nm2)) U bl kvA dr (updP pf q (some (p2, nm2))) (updP pf q none) ∧ Only F (w.alloc (.cells #[.pointer (some ⟨bl p2, 0, none⟩), .string nm2] 128)) (((w.alloc (.cells #[.pointer (some ⟨bl p2, 0, none⟩), .string nm2] 128)).setCell ⟨bl q, 0, none⟩ (.pointer (some ⟨bl p2, 0, none⟩))).setCell ⟨bl q, 1, none⟩ (.string nm2)) ∧ (w.alloc (.cells #[.pointer (some ⟨bl p2, 0, none⟩), .string nm2] 128)).heap.size ≤ (((w.alloc (.cells #[.pointer (some ⟨bl p2, 0, none⟩), .string nm2] 128)).setCell ⟨bl q, 0, none⟩ (.pointer (some ⟨bl p2, 0, none⟩))).setCell ⟨bl q, 1, none⟩ (.string nm2)).heap.size) := ⟨hpl.1, ⟨hpl.2.os, hpl.2.tape, hpl.2.output, hpl.2.size, fun k hk hn => hpl.2.block k hk (fun e => hn (by rw [e]; exact (HA.out.1.own q hq).1))⟩, hpl.2.size⟩
 have hqb : bl q ≠ w.heap.size := by omega
 have HLQ : Hid (bl q < w.heap.size) := hlq
 clear hlq
 clear hpl
 clear hy0
 have cB0 : (((w.alloc (.cells #[.pointer (some ⟨bl p2, 0, none⟩), .string nm2] 128)).setCell ⟨bl q, 0, none⟩ (.pointer (some ⟨bl p2, 0, none⟩))).setCell ⟨bl q, 1, none⟩ (.string nm2)).cell? ⟨bl q, 0, none⟩ = some (.pointer (some ⟨bl p2, 0, none⟩)) := by rw [HP.out.1.cell hq 0, updP_at]; rfl
 go_enter Tryz.func150, Tryz.ntmps150
 go_wp2_with fail
 generalize ((w.alloc (.cells #[.pointer (some ⟨bl p2, 0, none⟩), .string nm2] 128)).setCell ⟨bl q, 0, none⟩ (.pointer (some ⟨bl p2, 0, none⟩))).setCell ⟨bl q, 1, none⟩ (.string nm2) = wB at HP ⊢
 have cB : wB.cell? ⟨bl q, 0, none⟩ = some (.pointer (some ⟨bl p2, 0, none⟩)) := by rw [HP.out.1.cell hq 0, updP_at]; rfl
 clear x0 x1 hy1 f0 f1
 go_wp2_with fail
 obtain ⟨m, hm, hr⟩ := HP.out.1.kid p2 hp2
 obtain ⟨i, r, hat⟩ := AtK.exists (L := m.map bl) (ky := kyU U bl) q (by
   rw [List.pairwise_map]
   have hu : ∀ x ∈ m, x ∈ U := fun x hx => ((hm.mem x).1 hx).1
   exact List.Pairwise.imp_of_mem (fun {a b} ha hb hab => by rw [kyU_at HP.out.1.inj (hu a ha), kyU_at HP.out.1.inj (hu b hb)]; exact hab) hm.rise)
 have hml : m.length ≤ 900 := by have := hm.len; have := HP.out.1.len; omega
 have hil : i ≤ m.length := by have := hat.le; rwa [List.length_map] at this
 have hou : bl q ≠ bl p2 := fun e => hpq2 (HP.out.1.inj q hq p2 hp2 e).symm
 have c2 : wB.cell? ⟨bl q, 2, none⟩ = some (.int .i64 q.1) := HP.out.1.cell hq 2
 have c3 : wB.cell? ⟨bl q, 3, none⟩ = some (.int .i64 q.2) := HP.out.1.cell hq 3
 refine put_r6 (by kernel_rfl) (bl q) (bl p2) i r q.1 q.2 _ rfl rfl cB c2 c3 (fun W hW => ofind_any (HP.out.1.below hW) hp2 hm (hr.below hW) q hat) ?_
 intro W6 hS6
 have h6 := HP.out.1.below hS6
 have hr6 := hr.below hS6
 obtain ⟨pp, cp, e5, _, _, _⟩ := hr6.form
 have HB6 : Hid (Below wB.heap.size wB W6) := hS6
 simp only [putAll, sA, sB, sC]
 go_wp2_with fail
 have c0b : W6.cell? ⟨bl q, 0, none⟩ = some (.pointer (some ⟨bl p2, 0, none⟩)) := (hS6.cell (p := ⟨bl q, 0, none⟩) (cell_lt cB)).trans cB
 have c5b : W6.cell? ⟨bl p2, 5, none⟩ = some (.slice pp (m.map bl).length cp) := by rw [h6.cell hp2 5, ← e5]; rfl
 have hB7 : Below W6.heap.size W6 (W6.drew.alloc (.cells #[.pointer (some ⟨bl q, 0, none⟩)] 125)) := below_of_drew ((Below.refl W6.heap.size W6.drew).alloc (Nat.le_refl _) _)
 have hFA6 : ∀ b, F b → b < W6.heap.size := fun b hb => by have := HA.out.2.2.2.2 b hb; have := HP.out.2.2; have := hS6.size; omega
 have hin := insert_anyO 0 i W6.heap.size (kvA p2) (m.map bl) (bl q) (W6.drew.alloc (.cells #[.pointer (some ⟨bl q, 0, none⟩)] 125)) (hr6.below hB7) (by rw [List.length_map]; exact hil) (by rw [List.length_map]; omega) (Nat.zero_le _) (heap_alloc_new W6.drew _) (fun e => by have := hFA6 _ ((h6.own p2 hp2).2 _ e); omega)
 have hlist : (m.map bl).take i ++ bl q :: (m.map bl).drop i = (m.take i ++ q :: m.drop i).map bl := by rw [List.map_append, List.map_take, List.map_cons, List.map_drop]
 rw [hlist] at hin
 have h7 := h6.below hB7
 refine put_r7 (by kernel_rfl) (bl q) (bl p2) (m.map bl).length cp i pp (fun x W => RowP 125 W 0 (.slice x.1 x.2.1 x.2.2) ((m.take i ++ q :: m.drop i).map bl) ∧ (W6.drew.alloc (.cells #[.pointer (some ⟨bl q, 0, none⟩)] 125)).grownBy W (kvA p2).ownBlock ∧ ((Value.slice x.1 x.2.1 x.2.2).ownBlock = (kvA p2).ownBlock ∨ (Value.slice x.1 x.2.1 x.2.2).ownBlock = some (W6.drew.alloc (.cells #[.pointer (some ⟨bl q, 0, none⟩)] 125)).heap.size)) _ rfl rfl rfl hou c0b c5b ?_ ?_ ?_
 · rw [← e5]
   refine hin.mono ?_
   rintro e W' ⟨v', rfl, hv1, hv2, hv3⟩
   obtain ⟨p', c', rfl, _, _, _⟩ := hv1.form
   exact ⟨(p', _, c'), rfl, hv1, hv2, hv3⟩
 · rintro x W ⟨_, hg, _⟩
   have hO := grown_only hg
   have ho := (hO.block _ (block_lt (h7.obj p2 hp2)) (fun e => h7.row_ne hp2 hp2 e rfl)).trans (h7.obj p2 hp2)
   have hq7 := h7.cell hq 0
   rw [updP_at] at hq7
   exact ⟨only_cell hO hq7 (fun e => h7.row_ne hq hp2 e rfl), by rw [cellOf ho 5]; rfl, frozenOf ho 5⟩
 rintro ⟨x, W8⟩ Wx ⟨⟨hv1, hg3, hv3⟩, rfl⟩
 have hF7 : ∀ b, F b → b < (W6.drew.alloc (.cells #[.pointer (some ⟨bl q, 0, none⟩)] 125)).heap.size := fun b hb => by have := hFA6 b hb; have := hB7.size; omega
 have hkk := hm.inn (nm := nm2) hq (updP_at pf q none) (fun k x hk hx => by
   have hu := ((hm.mem x).1 (List.mem_of_getElem? hx)).1
   have := hat.lo k (bl x) hk (by rw [List.getElem?_map, hx]; rfl)
   rwa [kyU_at HP.out.1.inj hu] at this) (fun k x hk hx => by
   have hu := ((hm.mem x).1 (List.mem_of_getElem? hx)).1
   have := hat.hi k (bl x) hk (by rw [List.getElem?_map, hx]; rfl)
   rwa [kyU_at HP.out.1.inj hu] at this)
 have hre := h7.rekid hp2 (grown_only hg3) hkk hv1 (fun s hs hne m' hm' => hm'.other (by rw [updP_at]; intro nm' e; cases e) (fun nm' e => by cases e; exact hne rfl)) (hv3.imp id (fun e => ⟨_, e, Nat.le_refl _⟩)) hF7
 rw [updP_twice] at hre
 have HR : Hid (ObjsM (growF F w (W8.setCell ⟨bl p2, 5, none⟩ (.slice x.1 x.2.1 x.2.2))) (W8.setCell ⟨bl p2, 5, none⟩ (.slice x.1 x.2.1 x.2.2)) U bl (updV kvA p2 (.slice x.1 x.2.1 x.2.2)) dr (updP pf q (some (p2, nm2))) (updP pf q (some (p2, nm2))) ∧ Only F w (W8.setCell ⟨bl p2, 5, none⟩ (.slice x.1 x.2.1 x.2.2))) := by
   have s1 : (W6.drew.alloc (.cells #[.pointer (some ⟨bl q, 0, none⟩)] 125)).heap.size ≤ W8.heap.size := hg3.size
   have s2 := hB7.size
   have s3 := HB6.out.size
   have s4 := HP.out.2.2
   have s5 := HA.out.2.1.size
   refine ⟨hre.1.mono (fun b hb => ?_), ?_⟩
   · rcases hb with hb | hb
     · rcases HA.out.2.2.2.1 b hb with hb | hb
       · exact .inl hb
       · exact .inr ⟨by omega, by simp; omega⟩
     · exact .inr ⟨by omega, by simpa using hb.2⟩
   · refine HA.out.2.1.trans (((HP.out.2.1.next (Below.only HB6.out F)).next (Below.only hB7 F)).next hre.2) (fun b hb => ?_)
     rcases HA.out.2.2.2.1 b hb with hb | hb
     · exact .inl hb
     · exact .inr (by omega)
 generalize W8.setCell ⟨bl p2, 5, none⟩ (.slice x.1 x.2.1 x.2.2) = wC at HR ⊢
 clear hre hkk hv1 hg3 hv3 hin hlist c0b c5b h6 h7 hr6 hF7 hFA6 HB6 hS6 e5 cB c2 c3 hat hr hm hil hml hou hB7
 simp only [putAll, sA, sB, sC]
 go_wp2_with fail
 go_end0
 exact ⟨rfl, _, HR.out.1, HR.out.2⟩
set_option maxRecDepth 8000 in
set_option maxHeartbeats 4000000 in
theorem put_sn {F : Nat → Prop} {w : World} {U : List PI} {bl : PI → Nat} {kv : PI → Value} {dr : PI → Bool} {pf : PI → PL} (h : ObjsM F w U bl kv dr pf pf) (hF : ∀ b, F b → b < w.heap.size) {q : PI} (hq : q ∈ U) {p : PI} {nm : ByteArray} (hpf : pf q = some (p, nm)) (hp : p ∈ U) (hpq : p ≠ q) :
   Calls Tryz.prog 150 #[.pointer (some ⟨bl q, 0, none⟩), .agg #[.pointer none, .string ⟨#[]⟩]] w fun e w' => e = .returned (.tuple #[]) ∧ ∃ kv', ObjsM (growF F w w') w' U bl kv' dr (updP pf q (none)) (updP pf q (none)) ∧ Only F w w' := by
 obtain ⟨w1, hw1⟩ : ∃ w1, w1 = w.alloc (.cells #[.pointer none, .string ⟨#[]⟩] 128) := ⟨_, rfl⟩
 have hB1 : Below w.heap.size w w1 := by rw [hw1]; exact (Below.refl w.heap.size w).alloc (Nat.le_refl _) _
 have hbx : w1.heap[w.heap.size]? = some (.cells #[.pointer none, .string ⟨#[]⟩] 128 (0, 0)) := by rw [hw1]; exact heap_alloc_new w _
 have hs1 : w1.heap.size = w.heap.size + 1 := by rw [hw1]; simp
 have h1 : ObjsM F w1 U bl kv dr pf pf := h.below hB1
 have H1 : Hid (ObjsM F w1 U bl kv dr pf pf ∧ Below w.heap.size w w1 ∧ w1.heap[w.heap.size]? = some (.cells #[.pointer none, .string ⟨#[]⟩] 128 (0, 0)) ∧ w1.heap.size = w.heap.size + 1 ∧ ∀ b, F b → b < w.heap.size) := ⟨h1, hB1, hbx, hs1, hF⟩
 have HW : Hid (w1 = w.alloc (.cells #[.pointer none, .string ⟨#[]⟩] 128)) := hw1
 have c0 : w1.cell? ⟨bl q, 0, none⟩ = some (.pointer (some ⟨bl p, 0, none⟩)) := by rw [h1.cell hq 0, hpf]; rfl
 have hlq : bl q < w.heap.size := hF _ (h.own q hq).1
 have cw0 := c0
 rw [hw1] at cw0
 clear h hF hw1 hB1 hbx hs1 h1
 go_enter Tryz.func150, Tryz.ntmps150
 go_wp2_with fail
 rw [← HW.out]
 clear HW cw0
 obtain ⟨m, hm, hr⟩ := H1.out.1.kid p hp
 obtain ⟨i, r, hat⟩ := AtK.exists (L := m.map bl) (ky := kyU U bl) q (by
   rw [List.pairwise_map]
   have hu : ∀ x ∈ m, x ∈ U := fun x hx => ((hm.mem x).1 hx).1
   exact List.Pairwise.imp_of_mem (fun {a b} ha hb hab => by rw [kyU_at H1.out.1.inj (hu a ha), kyU_at H1.out.1.inj (hu b hb)]; exact hab) hm.rise)
 have hqm : q ∈ m := (hm.mem q).2 ⟨hq, nm, hpf⟩
 have hqi : m[i]? = some q := hat.found H1.out.1.inj hm.rise (fun x hx => ((hm.mem x).1 hx).1) hqm
 have hil : i < m.length := (List.getElem?_eq_some_iff.1 hqi).1
 have hml : m.length ≤ 900 := by have := hm.len; have := H1.out.1.len; omega
 have hou : bl q ≠ bl p := fun e => hpq (H1.out.1.inj q hq p hp e).symm
 have c2 : w1.cell? ⟨bl q, 2, none⟩ = some (.int .i64 q.1) := H1.out.1.cell hq 2
 have c3 : w1.cell? ⟨bl q, 3, none⟩ = some (.int .i64 q.2) := H1.out.1.cell hq 3
 refine put_r2 (by kernel_rfl) (bl q) (bl p) i r q.1 q.2 _ rfl rfl c0 c2 c3 (fun W hW => ?_) ?_
 · have hr' := hr.below hW
   exact ofind_any (H1.out.1.below hW) hp hm hr' q hat
 intro W2 hS2
 have h2 := H1.out.1.below hS2
 have hr2 := hr.below hS2
 obtain ⟨pp, cp, e5, _, _, _⟩ := hr2.form
 have HB2 : Hid (Below w1.heap.size w1 W2) := hS2
 simp only [putAll, sA, sB, sC]
 go_wp2_with fail
 have c0b : W2.cell? ⟨bl q, 0, none⟩ = some (.pointer (some ⟨bl p, 0, none⟩)) := (hS2.cell (p := ⟨bl q, 0, none⟩) (cell_lt c0)).trans c0
 have c5b : W2.cell? ⟨bl p, 5, none⟩ = some (.slice pp (m.map bl).length cp) := by rw [h2.cell hp 5, ← e5]; rfl
 have hdl := delete_anyO 0 i (i + 1) (kv p) (m.map bl) W2.drew hr2.drewr rfl (by rw [List.length_map]; exact hil) (by rw [List.length_map]; omega)
 have hlist : (m.map bl).take i ++ (m.map bl).drop (i + 1) = (m.take i ++ m.drop (i + 1)).map bl := by rw [List.map_append, List.map_take, List.map_drop]
 rw [hlist] at hdl
 refine put_r3 (by kernel_rfl) (bl q) (bl p) (m.map bl).length cp i pp (fun x W => RowP 125 W 0 (.slice x.1 x.2.1 x.2.2) ((m.take i ++ m.drop (i + 1)).map bl) ∧ W2.grownBy W (kv p).ownBlock ∧ (Value.slice x.1 x.2.1 x.2.2).ownBlock = (kv p).ownBlock) _ rfl rfl rfl hou (by omega) c0b c5b ?_ ?_ ?_
 · rw [← e5]
   refine hdl.mono ?_
   rintro e W' ⟨v', rfl, hv1, hv2, hv3⟩
   obtain ⟨p', c', rfl, _, _, _⟩ := hv1.form
   exact ⟨(p', _, c'), rfl, hv1, ⟨hv2.os, hv2.tape, hv2.output, hv2.size, hv2.block⟩, hv3⟩
 · rintro x W ⟨_, hg, _⟩
   have hO := grown_only hg
   have ho := (hO.block _ (block_lt (h2.obj p hp)) (fun e => h2.row_ne hp hp e rfl)).trans (h2.obj p hp)
   exact ⟨only_cell hO c0b (fun e => h2.row_ne hq hp e rfl), by rw [cellOf ho 5]; rfl, frozenOf ho 5⟩
 rintro ⟨x, W3⟩ Wx ⟨⟨hv1, hg3, hv3⟩, rfl⟩
 have hF2 : ∀ b, F b → b < W2.heap.size := fun b hb => by have := H1.out.2.2.2.2 b hb; have := H1.out.2.1.size; have := hS2.size; omega
 have hre := h2.rekid hp (grown_only hg3) (hm.out hqi) hv1 (fun s hs hne m' hm' => hm'.other (by rw [hpf]; intro nm' e; cases e; exact hne rfl) (fun nm' e => by cases e)) (.inl hv3) hF2
 have HA : Hid (ObjsM (growF F W2 W3) (W3.setCell ⟨bl p, 5, none⟩ (.slice x.1 x.2.1 x.2.2)) U bl (updV kv p (.slice x.1 x.2.1 x.2.2)) dr pf (updP pf q none) ∧ Only F w (W3.setCell ⟨bl p, 5, none⟩ (.slice x.1 x.2.1 x.2.2)) ∧ (W3.setCell ⟨bl p, 5, none⟩ (.slice x.1 x.2.1 x.2.2)).heap[w.heap.size]? = some (.cells #[.pointer none, .string ⟨#[]⟩] 128 (0, 0)) ∧ (∀ b, growF F W2 W3 b → F b ∨ (w.heap.size + 1 ≤ b ∧ b < (W3.setCell ⟨bl p, 5, none⟩ (.slice x.1 x.2.1 x.2.2)).heap.size)) ∧ ∀ b, growF F W2 W3 b → b < (W3.setCell ⟨bl p, 5, none⟩ (.slice x.1 x.2.1 x.2.2)).heap.size) := by
   have hO2 : Only F W2 _ := hre.2
   have hOw : Only F w W2 := (Below.only (H1.out.2.1.trans (HB2.out.mono H1.out.2.1.size)) F)
   have hbW2 := (HB2.out.block _ (block_lt H1.out.2.2.1)).trans H1.out.2.2.1
   have hs3 : W2.heap.size ≤ W3.heap.size := hg3.size
   have hs2 := HB2.out.size
   have hsz := H1.out.2.2.2.1
   refine ⟨hre.1, hOw.next hO2, (hO2.block _ (block_lt hbW2) (fun hb => by have := H1.out.2.2.2.2 _ hb; omega)).trans hbW2, fun b hb => ?_, fun b hb => ?_⟩
   · rcases hb with hb | hb
     · exact .inl hb
     · exact .inr ⟨by omega, by simpa using hb.2⟩
   · rcases hb with hb | hb
     · have := hF2 b hb; simp; omega
     · simpa using hb.2
 generalize W3.setCell ⟨bl p, 5, none⟩ (.slice x.1 x.2.1 x.2.2) = wA at HA ⊢
 generalize growF F W2 W3 = FA at HA
 generalize updV kv p (.slice x.1 x.2.1 x.2.2) = kvA at HA
 clear hre hv1 hg3 hv3 hdl hlist c0b c5b h2 hr2 hF2 HB2 hS2 e5 c0 c2 c3 hat hqi hqm hr hm hil hml hou
 simp only [putAll, sA, sB, sC]
 have x0 : wA.cell? ⟨w.heap.size, 0, none⟩ = some (.pointer none) := cellOf HA.out.2.2.1 0
 have x1 : wA.cell? ⟨w.heap.size, 1, none⟩ = some (.string ⟨#[]⟩) := cellOf HA.out.2.2.1 1
 obtain ⟨y0, hy0⟩ : ∃ y0, wA.cell? ⟨bl q, 0, none⟩ = some y0 := ⟨_, HA.out.1.cell hq 0⟩
 obtain ⟨y1, hy1⟩ : ∃ y1, wA.cell? ⟨bl q, 1, none⟩ = some y1 := ⟨_, HA.out.1.cell hq 1⟩
 have f0 := HA.out.1.frozen hq 0
 have f1 := HA.out.1.frozen hq 1
 have hpl := HA.out.1.place hq (none)
 have HP : Hid (ObjsM FA ((wA.setCell ⟨bl q, 0, none⟩ (.pointer none)).setCell ⟨bl q, 1, none⟩ (.string ⟨#[]⟩)) U bl kvA dr (updP pf q (none)) (updP pf q none) ∧ Only FA wA ((wA.setCell ⟨bl q, 0, none⟩ (.pointer none)).setCell ⟨bl q, 1, none⟩ (.string ⟨#[]⟩)) ∧ wA.heap.size ≤ ((wA.setCell ⟨bl q, 0, none⟩ (.pointer none)).setCell ⟨bl q, 1, none⟩ (.string ⟨#[]⟩)).heap.size) := ⟨hpl.1, ⟨hpl.2.os, hpl.2.tape, hpl.2.output, hpl.2.size, fun k hk hn => hpl.2.block k hk (fun e => hn (by rw [e]; exact (HA.out.1.own q hq).1))⟩, hpl.2.size⟩
 have hqb : bl q ≠ w.heap.size := by omega
 clear hpl
 go_wp2_with fail
 generalize (wA.setCell ⟨bl q, 0, none⟩ (.pointer none)).setCell ⟨bl q, 1, none⟩ (.string ⟨#[]⟩) = wB at HP ⊢
 have cB : wB.cell? ⟨bl q, 0, none⟩ = some (.pointer none) := by rw [HP.out.1.cell hq 0, updP_at]; rfl
 clear x0 x1 hy0 hy1 f0 f1
 go_wp2_with fail
 go_end0
 refine ⟨rfl, kvA, HP.out.1.mono (fun b hb => ?_), ?_⟩
 · rcases HA.out.2.2.2.1 b hb with hb | hb
   · exact .inl hb
   · refine .inr ⟨by omega, ?_⟩
     have := HP.out.2.2; omega
 · refine HA.out.2.1.trans HP.out.2.1 (fun b hb => ?_)
   rcases HA.out.2.2.2.1 b hb with hb | hb
   · exact .inl hb
   · exact .inr (by omega)
set_option maxRecDepth 8000 in
set_option maxHeartbeats 4000000 in
theorem put_ss {F : Nat → Prop} {w : World} {U : List PI} {bl : PI → Nat} {kv : PI → Value} {dr : PI → Bool} {pf : PI → PL} (h : ObjsM F w U bl kv dr pf pf) (hF : ∀ b, F b → b < w.heap.size) {q : PI} (hq : q ∈ U) {p : PI} {nm : ByteArray} (hpf : pf q = some (p, nm)) (hp : p ∈ U) (hpq : p ≠ q) {p2 : PI} {nm2 : ByteArray} (hp2 : p2 ∈ U) (hpq2 : p2 ≠ q) :
   Calls Tryz.prog 150 #[.pointer (some ⟨bl q, 0, none⟩), .agg #[.pointer (some ⟨bl p2, 0, none⟩), .string nm2]] w fun e w' => e = .returned (.tuple #[]) ∧ ∃ kv', ObjsM (growF F w w') w' U bl kv' dr (updP pf q (some (p2, nm2))) (updP pf q (some (p2, nm2))) ∧ Only F w w' := by
 obtain ⟨w1, hw1⟩ : ∃ w1, w1 = w.alloc (.cells #[.pointer (some ⟨bl p2, 0, none⟩), .string nm2] 128) := ⟨_, rfl⟩
 have hB1 : Below w.heap.size w w1 := by rw [hw1]; exact (Below.refl w.heap.size w).alloc (Nat.le_refl _) _
 have hbx : w1.heap[w.heap.size]? = some (.cells #[.pointer (some ⟨bl p2, 0, none⟩), .string nm2] 128 (0, 0)) := by rw [hw1]; exact heap_alloc_new w _
 have hs1 : w1.heap.size = w.heap.size + 1 := by rw [hw1]; simp
 have h1 : ObjsM F w1 U bl kv dr pf pf := h.below hB1
 have H1 : Hid (ObjsM F w1 U bl kv dr pf pf ∧ Below w.heap.size w w1 ∧ w1.heap[w.heap.size]? = some (.cells #[.pointer (some ⟨bl p2, 0, none⟩), .string nm2] 128 (0, 0)) ∧ w1.heap.size = w.heap.size + 1 ∧ ∀ b, F b → b < w.heap.size) := ⟨h1, hB1, hbx, hs1, hF⟩
 have HW : Hid (w1 = w.alloc (.cells #[.pointer (some ⟨bl p2, 0, none⟩), .string nm2] 128)) := hw1
 have c0 : w1.cell? ⟨bl q, 0, none⟩ = some (.pointer (some ⟨bl p, 0, none⟩)) := by rw [h1.cell hq 0, hpf]; rfl
 have hlq : bl q < w.heap.size := hF _ (h.own q hq).1
 have hlu2 : bl p2 < w.heap.size := hF _ (h.own p2 hp2).1
 have cw0 := c0
 rw [hw1] at cw0
 clear h hF hw1 hB1 hbx hs1 h1
 go_enter Tryz.func150, Tryz.ntmps150
 go_wp2_with fail
 rw [← HW.out]
 clear HW cw0
 obtain ⟨m, hm, hr⟩ := H1.out.1.kid p hp
 obtain ⟨i, r, hat⟩ := AtK.exists (L := m.map bl) (ky := kyU U bl) q (by
   rw [List.pairwise_map]
   have hu : ∀ x ∈ m, x ∈ U := fun x hx => ((hm.mem x).1 hx).1
   exact List.Pairwise.imp_of_mem (fun {a b} ha hb hab => by rw [kyU_at H1.out.1.inj (hu a ha), kyU_at H1.out.1.inj (hu b hb)]; exact hab) hm.rise)
 have hqm : q ∈ m := (hm.mem q).2 ⟨hq, nm, hpf⟩
 have hqi : m[i]? = some q := hat.found H1.out.1.inj hm.rise (fun x hx => ((hm.mem x).1 hx).1) hqm
 have hil : i < m.length := (List.getElem?_eq_some_iff.1 hqi).1
 have hml : m.length ≤ 900 := by have := hm.len; have := H1.out.1.len; omega
 have hou : bl q ≠ bl p := fun e => hpq (H1.out.1.inj q hq p hp e).symm
 have c2 : w1.cell? ⟨bl q, 2, none⟩ = some (.int .i64 q.1) := H1.out.1.cell hq 2
 have c3 : w1.cell? ⟨bl q, 3, none⟩ = some (.int .i64 q.2) := H1.out.1.cell hq 3
 refine put_r2 (by kernel_rfl) (bl q) (bl p) i r q.1 q.2 _ rfl rfl c0 c2 c3 (fun W hW => ?_) ?_
 · have hr' := hr.below hW
   exact ofind_any (H1.out.1.below hW) hp hm hr' q hat
 intro W2 hS2
 have h2 := H1.out.1.below hS2
 have hr2 := hr.below hS2
 obtain ⟨pp, cp, e5, _, _, _⟩ := hr2.form
 have HB2 : Hid (Below w1.heap.size w1 W2) := hS2
 simp only [putAll, sA, sB, sC]
 go_wp2_with fail
 have c0b : W2.cell? ⟨bl q, 0, none⟩ = some (.pointer (some ⟨bl p, 0, none⟩)) := (hS2.cell (p := ⟨bl q, 0, none⟩) (cell_lt c0)).trans c0
 have c5b : W2.cell? ⟨bl p, 5, none⟩ = some (.slice pp (m.map bl).length cp) := by rw [h2.cell hp 5, ← e5]; rfl
 have hdl := delete_anyO 0 i (i + 1) (kv p) (m.map bl) W2.drew hr2.drewr rfl (by rw [List.length_map]; exact hil) (by rw [List.length_map]; omega)
 have hlist : (m.map bl).take i ++ (m.map bl).drop (i + 1) = (m.take i ++ m.drop (i + 1)).map bl := by rw [List.map_append, List.map_take, List.map_drop]
 rw [hlist] at hdl
 refine put_r3 (by kernel_rfl) (bl q) (bl p) (m.map bl).length cp i pp (fun x W => RowP 125 W 0 (.slice x.1 x.2.1 x.2.2) ((m.take i ++ m.drop (i + 1)).map bl) ∧ W2.grownBy W (kv p).ownBlock ∧ (Value.slice x.1 x.2.1 x.2.2).ownBlock = (kv p).ownBlock) _ rfl rfl rfl hou (by omega) c0b c5b ?_ ?_ ?_
 · rw [← e5]
   refine hdl.mono ?_
   rintro e W' ⟨v', rfl, hv1, hv2, hv3⟩
   obtain ⟨p', c', rfl, _, _, _⟩ := hv1.form
   exact ⟨(p', _, c'), rfl, hv1, ⟨hv2.os, hv2.tape, hv2.output, hv2.size, hv2.block⟩, hv3⟩
 · rintro x W ⟨_, hg, _⟩
   have hO := grown_only hg
   have ho := (hO.block _ (block_lt (h2.obj p hp)) (fun e => h2.row_ne hp hp e rfl)).trans (h2.obj p hp)
   exact ⟨only_cell hO c0b (fun e => h2.row_ne hq hp e rfl), by rw [cellOf ho 5]; rfl, frozenOf ho 5⟩
 rintro ⟨x, W3⟩ Wx ⟨⟨hv1, hg3, hv3⟩, rfl⟩
 have hF2 : ∀ b, F b → b < W2.heap.size := fun b hb => by have := H1.out.2.2.2.2 b hb; have := H1.out.2.1.size; have := hS2.size; omega
 have hre := h2.rekid hp (grown_only hg3) (hm.out hqi) hv1 (fun s hs hne m' hm' => hm'.other (by rw [hpf]; intro nm' e; cases e; exact hne rfl) (fun nm' e => by cases e)) (.inl hv3) hF2
 have HA : Hid (ObjsM (growF F W2 W3) (W3.setCell ⟨bl p, 5, none⟩ (.slice x.1 x.2.1 x.2.2)) U bl (updV kv p (.slice x.1 x.2.1 x.2.2)) dr pf (updP pf q none) ∧ Only F w (W3.setCell ⟨bl p, 5, none⟩ (.slice x.1 x.2.1 x.2.2)) ∧ (W3.setCell ⟨bl p, 5, none⟩ (.slice x.1 x.2.1 x.2.2)).heap[w.heap.size]? = some (.cells #[.pointer (some ⟨bl p2, 0, none⟩), .string nm2] 128 (0, 0)) ∧ (∀ b, growF F W2 W3 b → F b ∨ (w.heap.size + 1 ≤ b ∧ b < (W3.setCell ⟨bl p, 5, none⟩ (.slice x.1 x.2.1 x.2.2)).heap.size)) ∧ ∀ b, growF F W2 W3 b → b < (W3.setCell ⟨bl p, 5, none⟩ (.slice x.1 x.2.1 x.2.2)).heap.size) := by
   have hO2 : Only F W2 _ := hre.2
   have hOw : Only F w W2 := (Below.only (H1.out.2.1.trans (HB2.out.mono H1.out.2.1.size)) F)
   have hbW2 := (HB2.out.block _ (block_lt H1.out.2.2.1)).trans H1.out.2.2.1
   have hs3 : W2.heap.size ≤ W3.heap.size := hg3.size
   have hs2 := HB2.out.size
   have hsz := H1.out.2.2.2.1
   refine ⟨hre.1, hOw.next hO2, (hO2.block _ (block_lt hbW2) (fun hb => by have := H1.out.2.2.2.2 _ hb; omega)).trans hbW2, fun b hb => ?_, fun b hb => ?_⟩
   · rcases hb with hb | hb
     · exact .inl hb
     · exact .inr ⟨by omega, by simpa using hb.2⟩
   · rcases hb with hb | hb
     · have := hF2 b hb; simp; omega
     · simpa using hb.2
 generalize W3.setCell ⟨bl p, 5, none⟩ (.slice x.1 x.2.1 x.2.2) = wA at HA ⊢
 generalize growF F W2 W3 = FA at HA
 generalize updV kv p (.slice x.1 x.2.1 x.2.2) = kvA at HA
 clear hre hv1 hg3 hv3 hdl hlist c0b c5b h2 hr2 hF2 HB2 hS2 e5 c0 c2 c3 hat hqi hqm hr hm hil hml hou
 simp only [putAll, sA, sB, sC]
 have x0 : wA.cell? ⟨w.heap.size, 0, none⟩ = some (.pointer (some ⟨bl p2, 0, none⟩)) := cellOf HA.out.2.2.1 0
 have x1 : wA.cell? ⟨w.heap.size, 1, none⟩ = some (.string nm2) := cellOf HA.out.2.2.1 1
 obtain ⟨y0, hy0⟩ : ∃ y0, wA.cell? ⟨bl q, 0, none⟩ = some y0 := ⟨_, HA.out.1.cell hq 0⟩
 obtain ⟨y1, hy1⟩ : ∃ y1, wA.cell? ⟨bl q, 1, none⟩ = some y1 := ⟨_, HA.out.1.cell hq 1⟩
 have f0 := HA.out.1.frozen hq 0
 have f1 := HA.out.1.frozen hq 1
 have hpl := HA.out.1.place hq (some (p2, nm2))
 have HP : Hid (ObjsM FA ((wA.setCell ⟨bl q, 0, none⟩ (.pointer (some ⟨bl p2, 0, none⟩))).setCell ⟨bl q, 1, none⟩ (.string nm2)) U bl kvA dr (updP pf q (some (p2, nm2))) (updP pf q none) ∧ Only FA wA ((wA.setCell ⟨bl q, 0, none⟩ (.pointer (some ⟨bl p2, 0, none⟩))).setCell ⟨bl q, 1, none⟩ (.string nm2)) ∧ wA.heap.size ≤ ((wA.setCell ⟨bl q, 0, none⟩ (.pointer (some ⟨bl p2, 0, none⟩))).setCell ⟨bl q, 1, none⟩ (.string nm2)).heap.size) := ⟨hpl.1, ⟨hpl.2.os, hpl.2.tape, hpl.2.output, hpl.2.size, fun k hk hn => hpl.2.block k hk (fun e => hn (by rw [e]; exact (HA.out.1.own q hq).1))⟩, hpl.2.size⟩
 have hqb : bl q ≠ w.heap.size := by omega
 clear hpl
 go_wp2_with fail
 generalize (wA.setCell ⟨bl q, 0, none⟩ (.pointer (some ⟨bl p2, 0, none⟩))).setCell ⟨bl q, 1, none⟩ (.string nm2) = wB at HP ⊢
 have cB : wB.cell? ⟨bl q, 0, none⟩ = some (.pointer (some ⟨bl p2, 0, none⟩)) := by rw [HP.out.1.cell hq 0, updP_at]; rfl
 clear x0 x1 hy0 hy1 f0 f1
 go_wp2_with fail
 obtain ⟨m, hm, hr⟩ := HP.out.1.kid p2 hp2
 obtain ⟨i, r, hat⟩ := AtK.exists (L := m.map bl) (ky := kyU U bl) q (by
   rw [List.pairwise_map]
   have hu : ∀ x ∈ m, x ∈ U := fun x hx => ((hm.mem x).1 hx).1
   exact List.Pairwise.imp_of_mem (fun {a b} ha hb hab => by rw [kyU_at HP.out.1.inj (hu a ha), kyU_at HP.out.1.inj (hu b hb)]; exact hab) hm.rise)
 have hml : m.length ≤ 900 := by have := hm.len; have := HP.out.1.len; omega
 have hil : i ≤ m.length := by have := hat.le; rwa [List.length_map] at this
 have hou : bl q ≠ bl p2 := fun e => hpq2 (HP.out.1.inj q hq p2 hp2 e).symm
 have c2 : wB.cell? ⟨bl q, 2, none⟩ = some (.int .i64 q.1) := HP.out.1.cell hq 2
 have c3 : wB.cell? ⟨bl q, 3, none⟩ = some (.int .i64 q.2) := HP.out.1.cell hq 3
 refine put_r6 (by kernel_rfl) (bl q) (bl p2) i r q.1 q.2 _ rfl rfl cB c2 c3 (fun W hW => ofind_any (HP.out.1.below hW) hp2 hm (hr.below hW) q hat) ?_
 intro W6 hS6
 have h6 := HP.out.1.below hS6
 have hr6 := hr.below hS6
 obtain ⟨pp, cp, e5, _, _, _⟩ := hr6.form
 have HB6 : Hid (Below wB.heap.size wB W6) := hS6
 simp only [putAll, sA, sB, sC]
 go_wp2_with fail
 have c0b : W6.cell? ⟨bl q, 0, none⟩ = some (.pointer (some ⟨bl p2, 0, none⟩)) := (hS6.cell (p := ⟨bl q, 0, none⟩) (cell_lt cB)).trans cB
 have c5b : W6.cell? ⟨bl p2, 5, none⟩ = some (.slice pp (m.map bl).length cp) := by rw [h6.cell hp2 5, ← e5]; rfl
 have hB7 : Below W6.heap.size W6 (W6.drew.alloc (.cells #[.pointer (some ⟨bl q, 0, none⟩)] 125)) := below_of_drew ((Below.refl W6.heap.size W6.drew).alloc (Nat.le_refl _) _)
 have hFA6 : ∀ b, FA b → b < W6.heap.size := fun b hb => by have := HA.out.2.2.2.2 b hb; have := HP.out.2.2; have := hS6.size; omega
 have hin := insert_anyO 0 i W6.heap.size (kvA p2) (m.map bl) (bl q) (W6.drew.alloc (.cells #[.pointer (some ⟨bl q, 0, none⟩)] 125)) (hr6.below hB7) (by rw [List.length_map]; exact hil) (by rw [List.length_map]; omega) (Nat.zero_le _) (heap_alloc_new W6.drew _) (fun e => by have := hFA6 _ ((h6.own p2 hp2).2 _ e); omega)
 have hlist : (m.map bl).take i ++ bl q :: (m.map bl).drop i = (m.take i ++ q :: m.drop i).map bl := by rw [List.map_append, List.map_take, List.map_cons, List.map_drop]
 rw [hlist] at hin
 have h7 := h6.below hB7
 refine put_r7 (by kernel_rfl) (bl q) (bl p2) (m.map bl).length cp i pp (fun x W => RowP 125 W 0 (.slice x.1 x.2.1 x.2.2) ((m.take i ++ q :: m.drop i).map bl) ∧ (W6.drew.alloc (.cells #[.pointer (some ⟨bl q, 0, none⟩)] 125)).grownBy W (kvA p2).ownBlock ∧ ((Value.slice x.1 x.2.1 x.2.2).ownBlock = (kvA p2).ownBlock ∨ (Value.slice x.1 x.2.1 x.2.2).ownBlock = some (W6.drew.alloc (.cells #[.pointer (some ⟨bl q, 0, none⟩)] 125)).heap.size)) _ rfl rfl rfl hou c0b c5b ?_ ?_ ?_
 · rw [← e5]
   refine hin.mono ?_
   rintro e W' ⟨v', rfl, hv1, hv2, hv3⟩
   obtain ⟨p', c', rfl, _, _, _⟩ := hv1.form
   exact ⟨(p', _, c'), rfl, hv1, hv2, hv3⟩
 · rintro x W ⟨_, hg, _⟩
   have hO := grown_only hg
   have ho := (hO.block _ (block_lt (h7.obj p2 hp2)) (fun e => h7.row_ne hp2 hp2 e rfl)).trans (h7.obj p2 hp2)
   have hq7 := h7.cell hq 0
   rw [updP_at] at hq7
   exact ⟨only_cell hO hq7 (fun e => h7.row_ne hq hp2 e rfl), by rw [cellOf ho 5]; rfl, frozenOf ho 5⟩
 rintro ⟨x, W8⟩ Wx ⟨⟨hv1, hg3, hv3⟩, rfl⟩
 have hF7 : ∀ b, FA b → b < (W6.drew.alloc (.cells #[.pointer (some ⟨bl q, 0, none⟩)] 125)).heap.size := fun b hb => by have := hFA6 b hb; have := hB7.size; omega
 have hkk := hm.inn (nm := nm2) hq (updP_at pf q none) (fun k x hk hx => by
   have hu := ((hm.mem x).1 (List.mem_of_getElem? hx)).1
   have := hat.lo k (bl x) hk (by rw [List.getElem?_map, hx]; rfl)
   rwa [kyU_at HP.out.1.inj hu] at this) (fun k x hk hx => by
   have hu := ((hm.mem x).1 (List.mem_of_getElem? hx)).1
   have := hat.hi k (bl x) hk (by rw [List.getElem?_map, hx]; rfl)
   rwa [kyU_at HP.out.1.inj hu] at this)
 have hre := h7.rekid hp2 (grown_only hg3) hkk hv1 (fun s hs hne m' hm' => hm'.other (by rw [updP_at]; intro nm' e; cases e) (fun nm' e => by cases e; exact hne rfl)) (hv3.imp id (fun e => ⟨_, e, Nat.le_refl _⟩)) hF7
 rw [updP_twice] at hre
 have HR : Hid (ObjsM (growF F w (W8.setCell ⟨bl p2, 5, none⟩ (.slice x.1 x.2.1 x.2.2))) (W8.setCell ⟨bl p2, 5, none⟩ (.slice x.1 x.2.1 x.2.2)) U bl (updV kvA p2 (.slice x.1 x.2.1 x.2.2)) dr (updP pf q (some (p2, nm2))) (updP pf q (some (p2, nm2))) ∧ Only F w (W8.setCell ⟨bl p2, 5, none⟩ (.slice x.1 x.2.1 x.2.2))) := by
   have s1 : (W6.drew.alloc (.cells #[.pointer (some ⟨bl q, 0, none⟩)] 125)).heap.size ≤ W8.heap.size := hg3.size
   have s2 := hB7.size
   have s3 := HB6.out.size
   have s4 := HP.out.2.2
   have s5 := HA.out.2.1.size
   refine ⟨hre.1.mono (fun b hb => ?_), ?_⟩
   · rcases hb with hb | hb
     · rcases HA.out.2.2.2.1 b hb with hb | hb
       · exact .inl hb
       · exact .inr ⟨by omega, by simp; omega⟩
     · exact .inr ⟨by omega, by simpa using hb.2⟩
   · refine HA.out.2.1.trans (((HP.out.2.1.next (Below.only HB6.out FA)).next (Below.only hB7 FA)).next hre.2) (fun b hb => ?_)
     rcases HA.out.2.2.2.1 b hb with hb | hb
     · exact .inl hb
     · exact .inr (by omega)
 generalize W8.setCell ⟨bl p2, 5, none⟩ (.slice x.1 x.2.1 x.2.2) = wC at HR ⊢
 clear hre hkk hv1 hg3 hv3 hin hlist c0b c5b h6 h7 hr6 hF7 hFA6 HB6 hS6 e5 cB c2 c3 hat hr hm hil hml hou hB7
 simp only [putAll, sA, sB, sC]
 go_wp2_with fail
 go_end0
 exact ⟨rfl, _, HR.out.1, HR.out.2⟩
end Go.Proofs.YthhakekbffembaaGreatDoor.Ck.Y
