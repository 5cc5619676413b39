import Derived.Test.YthhakekbffembaaGreatDoorProg
import Derived.WalkKit
import Derived.WalkSpells
import Derived.WalkLawsBesides
import Derived.Laws.Small
import Derived.Laws.StructEq
import Derived.Deep.LoopGhost
import Derived.Deep.QuietTactic
import Derived.BigQuiet
import Derived.RegionTactic

namespace Go.Proofs.YthhakekbffembaaGreatDoor
theorem a0z {p:Prop} (h:p):Go.RowKit.Hid p:=h
theorem agz {p q:Prop} (h:p) (k:q):p∧q:=⟨h,k⟩
end Go.Proofs.YthhakekbffembaaGreatDoor
namespace Go.Proofs.YthhakekbffembaaGreatDoor.Ck
open Go.RowKit
variable {w:World} {b f:Nat} {cs args:Array Value} {t x y n t' n':Int} {v:Ending} {S:Nat→Prop}
theorem cellOf {t:TypeId} {f:Nat×Nat} (h:w.heap[b]? =some (.cells cs t f)) (j:Nat):
  w.cell? ⟨b,j,none⟩=cs[j]? :=by
 simp[World.cell?,h]
theorem aez {t:TypeId} (h:w.heap[b]? =some (.cells cs t (0,0))) (j:Nat):
  w.frozen? ⟨b,j,none⟩=false:=by
 simp[World.frozen?,h]
theorem a4z {k:Nat} {v:Value} (h:w.cell? ⟨b,k,none⟩=some v):b<w.heap.size:=by
 by_cases hb:b<w.heap.size
 ·exact hb
 ·simp[World.cell?,Array.getElem?_eq_none (Nat.not_lt.1 hb)]at h
theorem block_lt {o:Obj} (h:w.heap[b]? =some o):b<w.heap.size:=(Array.getElem?_eq_some_iff.1 h).1
theorem a7z {a k:Nat} {t:TypeId} {f:Nat×Nat} (h:w.heap[a]? =some (.cells cs t f)) (u:Value):(w.setCell ⟨a,k,none⟩ u).heap[a]? =some (.cells (cs.setIfInBounds k u) t f):=by
 simp[World.setCell,Array.getElem?_modify,h]
theorem a3z (w:World) (o:Obj):Hid (Below w.heap.size w (w.alloc o)):=(Below.refl _ _).alloc (Nat.le_refl _) _
theorem b0z (w:World) (o o':Obj):Hid (Below w.heap.size w ((w.alloc o).alloc o')):=((Below.refl _ _).alloc (Nat.le_refl _) _).alloc (by simp) _
theorem adz {P:Program} {K:Ending→World→Prop}
  (h:Calls P f args w λe w'=>e=v∧w'=w) (hk:K v w):Calls P f args w K:=
 h.mono (by rintro e w' ⟨rfl,rfl⟩;exact hk)
theorem acz {K:Ending→World→Prop} (h:Calls Tryz.prog f args w λe w'=>e=v∧Below w.heap.size w w') (hk:∀w',Hid (Below w.heap.size w w')→K v w'):Calls Tryz.prog f args w K:=
 h.mono (by rintro e w' ⟨rfl,hb⟩;exact hk w' hb)
theorem huz (h:Calls Tryz.prog f args w λe w'=>e=v∧w'=w):Calls Tryz.prog f args w λe w'=>e=v∧Below w.heap.size w w':=
 h.mono (by rintro e w' ⟨rfl,rfl⟩;exact⟨rfl,Below.refl _ _⟩)
structure Only (S:Nat→Prop) (w w':World):Prop where
 os:w'.os=w.os
 tape:w'.tape=w.tape
 output:w'.output=w.output
 size:w.heap.size≤w'.heap.size
 block:∀k,k<w.heap.size→¬S k→w'.heap[k]? =w.heap[k]?
theorem Only.refl (S:Nat→Prop) (w:World):Only S w w:=⟨rfl,rfl,rfl,Nat.le_refl _,λ_ _ _=>rfl⟩
theorem Only.trans {T:Nat→Prop} {a b c:World} (h:Only S a b) (k:Only T b c) (hs:∀i,T i→S i∨a.heap.size≤i):Only S a c:=
 ⟨k.os.trans h.os,k.tape.trans h.tape,k.output.trans h.output,Nat.le_trans h.size k.size,λi hi hn=>
  (k.block i (Nat.lt_of_lt_of_le hi h.size) (λe=>by rcases hs i e with h|h;exact hn h;omega)).trans (h.block i hi hn)⟩
theorem Only.next {a b c:World} (h:Only S a b) (k:Only S b c):Only S a c:=h.trans k (λ_ h=>.inl h)
theorem Only.below {w':World} {B:Nat} (h:Only S w w') (hB:B≤w.heap.size) (hs:∀i,S i→B≤i):Below B w w':=
 ⟨h.os,h.tape,h.output,h.size,λk hk=>h.block k (by omega) (λe=>by have:=hs k e;omega)⟩
theorem Below.only {w':World} (h:Below w.heap.size w w') (S:Nat→Prop):Only S w w':=
 ⟨h.os,h.tape,h.output,h.size,λk hk _=>h.block k hk⟩
theorem Only.setCell (w:World) (p:Addr) (u:Value) (h:S p.block):Only S w (w.setCell p u):=
 ⟨rfl,rfl,rfl,by simp[World.setCell],λk _ hk=>Below.heap_setCell _ _ _ _ (λe=>hk (e▸h))⟩
abbrev idv (t n:Int):Value:=.agg #[.int .i64 t,.int .i64 n]
def cEz (x y:Int):Int:=if x<y then-1 else if y<x then 1 else 0
def bdz (t n t' n':Int):Int:=if cEz t t'=0 then cEz n n' else cEz t t'
def lessB (t n t' n':Int):Bool:=decide (t<t')||(decide (t=t')&&decide (n<n'))
def bRz (n:Int):Bool:=decide (0≤n)&&decide (n<64)
def dCz (t:Int):Bool:=decide (0≤t)&&decide (t≤1152921504606846976)
def validB (t n:Int):Bool:=decide (1≤t)&&decide (t≤1152921504606846976)&&decide (0≤n)&&decide (n<64)
theorem ezz (h:x<y):cEz x y= -1:=if_pos h
theorem eGz (h:y<x):cEz x y=1:=by unfold cEz;rw[if_neg (by omega),if_pos h]
theorem d0z (h:x=y):cEz x y=0:=by unfold cEz;rw[if_neg (by omega),if_neg (by omega)]
theorem lessB_true:lessB t n t' n'=true↔t<t'∨(t=t'∧n<n'):=by simp[lessB]
theorem cQz:lessB t n t' n'=false↔¬(t<t'∨(t=t'∧n<n')):=by rw[← lessB_true];simp
theorem juz (h:lessB t n t' n'=true):bdz t n t' n'= -1:=by
 rcases lessB_true.1 h with h|⟨h,h'⟩
 ·unfold bdz;rw[ezz h,if_neg (by decide)]
 ·unfold bdz;rw[d0z h,if_pos rfl,ezz h']
theorem knz (h:lessB t' n' t n=true):bdz t n t' n'=1:=by
 rcases lessB_true.1 h with h|⟨h,h'⟩
 ·unfold bdz;rw[eGz h,if_neg (by decide)]
 ·unfold bdz;rw[d0z h.symm,if_pos rfl,eGz h']
theorem e3z (h:lessB t n t' n'=false) (h':lessB t' n' t n=false):bdz t n t' n'=0:=by
 rw[cQz]at h h'
 have h1:t=t':=by omega
 have h2:n=n':=by omega
 unfold bdz;rw[d0z h1,if_pos rfl,d0z h2]
theorem validB_true:validB t n=true↔1≤t∧t≤1152921504606846976∧0≤n∧n<64:=by simp[validB,and_assoc]
end Go.Proofs.YthhakekbffembaaGreatDoor.Ck
