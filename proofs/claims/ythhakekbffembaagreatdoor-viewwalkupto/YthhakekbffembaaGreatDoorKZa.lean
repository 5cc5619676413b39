import Derived.Test.YthhakekbffembaaGreatDoorKNcmp

namespace Go.Proofs.YthhakekbffembaaGreatDoor.Ck
open Go.RowKit
def par (k:Nat):Nat:=(k-1)/2
def LB (bk:Bool) (t n t' n':Int):Bool:=if bk then lessB t' n' t n else lessB t n t' n'
structure QE where
 t:Int
 n:Int
 k:Int
 came:Nat
def B63:Int:=9223372036854775808
def Rng (t n:Int):Prop:= -B63≤t∧t<B63∧ -B63≤n∧n<B63
def QE.ok (e:QE):Prop:=Rng e.t e.n∧e.came<1000000
def e6z (bk:Bool) (x:Int):Nat:=if bk then(B63-x).toNat else(x+B63).toNat
theorem eHz {bk:Bool} {x:Int} (h: -B63≤x) (h':x<B63):e6z bk x<36893488147419103232:=by
 unfold e6z B63 at*
 split<;>omega
theorem fMz {bk:Bool} {x y:Int} (h: -B63≤x) (h':x<B63) (g: -B63≤y) (g':y<B63):(e6z bk x<e6z bk y↔(if bk then y<x else x<y))∧(e6z bk x=e6z bk y↔x=y):=by
 unfold e6z B63 at*
 cases bk<;>simp<;>omega
theorem kIz {M x y x' y':Nat} (hy:y<M) (hy':y'<M):x*M+y<x'*M+y'↔x<x'∨(x=x'∧y<y'):=by
 constructor
 ·intro h
  rcases Nat.lt_trichotomy x x' with h1|h1|h1
  ·exact .inl h1
  ·subst h1;exact .inr ⟨rfl,by omega⟩
  ·have:=Nat.mul_le_mul_right M (show x'+1≤x from h1)
   rw[Nat.add_mul,Nat.one_mul]at this
   omega
 ·rintro(h|⟨rfl,h⟩)
  ·have:=Nat.mul_le_mul_right M (show x+1≤x' from h)
   rw[Nat.add_mul,Nat.one_mul]at this
   omega
  ·omega
def mpz (bk:Bool) (e:QE):Nat:=(e6z bk e.t*36893488147419103232+e6z bk e.n)*1000000+e.came
theorem n3z {bk:Bool} {a b:QE} (ha:a.ok) (hb:b.ok):mpz bk a<mpz bk b↔LB bk a.t a.n b.t b.n=true∨(LB bk b.t b.n a.t a.n=false∧a.came<b.came):=by
 obtain⟨⟨a1,a2,a3,a4⟩,a5⟩:=ha
 obtain⟨⟨b1,b2,b3,b4⟩,b5⟩:=hb
 unfold mpz
 rw[kIz a5 b5,kIz (eHz a3 a4) (eHz b3 b4)]
 have h1:=fMz (bk:=bk) a1 a2 b1 b2
 have h2:=fMz (bk:=bk) a3 a4 b3 b4
 have h3:e6z bk a.t*36893488147419103232+e6z bk a.n=e6z bk b.t*36893488147419103232+e6z bk b.n↔a.t=b.t∧a.n=b.n:=by
  have u1:=eHz (bk:=bk) a3 a4
  have u2:=eHz (bk:=bk) b3 b4
  rw[← h1.2,← h2.2]
  constructor
  ·intro h
   omega
  ·rintro⟨h,h'⟩;rw[h,h']
 rw[h1.1,h1.2,h2.1,h3]
 cases bk
 ·simp only[LB,Bool.false_eq_true,if_false,lessB_true,cQz]
  omega
 ·simp only[LB,if_true,lessB_true,cQz]
  omega
end Go.Proofs.YthhakekbffembaaGreatDoor.Ck
