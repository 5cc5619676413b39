import Derived.Test.YthhakekbffembaaGreatDoorKNids
import Derived.Deep.RegionHeld3
set_option maxRecDepth 8000
set_option maxHeartbeats 400000

namespace Go.Proofs.YthhakekbffembaaGreatDoor.Ck
open Go.RowKit
def or2 (x y:Int):Int:=if x=0 then y else x
theorem o7z (g:Nat) (x y:Int) (w:World) (h0:w.cell? ⟨g,0,none⟩=some (.int .i64 x)) (h1:w.cell? ⟨g,1,none⟩=some (.int .i64 y)):
  Calls Tryz.prog 145 #[.slice (some ⟨g,0,none⟩) 2 2] w λe w'=>e=.returned (.int .i64 (or2 x y))∧w'=w:=by
 go_enter Tryz.func145,Tryz.ntmps145
 go_wp2
 go_loop [8] (λii=>∃i:Nat,ii=.int .i64 i∧i≤2∧Hid (0<i→x=0)∧Hid (1<i→y=0)) (λii=>2-(intOf ii).toNat)
 case atStart=>exact⟨0,rfl,by omega,λh=>absurd h (by omega),λh=>absurd h (by omega)⟩
 case round=>
  obtain⟨i,rfl,hi,HX,HY⟩:=hrel
  rcases(show i=0∨i=1∨i=2 by omega)with rfl|rfl|rfl
  ·by_cases hx:x=0
   ·have hne:(x != 0)=false:=by simp[hx]
    have HX':=a0z hx
    clear hx HX HY hi
    go_wp2
    go_round
    case rel=>exact⟨1,rfl,by omega,λ_=>HX'.out,λh=>absurd h (by omega)⟩
    case measure=>simp[intOf]
   ·have hne:(x != 0)=true:=by simp[hx]
    have HE:Hid (or2 x y=x):=if_neg hx
    clear hx HX HY hi
    go_wp2
    go_ret
    rw[HE.out]
    exact⟨rfl,rfl⟩
  ·have HX':Hid (x=0):=HX.out (by omega)
   by_cases hy:y=0
   ·have hne:(y != 0)=false:=by simp[hy]
    have HY':=a0z hy
    clear hy HX HY hi
    go_wp2
    go_round
    case rel=>exact⟨2,rfl,by omega,λ_=>HX'.out,λ_=>HY'.out⟩
    case measure=>simp[intOf]
   ·have hne:(y != 0)=true:=by simp[hy]
    have HE:Hid (or2 x y=y):=if_pos HX'.out
    clear hy HX HY hi
    go_wp2
    go_ret
    rw[HE.out]
    exact⟨rfl,rfl⟩
  ·have HE:Hid (or2 x y=0):=by show _=_;unfold or2;rw[if_pos (HX.out (by omega)),HY.out (by omega)]
   clear HX HY hi
   go_wp2
   go_ret
   rw[HE.out]
   exact⟨rfl,rfl⟩
theorem o3z (x y:Int) (W:World):Calls Tryz.prog 145 #[.slice (some ⟨W.heap.size,0,none⟩) 2 2] (W.alloc (.cells #[.int .i64 x,.int .i64 y] 3)).drew λe w'=>e=.returned (.int .i64 (or2 x y))∧w'=(W.alloc (.cells #[.int .i64 x,.int .i64 y] 3)).drew:=
 o7z W.heap.size x y _ (cellOf (w:=(W.alloc _).drew) (heap_alloc_new W _) 0) (cellOf (w:=(W.alloc _).drew) (heap_alloc_new W _) 1)
theorem d2z {w:World} {b k:Nat} {v:Value} (h:w.cell? ⟨b,k,none⟩=some v) (o:Obj):(w.alloc o).drew.cell? ⟨b,k,none⟩=some v:=
 (World.cell?_of_block (w:=w) (a:=⟨b,k,none⟩) (Below.heap_alloc _ _ _ (a4z h))).trans h
theorem mYz (t n t' n':Int):or2 (cEz t t') (cEz n n')=bdz t n t' n':=rfl
theorem eAz (t n t' n':Int) (w:World):Calls Tryz.prog 102 #[idv t n,idv t' n'] w λe w'=>e=.returned (.int .i64 (bdz t n t' n'))∧Below w.heap.size w w':=by
 have c21:=kaz t t'
 have c22:=jwz n n'
 have HE:Hid (or2 (cEz t t') (cEz n n')=bdz t n t' n'):=mYz t n t' n'
 generalize cEz t t'=x at c21 HE
 generalize cEz n n'=y at c22 HE
 go_enter Tryz.func102,Tryz.ntmps102
 go_wp2
 obtain⟨w2,hw2⟩:∃w2,w2=(w.alloc (.cells #[.int .i64 t,.int .i64 n] 28)).alloc (.cells #[.int .i64 t',.int .i64 n'] 28):=⟨_,rfl⟩
 rw[← hw2]
 have S0:w2.cell? ⟨w.heap.size,0,none⟩=some (.int .i64 t)∧w2.cell? ⟨w.heap.size,1,none⟩=some (.int .i64 n)∧w2.cell? ⟨w.heap.size+1,0,none⟩=some (.int .i64 t')∧w2.cell? ⟨w.heap.size+1,1,none⟩=some (.int .i64 n'):=by
  rw[hw2]
  simp[go_sem]
 have HB:Hid (Below w.heap.size w w2):=by rw[hw2];exact b0z w _ _
 have SA:∀o,(w2.alloc o).drew.cell? ⟨w.heap.size,0,none⟩=some (.int .i64 t)∧(w2.alloc o).drew.cell? ⟨w.heap.size,1,none⟩=some (.int .i64 n)∧(w2.alloc o).drew.cell? ⟨w.heap.size+1,0,none⟩=some (.int .i64 t')∧(w2.alloc o).drew.cell? ⟨w.heap.size+1,1,none⟩=some (.int .i64 n'):=λo=>
  ⟨d2z S0.1 o,d2z S0.2.1 o,d2z S0.2.2.1 o,d2z S0.2.2.2 o⟩
 clear hw2
 go_region_held3 (λW=>W.cell? ⟨w.heap.size,0,none⟩=some (.int .i64 t)∧W.cell? ⟨w.heap.size,1,none⟩=some (.int .i64 n)∧W.cell? ⟨w.heap.size+1,0,none⟩=some (.int .i64 t')∧W.cell? ⟨w.heap.size+1,1,none⟩=some (.int .i64 n'))
  (first|exact S0|assumption|exact SA _)
  (first|(go_at_call 146;refine adz (c21 _) ?_)|(go_at_call 147;refine adz (c22 _) ?_)|(go_at_call 145;refine adz (o3z x y _) ?_))
 go_wp2
 go_ret
 rw[HE.out]
 exact⟨rfl,(HB.out.alloc HB.out.size _).drew⟩
theorem cpz (t n t' n':Int):decide (bdz t n t' n'<0)=lessB t n t' n':=by
 cases h:lessB t n t' n' with
 |true=>rw[juz h];rfl
 |false=>
  cases h':lessB t' n' t n with
  |true=>rw[knz h'];rfl
  |false=>rw[e3z h h'];rfl
theorem less_any (t n t' n':Int) (w:World):Calls Tryz.prog 167 #[idv t n,idv t' n'] w λe w'=>e=.returned (.bool (lessB t n t' n'))∧Below w.heap.size w w':=by
 have HE:Hid (decide (bdz t n t' n'<0)=lessB t n t' n'):=cpz t n t' n'
 have c8:=eAz t n t' n'
 generalize bdz t n t' n'=x at HE c8
 go_enter Tryz.func167,Tryz.ntmps167
 go_wp2_with (go_at_call 102;refine acz (c8 _) ?_;intro w3 HB3)
 go_ret
 rw[HE.out]
 exact⟨rfl,(b0z w _ _).out.trans (HB3.out.mono (by simp;omega))⟩
end Go.Proofs.YthhakekbffembaaGreatDoor.Ck
