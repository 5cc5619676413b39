import Derived.Test.YthhakekbffembaaGreatDoorQLk
set_option maxRecDepth 8000
set_option maxHeartbeats 8000000

namespace Go.Proofs.YthhakekbffembaaGreatDoor.Cd
open Go.RowKit Go.Maps
attribute [local go_sem] Oper.semAt_some
theorem jTz (a b x y:Int) (w:World):Calls Tryz.prog 15 #[idv a b,idv x y] w λe w'=>e=.returned (.bool (azz a b x y))∧Below w.heap.size w w':=by
 have B0:Hid (∀x y,Below w.heap.size w ((w.alloc x).alloc y)):=λx y=>((Below.refl _ _).alloc (Nat.le_refl _) _).alloc (by simp) _
 unfold azz
 by_cases h1:a=x
 ·by_cases h2:b=y
  ·rw[decide_eq_true h1,decide_eq_true h2]
   subst h1 h2
   go_enter Tryz.func15,Tryz.ntmps15
   go_wp2
   go_ret
   exact⟨rfl,B0.out _ _⟩
  ·rw[decide_eq_true h1,decide_eq_false h2]
   subst h1
   go_enter Tryz.func15,Tryz.ntmps15
   go_wp2
   go_ret
   exact⟨by first|rfl|simp[h2],B0.out _ _⟩
 ·rw[decide_eq_false h1]
  go_enter Tryz.func15,Tryz.ntmps15
  go_wp2
  go_ret
  exact⟨rfl,B0.out _ _⟩
theorem jXz (a b:Int) (w:World):Calls Tryz.prog 63 #[idv a b] w λe w'=>e=.returned (.bool (aGz a b))∧Below w.heap.size w w':=by
 have B0:Hid (∀x,Below w.heap.size w (w.alloc x)):=λx=>(a3z w x).out
 unfold aGz
 by_cases h1:a=0
 ·by_cases h2:b=0
  ·rw[decide_eq_true h1,decide_eq_true h2]
   subst h1 h2
   go_enter Tryz.func63,Tryz.ntmps63
   go_wp2
   go_ret
   exact⟨rfl,B0.out _⟩
  ·rw[decide_eq_true h1,decide_eq_false h2]
   subst h1
   go_enter Tryz.func63,Tryz.ntmps63
   go_wp2
   go_ret
   exact⟨by simp[h2],B0.out _⟩
 ·rw[decide_eq_false h1]
  go_enter Tryz.func63,Tryz.ntmps63
  go_wp2
  go_ret
  exact⟨rfl,B0.out _⟩
theorem hRz (a b:Int) (w:World):Calls Tryz.prog 66 #[idv a b] w λe w'=>e=.returned (.bool (awz a b))∧Below w.heap.size w w':=by
 have B0:Hid (∀x,Below w.heap.size w (w.alloc x)):=λx=>(a3z w x).out
 unfold awz
 by_cases h1:a=0
 ·by_cases h2:b=1
  ·rw[decide_eq_true h1,decide_eq_true h2]
   subst h1 h2
   go_enter Tryz.func66,Tryz.ntmps66
   go_wp2
   go_ret
   exact⟨rfl,B0.out _⟩
  ·rw[decide_eq_true h1,decide_eq_false h2]
   subst h1
   go_enter Tryz.func66,Tryz.ntmps66
   go_wp2
   go_ret
   exact⟨by simp[h2],B0.out _⟩
 ·rw[decide_eq_false h1]
  go_enter Tryz.func66,Tryz.ntmps66
  go_wp2
  go_ret
  exact⟨rfl,B0.out _⟩
theorem eUz (a b x y:Int) (w:World):Calls Tryz.prog 64 #[idv a b,idv x y] w λe w'=>e=.returned (.bool (aBz a b x y))∧Below w.heap.size w w':=by
 have B0:Hid (∀x y,Below w.heap.size w ((w.alloc x).alloc y)):=λx y=>((Below.refl _ _).alloc (Nat.le_refl _) _).alloc (by simp) _
 have HI:Hid (((w.alloc (.cells #[.int .i64 a,.int .i64 b] 28)).alloc (.cells #[.int .i64 x,.int .i64 y] 28)).heap[w.heap.size]? =some (.cells #[.int .i64 a,.int .i64 b] 28 (0,0))):=by
  show _=_
  rw[Below.heap_alloc _ _ _ (by simp)];exact heap_alloc_new w _
 have HJ:Hid (((w.alloc (.cells #[.int .i64 a,.int .i64 b] 28)).alloc (.cells #[.int .i64 x,.int .i64 y] 28)).heap[w.heap.size+1]? =some (.cells #[.int .i64 x,.int .i64 y] 28 (0,0))):=by
  have:=heap_alloc_new (w.alloc (.cells #[.int .i64 a,.int .i64 b] 28)) (.cells #[.int .i64 x,.int .i64 y] 28)
  rwa [show(w.alloc (.cells #[.int .i64 a,.int .i64 b] 28)).heap.size=w.heap.size+1 by simp]at this
 have c1:=λW=>Ck.rvalid_any a b W
 have c2:=λW=>Ck.rless_any a b x y W
 unfold aBz
 generalize Ck.validB a b=u at*
 generalize Ck.lessB a b x y=v at*
 cases u with
 |true=>
  go_enter Tryz.func64,Tryz.ntmps64
  go_wp2_with (first|(go_at_call 60;refine acz (c1 _) ?_;clear c1;intro w2 hb;have i0:w2.cell? ⟨w.heap.size,0,none⟩=some (.int .i64 a):=cellOf ((hb.out.block _ (block_lt HI.out)).trans HI.out) 0;have i1:w2.cell? ⟨w.heap.size,1,none⟩=some (.int .i64 b):=cellOf ((hb.out.block _ (block_lt HI.out)).trans HI.out) 1;have j0:w2.cell? ⟨w.heap.size+1,0,none⟩=some (.int .i64 x):=cellOf ((hb.out.block _ (block_lt HJ.out)).trans HJ.out) 0;have j1:w2.cell? ⟨w.heap.size+1,1,none⟩=some (.int .i64 y):=cellOf ((hb.out.block _ (block_lt HJ.out)).trans HJ.out) 1)|(go_at_call 97;refine acz (c2 _) ?_;clear c2;intro w3 hb3))
  go_ret
  exact⟨rfl,((B0.out _ _).trans (hb.out.mono (B0.out _ _).size)).trans (hb3.out.mono (Nat.le_trans (B0.out _ _).size hb.out.size))⟩
 |false=>
  go_enter Tryz.func64,Tryz.ntmps64
  go_wp2_with (go_at_call 60;refine acz (c1 _) ?_;clear c1;intro w2 hb)
  go_ret
  exact⟨rfl,(B0.out _ _).trans (hb.out.mono (B0.out _ _).size)⟩
def OpX (w W:World) (g:Nat) (t n sq kd ot on pt pn:Int) (nm:List UInt8) (p q:Option Addr) (l c m d:Nat):Prop:=OpB W g t n sq kd ot on pt pn nm p q l c m d∧Below w.heap.size w W
theorem OpX.step {w W W':World} {g:Nat} {t n sq kd ot on pt pn:Int} {nm:List UInt8} {p q:Option Addr} {l c m d:Nat} (h:Hid (OpX w W g t n sq kd ot on pt pn nm p q l c m d)) (hb:Hid (Below W.heap.size W W')):Hid (OpX w W' g t n sq kd ot on pt pn nm p q l c m d):=
 ⟨h.out.1.below hb.out,h.out.2.trans (hb.out.mono h.out.2.size)⟩
theorem rmay_any (t n sq kd ot on pt pn:Int) (nm:List UInt8) (p q:Option Addr) (l c m d:Nat) (ns:List Int) (w:World) (hs:nm.length<1000000000000000) (hll:l<9000000000000000000) (hm:ns.length=m) (hml:ns.length≤1000) (hq:Lies w q (ns.map iv)):
  Calls Tryz.prog 26 #[.agg #[.int .i64 t,.int .i64 n,.int .i64 sq,.int .i64 kd,.int .i64 ot,.int .i64 on,.int .i64 pt,.int .i64 pn,.string (bas nm),.slice p l c,.slice q m d]] w λe w'=>e=.returned (.bool (mayO t n sq kd ot on pt pn nm l ns))∧Below w.heap.size w w':=by
 have H9:Hid (OpB (w.alloc (.cells #[.int .i64 t,.int .i64 n,.int .i64 sq,.int .i64 kd,.int .i64 ot,.int .i64 on,.int .i64 pt,.int .i64 pn,.string (bas nm),.slice p l c,.slice q m d] 33)) w.heap.size t n sq kd ot on pt pn nm p q l c m d):=OpB.made w t n sq kd ot on pt pn nm p q l c m d
 have B0:Hid (∀o,Below w.heap.size w (w.alloc o)):=λo=>(a3z w o).out
 have HG:Hid (∀o W,Below (w.alloc o).heap.size (w.alloc o) W→Below w.heap.size w W):=λo W h=>(B0.out o).trans (h.mono (B0.out o).size)
 have HV:Hid (∀W,Calls Tryz.prog 60 #[idv t n] W λe w'=>e=.returned (.bool (Ck.validB t n))∧Below W.heap.size W w'):=λW=>Ck.rvalid_any t n W
 have HMV:Hid (∀W,Below w.heap.size w W→Calls Tryz.prog 61 #[.slice q m d] W λe w'=>e=.returned (.bool (c5z ns))∧Below W.heap.size W w'):=λW hW=>by
  have:=mQz q ns d W hml (below_lies hW hq)
  rw[hm]at this
  exact ebz this
 have HAT:Hid (∀W,Below w.heap.size w W→Calls Tryz.prog 62 #[.slice q m d,.int .i64 n] W λe w'=>e=.returned (.int .i64 (Vc.atZ ns n))∧Below W.heap.size W w'):=λW hW=>by
  have:=Vc.rat_any q ns d n W (below_lies hW hq)
  rw[hm]at this
  exact ebz this
 clear hm hml hq
 unfold mayO countB
 generalize Ck.validB t n=x0 at*
 cases x0 with
 |false=>
  simp only[Bool.false_and]
  go_enter Tryz.func26,Tryz.ntmps26
  go_wp2_with fail
  refine iCz (by kernel_rfl) w.heap.size t n sq kd ot on pt pn nm p q l c m d _ rfl rfl H9.out (λW _=>HV.out W) ?_
  intro W hS
  have HB:Hid (Below w.heap.size w W):=HG.out _ W hS
  clear hS
  simp only[abz,sA,sB,sC]
  go_wp2
  go_ret
  exact⟨rfl,HB.out⟩
 |true=>
 by_cases h1:1≤sq
 rotate_left
 ·rw[decide_eq_false h1]
  simp only[Bool.false_and,Bool.and_false]
  have H1:Hid (sq<1):=by show _<_;omega
  clear h1
  go_enter Tryz.func26,Tryz.ntmps26
  go_wp2_with fail
  refine lQz (by kernel_rfl) w.heap.size t n sq kd ot on pt pn nm p q l c m d _ rfl rfl H9.out (λW _=>HV.out W) H1.out ?_
  intro W hS
  have HB:Hid (Below w.heap.size w W):=HG.out _ W hS
  clear hS
  simp only[abz,sA,sB,sC]
  go_wp2
  go_ret
  exact⟨rfl,HB.out⟩
 by_cases h2:sq≤1152921504606846976
 rotate_left
 ·rw[decide_eq_false h2]
  simp only[Bool.false_and,Bool.and_false]
  have H1:=a0z h1
  have H2:Hid (1152921504606846976<sq):=by show _<_;omega
  clear h1 h2
  go_enter Tryz.func26,Tryz.ntmps26
  go_wp2_with fail
  refine k7z (by kernel_rfl) w.heap.size t n sq kd ot on pt pn nm p q l c m d _ rfl rfl H9.out (λW _=>HV.out W) (by have:=H1.out;omega) H2.out ?_
  intro W hS
  have HB:Hid (Below w.heap.size w W):=HG.out _ W hS
  clear hS
  simp only[abz,sA,sB,sC]
  go_wp2
  go_ret
  exact⟨rfl,HB.out⟩
 rw[decide_eq_true h1,decide_eq_true h2]
 have H1:=a0z h1
 have H2:=a0z h2
 clear h1 h2
 generalize c5z ns=x1 at*
 cases x1 with
 |false=>
  simp only[Bool.false_and,Bool.and_false]
  go_enter Tryz.func26,Tryz.ntmps26
  go_wp2_with fail
  refine kWz (by kernel_rfl) w.heap.size t n sq kd ot on pt pn nm p q l c m d _ rfl rfl H9.out (λW _=>HV.out W) (by have:=H1.out;omega) (by have:=H2.out;omega) (λW hW=>HMV.out W (HG.out _ W hW)) ?_
  intro W hS
  have HB:Hid (Below w.heap.size w W):=HG.out _ W hS
  clear hS
  simp only[abz,sA,sB,sC]
  go_wp2
  go_ret
  exact⟨rfl,HB.out⟩
 |true=>
 generalize Vc.atZ ns n=z at*
 by_cases hz:z=sq-1
 rotate_left
 ·rw[decide_eq_false hz]
  simp only[Bool.false_and,Bool.and_false]
  have HZ:Hid ((z != sq-1)=true):=by show _=_;simpa using hz
  clear hz
  go_enter Tryz.func26,Tryz.ntmps26
  go_wp2_with fail
  refine j0z (by kernel_rfl) w.heap.size t n sq kd ot on pt pn nm p q l c m d _ rfl rfl H9.out (λW _=>HV.out W) (by have:=H1.out;omega) (by have:=H2.out;omega) z (λW hW=>HMV.out W (HG.out _ W hW)) (λW hW=>HAT.out W (HG.out _ W hW)) ?_
  intro W hS
  have HB:Hid (Below w.heap.size w W):=HG.out _ W hS
  clear hS
  simp only[abz,sA,sB,sC,HZ.out]
  go_wp2
  go_ret
  exact⟨rfl,HB.out⟩
 subst hz
 simp only[decide_true,Bool.true_and,Bool.and_true]
 have HZ:Hid ((sq-1 != sq-1)=false):=by show _=_;simp
 have HS:Hid (∀W,Calls Tryz.prog 15 #[idv ot on,idv t n] W λe w'=>e=.returned (.bool (azz ot on t n))∧Below W.heap.size W w'):=λW=>jTz ot on t n W
 have HR:Hid (∀W,Calls Tryz.prog 63 #[idv pt pn] W λe w'=>e=.returned (.bool (aGz pt pn))∧Below W.heap.size W w'):=λW=>jXz pt pn W
 have HT:Hid (∀W,Calls Tryz.prog 66 #[idv pt pn] W λe w'=>e=.returned (.bool (awz pt pn))∧Below W.heap.size W w'):=λW=>hRz pt pn W
 have HO:Hid (∀W,Calls Tryz.prog 64 #[idv pt pn,idv t n] W λe w'=>e=.returned (.bool (aBz pt pn t n))∧Below W.heap.size W w'):=λW=>eUz pt pn t n W
 have HE:Hid (∀W,Calls Tryz.prog 64 #[idv ot on,idv t n] W λe w'=>e=.returned (.bool (aBz ot on t n))∧Below W.heap.size W w'):=λW=>eUz ot on t n W
 have HN:Hid (∀W,Calls Tryz.prog 65 #[.string (bas nm)] W λe w'=>e=.returned (.int .i64 (nameN nm))∧w'=W):=λW=>fTz nm W hs
 have hlc:decide (l=0)=decide ((l:Int)=0):=by congr 1;exact propext ⟨λh=>by omega,λh=>by omega⟩
 have hlc2:decide (l≤65536)=decide ((l:Int)≤65536):=by congr 1;exact propext ⟨λh=>by omega,λh=>by omega⟩
 have HK12:Hid (kd=1∨kd=2→kindB t n kd ot on pt pn nm l=(azz ot on t n&&(aGz pt pn||aBz pt pn t n)&&(decide (nameN nm=0)&&decide ((l:Int)=0)))):=λh12=>by unfold kindB placedB;rw[if_pos h12,hlc]
 have HK3:Hid (kd=3→kindB t n kd ot on pt pn nm l=(aBz ot on t n&&(aGz pt pn||aBz pt pn t n||awz pt pn)&&(decide (nameN nm=0)&&decide ((l:Int)=0)))):=λh3=>by unfold kindB placedB;rw[if_neg (by omega),if_pos h3,hlc]
 have HK4:Hid (kd=4→kindB t n kd ot on pt pn nm l=(aBz ot on t n&&aGz pt pn&&decide (nm=[])&&decide ((l:Int)≤65536))):=λh4=>by unfold kindB;rw[if_neg (by omega),if_neg (by omega),if_pos h4,hlc2]
 have HK0:Hid (¬(kd=1∨kd=2)→¬kd=3→¬kd=4→kindB t n kd ot on pt pn nm l=false):=λh12 h3 h4=>by unfold kindB;rw[if_neg h12,if_neg h3,if_neg h4]
 obtain⟨kv,hkv⟩:∃kv,kindB t n kd ot on pt pn nm l=kv:=⟨_,rfl⟩
 have HKV:=a0z hkv
 rw[hkv]
 clear hs hlc hlc2 hkv
 generalize azz ot on t n=xs at*
 generalize aGz pt pn=xr at*
 generalize awz pt pn=xt at*
 generalize aBz pt pn t n=xo at*
 generalize aBz ot on t n=xe at*
 generalize nameN nm=x at*
 go_enter Tryz.func26,Tryz.ntmps26
 go_wp2_with fail
 refine j0z (by kernel_rfl) w.heap.size t n sq kd ot on pt pn nm p q l c m d _ rfl rfl H9.out (λW _=>HV.out W) (by have:=H1.out;omega) (by have:=H2.out;omega) (sq-1) (λW hW=>HMV.out W (HG.out _ W hW)) (λW hW=>HAT.out W (HG.out _ W hW)) ?_
 intro W hS
 have HX:Hid (OpX w W w.heap.size t n sq kd ot on pt pn nm p q l c m d):=⟨H9.out.below hS,HG.out _ W hS⟩
 have⟨d0,d1,d2,d3,d4,d5,d6,d7,d8,d9,d10⟩:=HX.out.1.cells
 clear hS
 simp only[abz,sA,sB,sC,HZ.out]
 by_cases h12:kd=1∨kd=2
 ·have HK:Hid (kindB t n kd ot on pt pn nm l=(xs&&(xr||xo)&&(decide (x=0)&&decide ((l:Int)=0)))):=HK12.out h12
  clear HE HT HK12 HK3 HK4 HK0
  have key:xs=false∨(xs=true∧xr=false∧xo=false)∨(xs=true∧(xr=true∨(xr=false∧xo=true))∧(¬x=0∨(x=0∧¬(l:Int)=0)∨(x=0∧(l:Int)=0))):=by
   cases xs<;>cases xr<;>cases xo<;>by_cases hx:x=0<;>simp[hx]<;>omega
  rcases h12 with rfl|rfl<;>rcases key with rfl|⟨rfl,rfl,rfl⟩|⟨rfl,rfl|⟨rfl,rfl⟩,hx|⟨rfl,hl⟩|⟨rfl,hl⟩⟩
  all_goals
   go_wp2_with (first|(go_at_call 15;refine acz (HS.out _) ?_;clear HS;intro w2 hb2;have HX:=OpX.step HX hb2;have⟨d0,d1,d2,d3,d4,d5,d6,d7,d8,d9,d10⟩:=HX.out.1.cells;clear hb2)|(go_at_call 63;refine acz (HR.out _) ?_;clear HR;intro w2 hb2;have HX:=OpX.step HX hb2;have⟨d0,d1,d2,d3,d4,d5,d6,d7,d8,d9,d10⟩:=HX.out.1.cells;clear hb2)|(go_at_call 64;refine acz (HO.out _) ?_;clear HO;intro w2 hb2;have HX:=OpX.step HX hb2;have⟨d0,d1,d2,d3,d4,d5,d6,d7,d8,d9,d10⟩:=HX.out.1.cells;clear hb2)|(go_at_call 65;refine adz (HN.out _) ?_;clear HN))
   go_ret
   exact⟨by rw[← HKV.out,HK.out];first|rfl|(simp;done)|(simp[hx];done)|(simp[hl];done)|(simp[hn];done)|(rw[decide_eq_false hl];simp;omega)|(rw[decide_eq_true hl];simp;omega),HX.out.2⟩
 by_cases h3:kd=3
 ·have HK:Hid (kindB t n kd ot on pt pn nm l=(xe&&(xr||xo||xt)&&(decide (x=0)&&decide ((l:Int)=0)))):=HK3.out h3
  clear HS h12 HK12 HK3 HK4 HK0
  subst h3
  have key:xe=false∨(xe=true∧xr=false∧xt=false∧xo=false)∨(xe=true∧(xr=true∨(xr=false∧xt=true)∨(xr=false∧xt=false∧xo=true))∧(¬x=0∨(x=0∧¬(l:Int)=0)∨(x=0∧(l:Int)=0))):=by
   cases xe<;>cases xr<;>cases xt<;>cases xo<;>by_cases hx:x=0<;>simp[hx]<;>omega
  rcases key with rfl|⟨rfl,rfl,rfl,rfl⟩|⟨rfl,rfl|⟨rfl,rfl⟩|⟨rfl,rfl,rfl⟩,hx|⟨rfl,hl⟩|⟨rfl,hl⟩⟩
  all_goals
   go_wp2_with (first|(go_at_call 64;refine acz (HE.out _) ?_;clear HE;intro w2 hb2;have HX:=OpX.step HX hb2;have⟨d0,d1,d2,d3,d4,d5,d6,d7,d8,d9,d10⟩:=HX.out.1.cells;clear hb2)|(go_at_call 63;refine acz (HR.out _) ?_;clear HR;intro w2 hb2;have HX:=OpX.step HX hb2;have⟨d0,d1,d2,d3,d4,d5,d6,d7,d8,d9,d10⟩:=HX.out.1.cells;clear hb2)|(go_at_call 66;refine acz (HT.out _) ?_;clear HT;intro w2 hb2;have HX:=OpX.step HX hb2;have⟨d0,d1,d2,d3,d4,d5,d6,d7,d8,d9,d10⟩:=HX.out.1.cells;clear hb2)|(go_at_call 64;refine acz (HO.out _) ?_;clear HO;intro w2 hb2;have HX:=OpX.step HX hb2;have⟨d0,d1,d2,d3,d4,d5,d6,d7,d8,d9,d10⟩:=HX.out.1.cells;clear hb2)|(go_at_call 65;refine adz (HN.out _) ?_;clear HN))
   go_ret
   exact⟨by rw[← HKV.out,HK.out];first|rfl|(simp;done)|(simp[hx];done)|(simp[hl];done)|(simp[hn];done)|(rw[decide_eq_false hl];simp;omega)|(rw[decide_eq_true hl];simp;omega),HX.out.2⟩
 by_cases h4:kd=4
 ·have HK:Hid (kindB t n kd ot on pt pn nm l=(xe&&xr&&decide (nm=[])&&decide ((l:Int)≤65536))):=HK4.out h4
  clear HS HT HO HN h12 h3 HK12 HK3 HK4 HK0
  subst h4
  have e0:bas []=⟨#[]⟩:=rfl
  have key:xe=false∨(xe=true∧xr=false)∨(xe=true∧xr=true∧((¬nm=[]∧(bas nm).toList.isEmpty=false)∨(nm=[]∧((l:Int)≤65536∨¬(l:Int)≤65536)))):=by
   cases xe<;>cases xr<;>by_cases hn:nm=[]<;>simp[hn,aFz]<;>omega
  rcases key with rfl|⟨rfl,rfl⟩|⟨rfl,rfl,⟨hn,e1⟩|⟨rfl,hl|hl⟩⟩
  all_goals
   go_wp2_with (first|(go_at_call 64;refine acz (HE.out _) ?_;clear HE;intro w2 hb2;have HX:=OpX.step HX hb2;have⟨d0,d1,d2,d3,d4,d5,d6,d7,d8,d9,d10⟩:=HX.out.1.cells;clear hb2)|(go_at_call 63;refine acz (HR.out _) ?_;clear HR;intro w2 hb2;have HX:=OpX.step HX hb2;have⟨d0,d1,d2,d3,d4,d5,d6,d7,d8,d9,d10⟩:=HX.out.1.cells;clear hb2))
   go_ret
   exact⟨by rw[← HKV.out,HK.out];first|rfl|(simp;done)|(simp[hx];done)|(simp[hl];done)|(simp[hn];done)|(rw[decide_eq_false hl];simp;omega)|(rw[decide_eq_true hl];simp;omega),HX.out.2⟩
 have HK:Hid (kindB t n kd ot on pt pn nm l=false):=HK0.out h12 h3 h4
 have n1:¬kd=1:=λh=>h12 (.inl h)
 have n2:¬kd=2:=λh=>h12 (.inr h)
 clear h12 HK12 HK3 HK4 HK0
 go_wp2_with fail
 go_ret
 exact⟨by rw[← HKV.out,HK.out];rfl,HX.out.2⟩
end Go.Proofs.YthhakekbffembaaGreatDoor.Cd

namespace Go.Proofs.YthhakekbffembaaGreatDoor.Ck.Y.L
open Go.RowKit Go.Maps Go.Lib
theorem RowG.caps {w:World} {base:Nat} {v:Value} {l:List OG} (h:RowG w base v l):∃p c,v=.slice p l.length c∧∀(i:Nat) (x:OG),l[i]? =some x→∃g,p=some ⟨g,0,none⟩∧
  w.cell? ⟨g,i*11,none⟩=some (.int .i64 x.t)∧w.cell? ⟨g,i*11+1,none⟩=some (.int .i64 x.n)∧w.cell? ⟨g,i*11+2,none⟩=some (.int .i64 x.sq)∧w.cell? ⟨g,i*11+3,none⟩=some (.int .i64 x.kd)∧w.cell? ⟨g,i*11+4,none⟩=some (.int .i64 x.ot)∧w.cell? ⟨g,i*11+5,none⟩=some (.int .i64 x.on)∧w.cell? ⟨g,i*11+6,none⟩=some (.int .i64 x.pt)∧w.cell? ⟨g,i*11+7,none⟩=some (.int .i64 x.pn)∧w.cell? ⟨g,i*11+8,none⟩=some (.string x.nm)∧w.cell? ⟨g,i*11+9,none⟩=some (.slice x.dp x.dl x.dc)∧w.cell? ⟨g,i*11+10,none⟩=some (.slice x.sp x.sl x.sc):=by
 rcases h.2 with⟨rfl,h0⟩|⟨g,cap,cur,rfl,hb,hg,hn,hm,hs,ht⟩
 ·exact⟨none,0,by rw[h0],λi x hx=>by have:=List.eq_nil_of_length_eq_zero h0;subst this;simp at hx⟩
 ·exact⟨_,cap,rfl,λi x hx=>⟨g,rfl,RowG.cells h hx⟩⟩
end Go.Proofs.YthhakekbffembaaGreatDoor.Ck.Y.L

namespace Go.Proofs.YthhakekbffembaaGreatDoor.Ck.Y.L
open Go.RowKit Go.Maps Go.Lib
structure IsHd (S HC:List VC):Prop where
 rise:HC.Pairwise ltC
 mem:∀x,x∈HC↔x∈S∧headC S x=true
theorem IsHd.unique {S A B:List VC} (h:IsHd S A) (k:IsHd S B):A=B:=eiz h.rise k.rise λx=>(h.mem x).trans (k.mem x).symm
theorem HF.isHd {S:List VC} {sn:List Int} {H:List VC} (h:L.HF S sn H) (hq:∀x∈S,1≤x.sq):IsHd S H:=
 ⟨h.rise,λx=>by
  rw[h.mem]
  constructor
  ·rintro⟨h1,h2⟩;exact⟨h1,(h.headC (hq x h1)).1 h2⟩
  ·rintro⟨h1,h2⟩;exact⟨h1,(h.headC (hq x h1)).2 h2⟩⟩
def aRz (HC:List VC):List (BitVec 8):=match HC.getLast? with
 |none=>[]
 |some x=>x.bs
theorem fNz (H:List VG):flz H=aRz (H.map VG.c):=by
 unfold flz aRz
 rw[List.getLast?_map]
 cases H.getLast? <;>rfl
section
variable {F:Nat→Prop} {w w':World} {fb:Nat} {S:List VC}
theorem FileS.below (h:FileS F w fb S) (hb:Below w.heap.size w w'):FileS F w' fb S:=by
 obtain⟨sn,H,mv,sp,sc,hv,h1,h2⟩:=h
 exact⟨sn,H,mv,sp,sc,hv,h1.below hb,h2⟩
theorem FileS.kept {G:Nat→Prop} (h:FileS F w fb S) (ho:Only G w w') (hn:∀b,F b→¬G b) (hg:Hard w G):FileS F w' fb S:=by
 obtain⟨sn,H,mv,sp,sc,hv,h1,h2,rfl,h3⟩:=h
 exact⟨sn,H,mv,sp,sc,hv,h1.kept ho hn hg,h2,rfl,h3⟩
theorem FileS.hard (h:FileS F w fb S):Hard w F:=by
 obtain⟨sn,H,mv,sp,sc,hv,h1,h2,rfl,h3⟩:=h
 exact h1.hard
theorem FileS.lt (h:FileS F w fb S):∀b,F b→b<w.heap.size:=by
 obtain⟨sn,H,mv,sp,sc,hv,h1,h2,rfl,h3⟩:=h
 exact h1.lt
theorem fheads (h:FileS F w fb S) (hq:∀x∈S,1≤x.sq) {HC:List VC} (hs:IsHd S HC):
  Calls Tryz.prog 56 #[.pointer (some ⟨fb,0,none⟩)] w λe w'=>∃v M,e=.returned v∧RowV w' w.heap.size v M∧M.map VG.c=HC∧(∀y∈M,VOwn w' w.heap.size y)∧Below w.heap.size w w':=by
 obtain⟨sn,H,mv,sp,sc,hv,h1,h2,rfl,h3⟩:=h
 have e:=(h2.isHd hq).unique hs
 rw[← e]
 exact kfz h1
theorem fvalue (h:FileS F w fb S) (hq:∀x∈S,1≤x.sq) {HC:List VC} (hs:IsHd S HC):
  Calls Tryz.prog 54 #[.pointer (some ⟨fb,0,none⟩)] w λe w'=>∃v,e=.returned v∧w'.ownsRow w.heap.size 5 1 v (aRz HC).length ((aRz HC).map Cd.u8v)∧Below w.heap.size w w':=by
 obtain⟨sn,H,mv,sp,sc,hv,h1,h2,rfl,h3⟩:=h
 have e:=(h2.isHd hq).unique hs
 rw[← e,← fNz]
 exact kvz h1
theorem fsize (h:FileS F w fb S) (hq:∀x∈S,1≤x.sq) {HC:List VC} (hs:IsHd S HC):
  Calls Tryz.prog 55 #[.pointer (some ⟨fb,0,none⟩)] w λe w'=>e=.returned (.int .i64 ((aRz HC).length:Nat))∧Below w.heap.size w w':=by
 obtain⟨sn,H,mv,sp,sc,hv,h1,h2,rfl,h3⟩:=h
 have e:=(h2.isHd hq).unique hs
 rw[← e,← fNz]
 exact lvz h1
end
end Go.Proofs.YthhakekbffembaaGreatDoor.Ck.Y.L
