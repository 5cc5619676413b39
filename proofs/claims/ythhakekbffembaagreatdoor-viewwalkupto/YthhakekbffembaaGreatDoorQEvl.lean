import Derived.Test.YthhakekbffembaaGreatDoorQEvj
set_option maxRecDepth 8000
set_option maxHeartbeats 4000000

namespace Go.Proofs.YthhakekbffembaaGreatDoor.Ck.Y.W
open Go.RowKit Go.Maps Go.Lib
open L (a2z a6z anz a5z IsHd aRz)
variable {fp:Option Nat} {w:World} {S HC:List L.VC}
def eyz:Option Nat→Value
 |some b=>.pointer (some ⟨b,0,none⟩)
 |none=>.pointer none
def FPx (fp:Option Nat) (w:World) (S:List L.VC):Prop:=(fp=none∧S=[])∨∃fb F,fp=some fb∧L.FileS F w fb S
theorem FPx.below {w':World} (h:FPx fp w S) (hb:Below w.heap.size w w'):FPx fp w' S:=by
 rcases h with h|⟨fb,F,e,h⟩
 ·exact .inl h
 ·exact .inr ⟨fb,F,e,h.below hb⟩
theorem gdz (h:IsHd [] HC):HC=[]:=h.unique L.hd_nil
theorem FPx.value (h:FPx fp w S) (hq:∀x∈S,1≤x.sq) (hs:IsHd S HC):
  Calls Tryz.prog 54 #[eyz fp] w λe w'=>∃v,e=.returned v∧w'.ownsRow w.heap.size 5 1 v (aRz HC).length ((aRz HC).map Cd.u8v)∧Below w.heap.size w w':=by
 rcases h with⟨rfl,rfl⟩|⟨fb,F,rfl,h⟩
 ·rw[gdz hs]
  refine(L.value_nil w).mono ?_
  rintro e w' ⟨rfl,hb⟩
  exact⟨_,rfl,World.ownsRow_nil _ _ _ _,hb⟩
 ·exact L.fvalue h hq hs
theorem FPx.size (h:FPx fp w S) (hq:∀x∈S,1≤x.sq) (hs:IsHd S HC):
  Calls Tryz.prog 55 #[eyz fp] w λe w'=>e=.returned (.int .i64 ((aRz HC).length:Nat))∧Below w.heap.size w w':=by
 rcases h with⟨rfl,rfl⟩|⟨fb,F,rfl,h⟩
 ·rw[gdz hs];exact L.size_nil w
 ·exact L.fsize h hq hs
theorem FPx.heads (h:FPx fp w S) (hq:∀x∈S,1≤x.sq) (hs:IsHd S HC):
  Calls Tryz.prog 56 #[eyz fp] w λe w'=>∃v M,e=.returned v∧L.RowV w' w.heap.size v M∧M.map L.VG.c=HC∧(∀y∈M,L.VOwn w' w.heap.size y)∧Below w.heap.size w w':=by
 rcases h with⟨rfl,rfl⟩|⟨fb,F,rfl,h⟩
 ·rw[gdz hs]
  refine(L.heads_nil w).mono ?_
  rintro e w' ⟨rfl,hb⟩
  exact⟨_,[],rfl,L.RowV.nil _ _,rfl,λy hy=>by simp at hy,hb⟩
 ·exact L.fheads h hq hs
section
variable {F:Nat→Prop} {w w':World} {vb s:Nat} {nsf:OG→List Int} {bsf:OG→List (BitVec 8)} {m ls:List OG} {cn:Value} {Ft:Nat→Prop} {fv:Value} {E:List (PI×Nat)} {Fs:PI→Nat→Prop} {T:List OB}
theorem VM.look (h:VM F w vb nsf bsf m ls cn Ft fv E Fs) (t n:Int):∃fp,(∀k,(Instr.lookup 75 fv (.agg #[.int .i64 t,.int .i64 n]) false).run Tryz.prog (w.drewN k)=.ok (eyz fp) (w.drewN k))∧FPx fp w (vsq nsf bsf m (t,n)):=by
 rcases h.fmap with⟨rfl,rfl⟩|⟨fm,rfl,hm,_⟩
 ·exact⟨none,λk=>jQz t n _,.inl ⟨rfl,(h.no (t,n) rfl).1⟩⟩
 ·have hl:=λk=>jiz (w:=w.drewN k) (hm.kept (Below.only (anz w k) (λ_=>False)) (λf=>f)) t n
  cases hq:atM E (t,n)with
  |none=>exact⟨none,λk=>by have:=hl k;rwa [hq]at this,.inl ⟨rfl,(h.no (t,n) hq).1⟩⟩
  |some fb=>exact⟨some fb,λk=>by have:=hl k;rwa [hq]at this,.inr ⟨fb,_,rfl,h.file _ _ hq⟩⟩
def iJz (lv dr:Bool):Int:=if lv=false then 2 else if dr=true then 21 else 0
def bCz (nsf:OG→List Int) (bsf:OG→List (BitVec 8)) (m:List OG) (t n:Int) (lv dr:Bool):List L.VC:=if lv=true∧dr=false then vsq nsf bsf m (t,n)else[]
theorem VW.file (h:VW F w vb nsf bsf m ls) (hT:TOk ls T s) (t n:Int) {lv:Bool} (hlv:lv=true↔(t=0∧n=0)∨Bel T (t,n) (0,0)):
  Calls Tryz.prog 53 #[.pointer (some ⟨vb,0,none⟩),idv t n] w λe w'=>∃fp,e=.returned (.tuple #[eyz fp,.int .i64 (iJz lv (aAz T t n))])∧FPx fp w' (bCz nsf bsf m t n lv (aAz T t n))∧VJ w F vb nsf bsf m ls w':=by
 obtain⟨A,hA⟩:∃A,A=w.alloc (.cells #[.int .i64 t,.int .i64 n] 28):=⟨_,rfl⟩
 have hbA:Below w.heap.size w A:=by rw[hA];exact(a3z w _).out
 have hi:A.heap[w.heap.size]? =some (.cells #[.int .i64 t,.int .i64 n] 28 (0,0)):=by rw[hA];exact heap_alloc_new w _
 have HV:Hid (VJ w F vb nsf bsf m ls A):=(VJ.start h).below hbA
 have HI:=a0z hi
 have cLv:∀W,VJ w F vb nsf bsf m ls W→Calls Tryz.prog 24 #[.pointer (some ⟨vb,0,none⟩),.agg #[.int .i64 t,.int .i64 n]] W λe w'=>e=.returned (.bool lv)∧VJ w F vb nsf bsf m ls w'∧Sft W w':=λW hW=>hW.call λF' hF'=>hF'.live hT.fold t n hlv
 have cDr:∀W,VJ w F vb nsf bsf m ls W→Calls Tryz.prog 43 #[.pointer (some ⟨vb,0,none⟩),.agg #[.int .i64 t,.int .i64 n]] W λe w'=>e=.returned (.bool (aAz T t n))∧VJ w F vb nsf bsf m ls w'∧Sft W w':=λW hW=>hW.call λF' hF'=>hF'.dir hT.fold t n
 have HL:=(show Hid _ from cLv)
 have HD:=(show Hid _ from cDr)
 generalize aAz T t n=dr at*
 have HA:=a0z hA
 have HVD:Hid (VJ w F vb nsf bsf m ls A.drew):=HV.out.below (a6z _)
 have y0:A.cell? ⟨w.heap.size,0,none⟩=some (.int .i64 t):=cellOf hi 0
 have y1:A.cell? ⟨w.heap.size,1,none⟩=some (.int .i64 n):=cellOf hi 1
 rw[hA]at y0 y1
 have cL0:=cLv A HV.out
 have cL1:=cLv A.drew HVD.out
 rw[hA]at cL0 cL1
 clear h hT hlv hbA hi hA cLv cDr
 go_enter Tryz.func53,Tryz.ntmps53
 cases lv with
 |false=>
  go_wp2_with (go_at_call 24;refine cL0.mono ?_;rintro e w5 ⟨rfl,h5,s5⟩;have H5:=(show Hid (VJ w F vb nsf bsf m ls w5)from h5);clear h5 s5)
  go_ret2
  exact⟨none,rfl,.inl ⟨rfl,rfl⟩,H5.out⟩
 |true=>
  go_wp2_with (go_at_call 24;refine cL0.mono ?_;rintro e w5 ⟨rfl,h5,s5⟩;have H5:Hid (VJ w F vb nsf bsf m ls w5∧w5.heap[w.heap.size]? =some (.cells #[.int .i64 t,.int .i64 n] 28 (0,0))):=⟨h5,by rw[← HA.out]at s5;exact s5.at HI.out (by decide)⟩;have z0:w5.cell? ⟨w.heap.size,0,none⟩=some (.int .i64 t):=cellOf H5.out.2 0;have z1:w5.cell? ⟨w.heap.size,1,none⟩=some (.int .i64 n):=cellOf H5.out.2 1;clear h5 s5 y0 y1 cL0 cL1)
  have cD:=HD.out w5.drew (H5.out.1.below (a6z _))
  have cD0:=HD.out w5 H5.out.1
  clear HVD
  cases dr with
  |true=>
   first
    |go_region_with (go_at_call 43;refine cD.mono ?_;rintro e w6 ⟨rfl,h6,s6⟩;have H6:=(show Hid (VJ w F vb nsf bsf m ls w6)from h6);clear h6 s6)
    |go_wp2_with (go_at_call 43;refine cD0.mono ?_;rintro e w6 ⟨rfl,h6,s6⟩;have H6:=(show Hid (VJ w F vb nsf bsf m ls w6)from h6);clear h6 s6)
   all_goals
    go_wp2_with fail
    go_ret2
    exact⟨none,rfl,.inl ⟨rfl,rfl⟩,H6.out⟩
  |false=>
   go_region_with (go_at_call 43;refine cD.mono ?_;rintro e w6 ⟨rfl,h6,s6⟩;have H6:Hid (VJ w F vb nsf bsf m ls w6∧w6.heap[w.heap.size]? =some (.cells #[.int .i64 t,.int .i64 n] 28 (0,0))):=⟨h6,s6.at (show w5.drew.heap[w.heap.size]? =_ from H5.out.2) (by decide)⟩;clear h6 s6 z0 z1 cD cD0)
   all_goals
    have hvj:=H6.out.1
    obtain⟨F6,⟨Ft,fv,E,Fs,hvm,hs⟩,_⟩:=H6.out.1
    obtain⟨fp,hlk,hfp⟩:=hvm.look t n
    have c4:w6.cell? ⟨vb,4,none⟩=some fv:=hvm.tree.cells.2.1
    have l1:(Instr.lookup 75 fv (.agg #[.int .i64 t,.int .i64 n]) false).run Tryz.prog w6.drew=.ok (eyz fp) w6.drew:=hlk 1
    have l0:(Instr.lookup 75 fv (.agg #[.int .i64 t,.int .i64 n]) false).run Tryz.prog w6=.ok (eyz fp) w6:=hlk 0
    have z0:w6.cell? ⟨w.heap.size,0,none⟩=some (.int .i64 t):=cellOf H6.out.2 0
    have z1:w6.cell? ⟨w.heap.size,1,none⟩=some (.int .i64 n):=cellOf H6.out.2 1
    have HFP:=a0z hfp
    clear hvm hs hlk hfp hvj
    generalize hpf:eyz fp=pf at*
    have HPF:=a0z hpf
    clear hpf
    go_wp2_with fail
    go_region
    all_goals
     go_wp2_with fail
     go_ret2
     exact⟨fp,by rw[HPF.out];rfl,HFP.out.below (a6z _),H6.out.1.below (a6z _)⟩
def mdz (t n:Int) (lv dr:Bool) (HC:List L.VC):Value×Int:=if lv=false then(.agg #[.int .i64 0,.int .i64 0,.bool false,.int .i64 0,.int .i64 0],2)else if dr=true then(.agg #[.int .i64 t,.int .i64 n,.bool true,.int .i64 0,.int .i64 0],0)else(.agg #[.int .i64 t,.int .i64 n,.bool false,.int .i64 ((aRz HC).length:Nat),.int .i64 (HC.length:Nat)],0)
theorem llz:(Tryz.prog.info? 65).map (·.size)=some 5:=by kernel_rfl
theorem VW.stat (h:VW F w vb nsf bsf m ls) (hT:TOk ls T s) (t n:Int) {lv:Bool} (hlv:lv=true↔(t=0∧n=0)∨Bel T (t,n) (0,0)) (hq:∀q,∀x∈vsq nsf bsf m q,1≤x.sq) {HC:List L.VC} (hs:IsHd (bCz nsf bsf m t n lv (aAz T t n)) HC):
  Calls Tryz.prog 23 #[.pointer (some ⟨vb,0,none⟩),idv t n] w λe w'=>e=.returned (.tuple #[(mdz t n lv (aAz T t n) HC).1,.int .i64 (mdz t n lv (aAz T t n) HC).2])∧VJ w F vb nsf bsf m ls w':=by
 obtain⟨A,hA⟩:∃A,A=(w.alloc (.cells #[.int .i64 t,.int .i64 n] 28)).alloc (.cells #[.int .i64 0,.int .i64 0,.bool false,.int .i64 0,.int .i64 0] 65):=⟨_,rfl⟩
 have hbA:Below w.heap.size w A:=by rw[hA];exact a2z (a3z w _).out (a3z _ _).out
 have hi:A.heap[w.heap.size]? =some (.cells #[.int .i64 t,.int .i64 n] 28 (0,0)):=by rw[hA,Below.heap_alloc _ _ _ (by simp)];exact heap_alloc_new w _
 have hr:A.heap[w.heap.size+1]? =some (.cells #[.int .i64 0,.int .i64 0,.bool false,.int .i64 0,.int .i64 0] 65 (0,0)):=by
  have:=heap_alloc_new (w.alloc (.cells #[.int .i64 t,.int .i64 n] 28)) (.cells #[.int .i64 0,.int .i64 0,.bool false,.int .i64 0,.int .i64 0] 65)
  rw[← hA]at this
  rwa [show(w.alloc (.cells #[.int .i64 t,.int .i64 n] 28)).heap.size=w.heap.size+1 by simp]at this
 have HV:Hid (VJ w F vb nsf bsf m ls A):=(VJ.start h).below hbA
 have HI:=a0z (agz hi hr)
 have HQ:Hid (IsHd (bCz nsf bsf m t n lv (aAz T t n)) HC∧∀q,∀x∈vsq nsf bsf m q,1≤x.sq):=⟨hs,hq⟩
 have cLv:∀W,VJ w F vb nsf bsf m ls W→Calls Tryz.prog 24 #[.pointer (some ⟨vb,0,none⟩),.agg #[.int .i64 t,.int .i64 n]] W λe w'=>e=.returned (.bool lv)∧VJ w F vb nsf bsf m ls w'∧Sft W w':=λW hW=>hW.call λF' hF'=>hF'.live hT.fold t n hlv
 have cDr:∀W,VJ w F vb nsf bsf m ls W→Calls Tryz.prog 43 #[.pointer (some ⟨vb,0,none⟩),.agg #[.int .i64 t,.int .i64 n]] W λe w'=>e=.returned (.bool (aAz T t n))∧VJ w F vb nsf bsf m ls w'∧Sft W w':=λW hW=>hW.call λF' hF'=>hF'.dir hT.fold t n
 have HD:=(show Hid _ from cDr)
 generalize aAz T t n=dr at*
 have HA:=a0z hA
 have y0:A.cell? ⟨w.heap.size,0,none⟩=some (.int .i64 t):=cellOf hi 0
 have y1:A.cell? ⟨w.heap.size,1,none⟩=some (.int .i64 n):=cellOf hi 1
 have cL0:=cLv A HV.out
 rw[hA]at y0 y1 cL0
 clear h hT hlv hbA hi hr hA cLv cDr hq hs
 go_enter Tryz.func23,Tryz.ntmps23
 cases lv with
 |false=>
  go_wp2_with (first
   |(go_at_call 24;refine cL0.mono ?_;rintro e w5 ⟨rfl,h5,s5⟩;have H5:Hid (VJ w F vb nsf bsf m ls w5∧w5.heap[w.heap.size+1]? =some (.cells #[.int .i64 0,.int .i64 0,.bool false,.int .i64 0,.int .i64 0] 65 (0,0))):=⟨h5,by rw[← HA.out]at s5;exact s5.at HI.out.2 (by decide)⟩;have HBX:=(show Hid _ from H5.out.2);clear h5 s5)
   |(refine asz rfl 65 _ _ rfl (w.heap.size+1) (#[.int .i64 0,.int .i64 0,.bool false,.int .i64 0,.int .i64 0]) rfl rfl 65 _ HBX llz rfl (by simp[Value.oneCell']) ?_;intro w6 H6;have r0:w6.cell? ⟨w.heap.size+1,0,none⟩=some (.int .i64 0):=cellOf H6.out.1 0;have r1:w6.cell? ⟨w.heap.size+1,1,none⟩=some (.int .i64 0):=cellOf H6.out.1 1;have r2:w6.cell? ⟨w.heap.size+1,2,none⟩=some (.bool false):=cellOf H6.out.1 2;have r3:w6.cell? ⟨w.heap.size+1,3,none⟩=some (.int .i64 0):=cellOf H6.out.1 3;have r4:w6.cell? ⟨w.heap.size+1,4,none⟩=some (.int .i64 0):=cellOf H6.out.1 4))
  refine bodyPost_ret (v:=.tuple #[.agg #[.int .i64 0,.int .i64 0,.bool false,.int .i64 0,.int .i64 0],.int .i64 2]) (by simp[results,Tryz.results23,go_sem,r0,r1,r2,r3,r4]) rfl ?_
  exact⟨rfl,H5.out.1.put HBX.out (by decide) (by decide) (by omega) H6.out.2.1⟩
 |true=>
  go_wp2_with (go_at_call 24;refine cL0.mono ?_;rintro e w5 ⟨rfl,h5,s5⟩;have H5:Hid (VJ w F vb nsf bsf m ls w5∧w5.heap[w.heap.size]? =some (.cells #[.int .i64 t,.int .i64 n] 28 (0,0))∧w5.heap[w.heap.size+1]? =some (.cells #[.int .i64 0,.int .i64 0,.bool false,.int .i64 0,.int .i64 0] 65 (0,0))):=⟨h5,by rw[← HA.out]at s5;exact⟨s5.at HI.out.1 (by decide),s5.at HI.out.2 (by decide)⟩⟩;have z0:w5.cell? ⟨w.heap.size,0,none⟩=some (.int .i64 t):=cellOf H5.out.2.1 0;have z1:w5.cell? ⟨w.heap.size,1,none⟩=some (.int .i64 n):=cellOf H5.out.2.1 1;clear h5 s5 y0 y1 cL0)
  have cD:=HD.out w5.drew (H5.out.1.below (a6z _))
  cases dr with
  |true=>
   go_region_with (go_at_call 43;refine cD.mono ?_;rintro e w6 ⟨rfl,h6,s6⟩;have H6:Hid (VJ w F vb nsf bsf m ls w6∧w6.heap[w.heap.size]? =some (.cells #[.int .i64 t,.int .i64 n] 28 (0,0))∧w6.heap[w.heap.size+1]? =some (.cells #[.int .i64 0,.int .i64 0,.bool false,.int .i64 0,.int .i64 0] 65 (0,0))):=⟨h6,s6.at (show w5.drew.heap[w.heap.size]? =_ from H5.out.2.1) (by decide),s6.at (show w5.drew.heap[w.heap.size+1]? =_ from H5.out.2.2) (by decide)⟩;have HBX:=(show Hid _ from H6.out.2.2);clear h6 s6 z0 z1 cD)
   all_goals
    have z0:w6.cell? ⟨w.heap.size,0,none⟩=some (.int .i64 t):=cellOf H6.out.2.1 0
    have z1:w6.cell? ⟨w.heap.size,1,none⟩=some (.int .i64 n):=cellOf H6.out.2.1 1
    go_wp2_with (refine asz rfl 65 _ _ rfl (w.heap.size+1) (#[.int .i64 t,.int .i64 n,.bool true,.int .i64 0,.int .i64 0]) rfl rfl 65 _ HBX llz rfl (by simp[Value.oneCell']) ?_;intro w7 H7;have r0:w7.cell? ⟨w.heap.size+1,0,none⟩=some (.int .i64 t):=cellOf H7.out.1 0;have r1:w7.cell? ⟨w.heap.size+1,1,none⟩=some (.int .i64 n):=cellOf H7.out.1 1;have r2:w7.cell? ⟨w.heap.size+1,2,none⟩=some (.bool true):=cellOf H7.out.1 2;have r3:w7.cell? ⟨w.heap.size+1,3,none⟩=some (.int .i64 0):=cellOf H7.out.1 3;have r4:w7.cell? ⟨w.heap.size+1,4,none⟩=some (.int .i64 0):=cellOf H7.out.1 4)
    refine bodyPost_ret (v:=.tuple #[.agg #[.int .i64 t,.int .i64 n,.bool true,.int .i64 0,.int .i64 0],.int .i64 0]) (by simp[results,Tryz.results23,go_sem,r0,r1,r2,r3,r4]) rfl ?_
    exact⟨rfl,H6.out.1.put HBX.out (by decide) (by decide) (by omega) H7.out.2.1⟩
  |false=>
   go_region_with (go_at_call 43;refine cD.mono ?_;rintro e w6 ⟨rfl,h6,s6⟩;have H6:Hid (VJ w F vb nsf bsf m ls w6∧w6.heap[w.heap.size]? =some (.cells #[.int .i64 t,.int .i64 n] 28 (0,0))∧w6.heap[w.heap.size+1]? =some (.cells #[.int .i64 0,.int .i64 0,.bool false,.int .i64 0,.int .i64 0] 65 (0,0))):=⟨h6,s6.at (show w5.drew.heap[w.heap.size]? =_ from H5.out.2.1) (by decide),s6.at (show w5.drew.heap[w.heap.size+1]? =_ from H5.out.2.2) (by decide)⟩;clear h6 s6 z0 z1 cD)
   all_goals
    obtain⟨F6,⟨Ft,fv,E,Fs,hvm,hs⟩,_⟩:=H6.out.1
    obtain⟨fp,hlk,hfp⟩:=hvm.look t n
    have c4:w6.cell? ⟨vb,4,none⟩=some fv:=hvm.tree.cells.2.1
    have l1:(Instr.lookup 75 fv (.agg #[.int .i64 t,.int .i64 n]) false).run Tryz.prog w6.drew=.ok (eyz fp) w6.drew:=hlk 1
    have z0:w6.cell? ⟨w.heap.size,0,none⟩=some (.int .i64 t):=cellOf H6.out.2.1 0
    have z1:w6.cell? ⟨w.heap.size,1,none⟩=some (.int .i64 n):=cellOf H6.out.2.1 1
    have hqs:vsq nsf bsf m (t,n)=bCz nsf bsf m t n true false:=by unfold bCz;rw[if_pos ⟨rfl,rfl⟩]
    have HSq:=HQ.out.2 (t,n)
    rw[hqs]at hfp HSq
    have HFP:Hid (FPx fp w6 (bCz nsf bsf m t n true false)∧∀x∈bCz nsf bsf m t n true false,1≤x.sq):=⟨hfp,HSq⟩
    clear hvm hs hlk hfp hqs HSq
    go_wp2_with fail
    go_region
    all_goals
     go_wp2_with fail
     obtain⟨wd,hwd⟩:∃wd,wd=w6.drew:=⟨_,rfl⟩
     have HD6:Hid (VJ w F vb nsf bsf m ls wd∧wd.heap[w.heap.size]? =some (.cells #[.int .i64 t,.int .i64 n] 28 (0,0))∧wd.heap[w.heap.size+1]? =some (.cells #[.int .i64 0,.int .i64 0,.bool false,.int .i64 0,.int .i64 0] 65 (0,0))∧FPx fp wd (bCz nsf bsf m t n true false)):=by
      rw[hwd];exact⟨H6.out.1.below (a6z _),H6.out.2.1,H6.out.2.2,HFP.out.1.below (a6z _)⟩
     rw[← hwd]
     have y0:wd.drew.cell? ⟨w.heap.size,0,none⟩=some (.int .i64 t):=cellOf (show wd.drew.heap[w.heap.size]? =_ from HD6.out.2.1) 0
     have y1:wd.drew.cell? ⟨w.heap.size,1,none⟩=some (.int .i64 n):=cellOf (show wd.drew.heap[w.heap.size]? =_ from HD6.out.2.1) 1
     have HHd:Hid (∀W,Below wd.heap.size wd W→Calls Tryz.prog 56 #[eyz fp] W λe w'=>∃p c,e=.returned (.slice p HC.length c)∧Below W.heap.size W w'):=λW hW=>by
      refine((HD6.out.2.2.2.below hW).heads HFP.out.2 HQ.out.1).mono ?_
      rintro e w8 ⟨v,M,rfl,hr,hm,hown,hb⟩
      obtain⟨pM,cM,rfl,_⟩:=hr.shape
      have hml:M.length=HC.length:=by rw[← hm,List.length_map]
      rw[hml]
      exact⟨pM,cM,rfl,hb⟩
     clear hwd z0 z1 c4 l1
     go_region_with (first
      |(go_at_call 55;refine((HD6.out.2.2.2.below (a6z _)).size HFP.out.2 HQ.out.1).mono ?_;rintro e w7 ⟨rfl,hb⟩;have HB7:Hid (Below wd.heap.size wd w7):=a2z (a6z _) hb;have y70:=a5z y0 hb;have y71:=a5z y1 hb;clear hb)
      |(go_at_call 56;refine(HHd.out _ HB7.out).mono ?_;rintro e w8 ⟨pM,cM,rfl,hb⟩;have HB8:Hid (Below wd.heap.size wd w8):=a2z HB7.out hb;have y80:=a5z y70 hb;have y81:=a5z y71 hb;have hx8:=(HB8.out.block _ (block_lt HD6.out.2.2.1)).trans HD6.out.2.2.1;have HX8:=a0z hx8;have k0:w8.cell? ⟨w.heap.size+1,0,none⟩=some (.int .i64 0):=cellOf hx8 0;have k1:w8.cell? ⟨w.heap.size+1,1,none⟩=some (.int .i64 0):=cellOf hx8 1;have k2:w8.cell? ⟨w.heap.size+1,2,none⟩=some (.bool false):=cellOf hx8 2;have k3:w8.cell? ⟨w.heap.size+1,3,none⟩=some (.int .i64 0):=cellOf hx8 3;have k4:w8.cell? ⟨w.heap.size+1,4,none⟩=some (.int .i64 0):=cellOf hx8 4;have f0:w8.frozen? ⟨w.heap.size+1,0,none⟩=false:=aez hx8 0;have f1:w8.frozen? ⟨w.heap.size+1,1,none⟩=false:=aez hx8 1;have f2:w8.frozen? ⟨w.heap.size+1,2,none⟩=false:=aez hx8 2;have f3:w8.frozen? ⟨w.heap.size+1,3,none⟩=false:=aez hx8 3;have f4:w8.frozen? ⟨w.heap.size+1,4,none⟩=false:=aez hx8 4;clear hb hx8))
     all_goals
      go_wp2_with fail
      simp only[Act.put,List.getElem_toArray,List.getElem_cons_succ,List.getElem_cons_zero,List.setIfInBounds_toArray,List.set_cons_zero,List.set_cons_succ]
      have hO5:=L.set5_only w8 (w.heap.size+1) (.int .i64 t) (.int .i64 n) (.bool false) (.int .i64 ((aRz HC).length:Nat)) (.int .i64 (HC.length:Nat))
      unfold L.set5 at hO5
      have hb5:(((((w8.setCell ⟨w.heap.size+1,0,none⟩ (.int .i64 t)).setCell ⟨w.heap.size+1,1,none⟩ (.int .i64 n)).setCell ⟨w.heap.size+1,2,none⟩ (.bool false)).setCell ⟨w.heap.size+1,3,none⟩ (.int .i64 ((aRz HC).length:Nat))).setCell ⟨w.heap.size+1,4,none⟩ (.int .i64 (HC.length:Nat))).heap[w.heap.size+1]? =some (.cells #[.int .i64 t,.int .i64 n,.bool false,.int .i64 ((aRz HC).length:Nat),.int .i64 (HC.length:Nat)] 65 (0,0)):=
       a7z (k:=4) (a7z (k:=3) (a7z (k:=2) (a7z (k:=1) (a7z (k:=0) HX8.out _) _) _) _) _
      generalize hw9:((((w8.setCell ⟨w.heap.size+1,0,none⟩ (.int .i64 t)).setCell ⟨w.heap.size+1,1,none⟩ (.int .i64 n)).setCell ⟨w.heap.size+1,2,none⟩ (.bool false)).setCell ⟨w.heap.size+1,3,none⟩ (.int .i64 ((aRz HC).length:Nat))).setCell ⟨w.heap.size+1,4,none⟩ (.int .i64 (HC.length:Nat))=w9 at*
      have r0:w9.cell? ⟨w.heap.size+1,0,none⟩=some (.int .i64 t):=cellOf hb5 0
      have r1:w9.cell? ⟨w.heap.size+1,1,none⟩=some (.int .i64 n):=cellOf hb5 1
      have r2:w9.cell? ⟨w.heap.size+1,2,none⟩=some (.bool false):=cellOf hb5 2
      have r3:w9.cell? ⟨w.heap.size+1,3,none⟩=some (.int .i64 ((aRz HC).length:Nat)):=cellOf hb5 3
      have r4:w9.cell? ⟨w.heap.size+1,4,none⟩=some (.int .i64 (HC.length:Nat)):=cellOf hb5 4
      refine bodyPost_ret (v:=.tuple #[.agg #[.int .i64 t,.int .i64 n,.bool false,.int .i64 ((aRz HC).length:Nat),.int .i64 (HC.length:Nat)],.int .i64 0]) (by simp[results,Tryz.results23,go_sem,r0,r1,r2,r3,r4]) rfl ?_
      exact⟨rfl,(HD6.out.1.below HB8.out).put HX8.out (by decide) (by decide) (by omega) hO5⟩
end
end Go.Proofs.YthhakekbffembaaGreatDoor.Ck.Y.W

namespace Go.Proofs.YthhakekbffembaaGreatDoor.Ck.Y.W
open Go.RowKit Go.Maps Go.Lib
open L (a2z a6z anz a5z IsHd aRz)
open Sh (bas Ids Nms strs bIz InI Cs)
abbrev kgz (x:List UInt8) (q:PI) (dr:Bool) (sz:Int):Array Value:= #[.string (bas x),.int .i64 q.1,.int .i64 q.2,.bool dr,.int .i64 sz]
def szE (dr:Bool) (HC:List L.VC):Int:=if dr=true then 0 else((aRz HC).length:Nat)
theorem mqz:(Tryz.prog.info? 69).map (·.size)=some 5:=by kernel_rfl
section
variable {F:Nat→Prop} {w w':World} {vb s:Nat} {nsf:OG→List Int} {bsf:OG→List (BitVec 8)} {m ls:List OG} {T:List OB}
theorem VW.entry (h:VW F w vb nsf bsf m ls) (hT:TOk ls T s) (q:PI) (x:List UInt8) (hq:∀q,∀x∈vsq nsf bsf m q,1≤x.sq) {HC:List L.VC} (hs:IsHd (vsq nsf bsf m q) HC):
  Calls Tryz.prog 48 #[.pointer (some ⟨vb,0,none⟩),.agg #[.int .i64 q.1,.int .i64 q.2],.string (bas x)] w λe w'=>e=.returned (.agg (kgz x q (aAz T q.1 q.2) (szE (aAz T q.1 q.2) HC)))∧VJ w F vb nsf bsf m ls w':=by
 obtain⟨t,n⟩:=q
 obtain⟨A,hA⟩:∃A,A=(w.alloc (.cells #[.int .i64 t,.int .i64 n] 28)).alloc (.cells #[.string ⟨#[]⟩,.int .i64 0,.int .i64 0,.bool false,.int .i64 0] 69):=⟨_,rfl⟩
 have hbA:Below w.heap.size w A:=by rw[hA];exact a2z (a3z w _).out (a3z _ _).out
 have hi:A.heap[w.heap.size]? =some (.cells #[.int .i64 t,.int .i64 n] 28 (0,0)):=by rw[hA,Below.heap_alloc _ _ _ (by simp)];exact heap_alloc_new w _
 have hr:A.heap[w.heap.size+1]? =some (.cells #[.string ⟨#[]⟩,.int .i64 0,.int .i64 0,.bool false,.int .i64 0] 69 (0,0)):=by
  have:=heap_alloc_new (w.alloc (.cells #[.int .i64 t,.int .i64 n] 28)) (.cells #[.string ⟨#[]⟩,.int .i64 0,.int .i64 0,.bool false,.int .i64 0] 69)
  rw[← hA]at this
  rwa [show(w.alloc (.cells #[.int .i64 t,.int .i64 n] 28)).heap.size=w.heap.size+1 by simp]at this
 have HV:Hid (VJ w F vb nsf bsf m ls A.drew):=((VJ.start h).below hbA).below (a6z _)
 have HI:=a0z (agz hi hr)
 have HQ:Hid (IsHd (vsq nsf bsf m (t,n)) HC∧∀x∈vsq nsf bsf m (t,n),1≤x.sq):=⟨hs,hq (t,n)⟩
 have cD:=HV.out.call λF' hF'=>hF'.dir hT.fold t n
 simp only
 generalize aAz T t n=dr at*
 have HA:=a0z hA
 have y0:A.cell? ⟨w.heap.size,0,none⟩=some (.int .i64 t):=cellOf hi 0
 have y1:A.cell? ⟨w.heap.size,1,none⟩=some (.int .i64 n):=cellOf hi 1
 rw[hA]at y0 y1 cD
 clear h hT hbA hi hr hA hq hs HV
 go_enter Tryz.func48,Tryz.ntmps48
 go_wp2_with fail
 cases dr with
 |true=>
  go_region_with (go_at_call 43;refine cD.mono ?_;rintro e w6 ⟨rfl,h6,s6⟩;have H6:Hid (VJ w F vb nsf bsf m ls w6∧w6.heap[w.heap.size]? =some (.cells #[.int .i64 t,.int .i64 n] 28 (0,0))∧w6.heap[w.heap.size+1]? =some (.cells #[.string ⟨#[]⟩,.int .i64 0,.int .i64 0,.bool false,.int .i64 0] 69 (0,0))):=⟨h6,by rw[← HA.out]at s6;exact⟨s6.at (show A.drew.heap[w.heap.size]? =_ from HI.out.1) (by decide),s6.at (show A.drew.heap[w.heap.size+1]? =_ from HI.out.2) (by decide)⟩⟩;have HBX:=(show Hid _ from H6.out.2.2);clear h6 s6 y0 y1 cD)
  all_goals
   have z0:w6.cell? ⟨w.heap.size,0,none⟩=some (.int .i64 t):=cellOf H6.out.2.1 0
   have z1:w6.cell? ⟨w.heap.size,1,none⟩=some (.int .i64 n):=cellOf H6.out.2.1 1
   go_wp2_with (refine asz rfl 69 _ _ rfl (w.heap.size+1) (kgz x (t,n) true 0) rfl rfl 69 _ HBX mqz rfl (by simp[Value.oneCell']) ?_;intro w7 H7;have r0:w7.cell? ⟨w.heap.size+1,0,none⟩=some (.string (bas x)):=cellOf H7.out.1 0;have r1:w7.cell? ⟨w.heap.size+1,1,none⟩=some (.int .i64 t):=cellOf H7.out.1 1;have r2:w7.cell? ⟨w.heap.size+1,2,none⟩=some (.int .i64 n):=cellOf H7.out.1 2;have r3:w7.cell? ⟨w.heap.size+1,3,none⟩=some (.bool true):=cellOf H7.out.1 3;have r4:w7.cell? ⟨w.heap.size+1,4,none⟩=some (.int .i64 0):=cellOf H7.out.1 4)
   refine bodyPost_ret (v:=.agg (kgz x (t,n) true 0)) (by simp[results,Tryz.results48,go_sem,r0,r1,r2,r3,r4]) rfl ?_
   exact⟨by simp[szE],H6.out.1.put HBX.out (by decide) (by decide) (by omega) H7.out.2.1⟩
 |false=>
  go_region_with (go_at_call 43;refine cD.mono ?_;rintro e w6 ⟨rfl,h6,s6⟩;have H6:Hid (VJ w F vb nsf bsf m ls w6∧w6.heap[w.heap.size]? =some (.cells #[.int .i64 t,.int .i64 n] 28 (0,0))∧w6.heap[w.heap.size+1]? =some (.cells #[.string ⟨#[]⟩,.int .i64 0,.int .i64 0,.bool false,.int .i64 0] 69 (0,0))):=⟨h6,by rw[← HA.out]at s6;exact⟨s6.at (show A.drew.heap[w.heap.size]? =_ from HI.out.1) (by decide),s6.at (show A.drew.heap[w.heap.size+1]? =_ from HI.out.2) (by decide)⟩⟩;have HBX:=(show Hid _ from H6.out.2.2);clear h6 s6 y0 y1 cD)
  all_goals
   obtain⟨F6,⟨Ft,fv,E,Fs,hvm,hs⟩,_⟩:=H6.out.1
   obtain⟨fp,hlk,hfp⟩:=hvm.look t n
   have c4:w6.cell? ⟨vb,4,none⟩=some fv:=hvm.tree.cells.2.1
   have l1:(Instr.lookup 75 fv (.agg #[.int .i64 t,.int .i64 n]) false).run Tryz.prog w6.drew=.ok (eyz fp) w6.drew:=hlk 1
   have z0:w6.cell? ⟨w.heap.size,0,none⟩=some (.int .i64 t):=cellOf H6.out.2.1 0
   have z1:w6.cell? ⟨w.heap.size,1,none⟩=some (.int .i64 n):=cellOf H6.out.2.1 1
   have HFP:Hid (FPx fp w6 (vsq nsf bsf m (t,n))∧∀x∈vsq nsf bsf m (t,n),1≤x.sq):=⟨hfp,HQ.out.2⟩
   clear hvm hs hlk hfp
   go_wp2_with fail
   go_region_with (go_at_call 55;refine((HFP.out.1.below (a6z _)).size HFP.out.2 HQ.out.1).mono ?_;rintro e w8 ⟨rfl,hb⟩;have HB8:Hid (Below w6.heap.size w6 w8):=a2z (a6z _) hb;have hy8:=(HB8.out.block _ (block_lt H6.out.2.1)).trans H6.out.2.1;have y80:w8.cell? ⟨w.heap.size,0,none⟩=some (.int .i64 t):=cellOf hy8 0;have y81:w8.cell? ⟨w.heap.size,1,none⟩=some (.int .i64 n):=cellOf hy8 1;have hx8:=(HB8.out.block _ (block_lt H6.out.2.2)).trans H6.out.2.2;have HX8:=a0z hx8;have k0:w8.cell? ⟨w.heap.size+1,0,none⟩=some (.string ⟨#[]⟩):=cellOf hx8 0;have k1:w8.cell? ⟨w.heap.size+1,1,none⟩=some (.int .i64 0):=cellOf hx8 1;have k2:w8.cell? ⟨w.heap.size+1,2,none⟩=some (.int .i64 0):=cellOf hx8 2;have k3:w8.cell? ⟨w.heap.size+1,3,none⟩=some (.bool false):=cellOf hx8 3;have k4:w8.cell? ⟨w.heap.size+1,4,none⟩=some (.int .i64 0):=cellOf hx8 4;have f0:w8.frozen? ⟨w.heap.size+1,0,none⟩=false:=aez hx8 0;have f1:w8.frozen? ⟨w.heap.size+1,1,none⟩=false:=aez hx8 1;have f2:w8.frozen? ⟨w.heap.size+1,2,none⟩=false:=aez hx8 2;have f3:w8.frozen? ⟨w.heap.size+1,3,none⟩=false:=aez hx8 3;have f4:w8.frozen? ⟨w.heap.size+1,4,none⟩=false:=aez hx8 4;clear hb hx8 hy8)
   all_goals
    go_wp2_with fail
    try simp only[Act.put,List.getElem_toArray,List.getElem_cons_succ,List.getElem_cons_zero,List.setIfInBounds_toArray,List.set_cons_zero,List.set_cons_succ]
    have hO5:=L.set5_only w8 (w.heap.size+1) (.string (bas x)) (.int .i64 t) (.int .i64 n) (.bool false) (.int .i64 ((aRz HC).length:Nat))
    unfold L.set5 at hO5
    have hb5:(((((w8.setCell ⟨w.heap.size+1,0,none⟩ (.string (bas x))).setCell ⟨w.heap.size+1,1,none⟩ (.int .i64 t)).setCell ⟨w.heap.size+1,2,none⟩ (.int .i64 n)).setCell ⟨w.heap.size+1,3,none⟩ (.bool false)).setCell ⟨w.heap.size+1,4,none⟩ (.int .i64 ((aRz HC).length:Nat))).heap[w.heap.size+1]? =some (.cells (kgz x (t,n) false ((aRz HC).length:Nat)) 69 (0,0)):=
     a7z (k:=4) (a7z (k:=3) (a7z (k:=2) (a7z (k:=1) (a7z (k:=0) HX8.out _) _) _) _) _
    generalize hw9:((((w8.setCell ⟨w.heap.size+1,0,none⟩ (.string (bas x))).setCell ⟨w.heap.size+1,1,none⟩ (.int .i64 t)).setCell ⟨w.heap.size+1,2,none⟩ (.int .i64 n)).setCell ⟨w.heap.size+1,3,none⟩ (.bool false)).setCell ⟨w.heap.size+1,4,none⟩ (.int .i64 ((aRz HC).length:Nat))=w9 at*
    have r0:w9.cell? ⟨w.heap.size+1,0,none⟩=some (.string (bas x)):=cellOf hb5 0
    have r1:w9.cell? ⟨w.heap.size+1,1,none⟩=some (.int .i64 t):=cellOf hb5 1
    have r2:w9.cell? ⟨w.heap.size+1,2,none⟩=some (.int .i64 n):=cellOf hb5 2
    have r3:w9.cell? ⟨w.heap.size+1,3,none⟩=some (.bool false):=cellOf hb5 3
    have r4:w9.cell? ⟨w.heap.size+1,4,none⟩=some (.int .i64 ((aRz HC).length:Nat)):=cellOf hb5 4
    refine bodyPost_ret (v:=.agg (kgz x (t,n) false ((aRz HC).length:Nat))) (by simp[results,Tryz.results48,go_sem,r0,r1,r2,r3,r4]) rfl ?_
    exact⟨by simp[szE],(H6.out.1.below HB8.out).put HX8.out (by decide) (by decide) (by omega) hO5⟩
end
end Go.Proofs.YthhakekbffembaaGreatDoor.Ck.Y.W
