import Derived.Test.YthhakekbffembaaGreatDoorQPk

namespace Go.Proofs.YthhakekbffembaaGreatDoor.Ck.Y
open Go.RowKit Go.Maps Go.Lib
theorem k6z {F FO:Nat→Prop} {W W3 Wf:World} {gt:VB} {d s s0 mb:Nat} {v:Value} {L:List SR} {T0:List OB} {B U:List PI} {bl:PI→Nat} {dr:PI→Bool} {e:SR} (hS:SM F FO W gt.b v L U bl dr) (hg:W.heap[gt.b]? =some (.cells #[.map (some mb),v,.int .i64 (d:Nat),.int .i64 (s:Nat),gt.fv,gt.cn] 77 (0,0))) (hD:DoneT bl U (L.take d) T0 s0) (hd:L[d]? =some e) (hR:eKz FO mb B U bl dr T0 e.o gt.b e.sb e.x e.did W W3) (hui:∀q∈U,q.1=0∨∃o∈L.map (·.o),q=(o.t,o.n)) (hul:U.length≤(L.map (·.o)).length+2) (hof:Only (· =gt.b) W3 Wf) (hgf:Wf.heap[gt.b]? =some (.cells #[.map (some mb),v,.int .i64 (d:Nat),.int .i64 (s0:Nat),gt.fv,gt.cn] 77 (0,0))):
  TSm (ajz F W Wf) Wf gt (L.map (·.o)) d T0 s0 mb B U bl dr∧Only F W Wf:=by
 obtain⟨fu,fn,⟨kv',hT⟩,hst⟩:=hR.out
 have hOx:Only (λb=>FO b∨b=e.sb∨(b=e.x∧e.o.kd=3)) W W3:=atz hR.only λb hb=>hb.elim .inl λh=>.inr (.inr h)
 obtain⟨hS3,hO3⟩:=hS.turn hd hst hOx
 have hdl:=(List.getElem?_eq_some_iff.1 hd).1
 have hse:=hS.st e (List.mem_of_getElem? hd)
 have hg3:W3.heap[gt.b]? =_:=(hR.only.block _ (block_lt hg) (λhh=>by
  rcases hh with hh|hh
  ·exact hS.gtF.2 hh
  ·exact aiz hg (hse.mvat hh.2) (by decide) hh.1)).trans hg
 have hSf:=hS3.kept hof (λb hb=>.inl hb) ⟨_,hg3⟩
 have s3:=hR.only.size
 have sf:=hof.size
 have hD':DoneT bl U ((L.set d ⟨e.o,e.sb,e.x,e.did,fu,fn⟩).take d) T0 s0:=by rw[List.take_set_of_le (Nat.le_refl _)];exact hD
 have hle:=hD'.le
 rw[List.length_take,List.length_set]at hle
 refine⟨⟨⟨ajz FO W W3,kv',L.set d ⟨e.o,e.sb,e.x,e.did,fu,fn⟩,v,hSf.mono (λb hb=> ?_) (λb hb=> ?_),c1z (·.o) (e':=⟨e.o,e.sb,e.x,e.did,fu,fn⟩) hd rfl,hgf,hD',hT.kept hof λb hb hh=>hS3.gtF.2 (by rw[← hh];exact hb)⟩,by rw[List.length_map];omega,by omega,hui,hul⟩, ?_⟩
 ·rcases hb with hb|hb
  ·exact .inl hb
  ·exact .inr ⟨hb.1,by omega⟩
 ·rcases hb with hb|hb
  ·have:=hS.low b hb;omega
  ·exact hb.2
 ·exact hO3.next (atz hof λb hb=>by rw[hb];exact hS.gtF.1)
set_option maxRecDepth 8000 in
set_option maxHeartbeats 4000000 in
theorem kxz {F:Nat→Prop} {w:World} {gt:VB} {d s mb:Nat} {l:List OG} {T:List OB} {B U:List PI} {bl:PI→Nat} {dr:PI→Bool} (at_:Nat) (hat:at_≤1000) (h:TSm F w gt l d T s mb B U bl dr):
  Calls Tryz.prog 70 #[.pointer (some ⟨gt.b,0,none⟩),.int .i64 (at_:Nat)] w λe w'=>e=.returned (.tuple #[])∧(∃d' T' s',d'≤at_∧TSm (ajz F w w') w' gt l d' T' s' mb B U bl dr)∧Only F w w':=by
 have hlow:∀b,F b→b<w.heap.size:=by obtain⟨FO,kv,L,v,hS,_⟩:=h.out;exact hS.low
 have HH:Hid (TSm (ajz F w w) w gt l d T s mb B U bl dr∧∀b,F b→b<w.heap.size):=⟨h.mono (λb hb=>.inl hb) (λb hb=>hb.elim (hlow b) λe=>e.2),hlow⟩
 clear h hlow
 go_enter Tryz.func70,Tryz.ntmps70
 go_wp2_with fail
 go_loopw [4] (λ_ wr=>Hid (∃d T s,TSm (ajz F w wr) wr gt l d T s mb B U bl dr∧Only F w wr∧b6z gt.b wr=d)) (λ_ wr=>b6z gt.b wr)
 case atStart=>exact⟨d,T,s,HH.out.1,Only.refl _ _,by
  obtain⟨FO,kv,L,v,hS,_,hg,_⟩:=HH.out.1.out
  unfold b6z
  rw[cellOf hg 2]
  simp⟩
 case round=>
  obtain⟨d,T,s,hT,hOw,hdw⟩:=hrel.out
  have hdl:=hT.dl
  obtain⟨FO,kv,L,v,hS,hL,hg,hD,hM⟩:=hT.out
  obtain⟨p,cp,rfl,hlc,hcm,hpp⟩:=hS.row.form
  have hlen:(L.map (·.sb)).length=l.length:=by rw[← hL,List.length_map,List.length_map]
  have hl8:l.length≤800:=by have:=hS.len;rw[← hL,List.length_map];exact this
  rw[hlen]at hg hlc hpp
  have g2:wr.cell? ⟨gt.b,2,none⟩=some (.int .i64 (d:Nat)):=cellOf hg 2
  have f2:wr.frozen? ⟨gt.b,2,none⟩=false:=aez hg 2
  have HI:=a0z (agz hT (agz hOw hdw))
  clear hrel
  by_cases hdd:at_<d
  ·have hddI:(at_:Int)<(d:Int):=by omega
   obtain⟨d0,rfl⟩:∃d0,d=d0+1:=⟨d-1,by omega⟩
   obtain⟨g9,rfl,hcell⟩:=hpp (by omega)
   obtain⟨e,he⟩:∃e,L[d0]? =some e:=⟨_,List.getElem?_eq_getElem (by rw[← hL,List.length_map]at hdl;omega)⟩
   obtain⟨T0,s0,hD0,hu,hs0⟩:∃T0 s0,DoneT bl U (L.take d0) T0 s0∧dcz bl U e.o T0 T e.did e.fu e.fn∧s=if e.did=true then s0 else s0+1:=by
    have e1:L.take (d0+1)=L.take d0++[e]:=by rw[List.take_add_one,he];rfl
    rw[e1]at hD
    exact hD.last
   obtain⟨W0,hW0⟩:∃W0,W0=wr.setCell ⟨gt.b,2,none⟩ (.int .i64 (d0:Nat)):=⟨_,rfl⟩
   have ho0:Only (· =gt.b) wr W0:=by rw[hW0];exact Only.setCell (S:=(· =gt.b)) wr ⟨gt.b,2,none⟩ _ rfl
   have hg0:W0.heap[gt.b]? =some (.cells #[.map (some mb),.slice (some ⟨g9,0,none⟩) l.length cp,.int .i64 (d0:Nat),.int .i64 (s:Nat),gt.fv,gt.cn] 77 (0,0)):=by rw[hW0];exact a7z (k:=2) hg _
   have hS0:=hS.kept ho0 (λb hb=>.inl hb) ⟨_,hg⟩
   have hM0:=hM.kept ho0 λb hb hh=>hS.gtF.2 (by rw[← hh];exact hb)
   have hdrew:Below W0.heap.size W0 W0.drew:=⟨rfl,rfl,rfl,Nat.le_refl _,λ_ _=>rfl⟩
   have hse:=hS0.stF e (List.mem_of_getElem? he)
   have hwf:=hD0.wf λf hf=>(hS.ok f (List.mem_of_mem_take hf)).1
   have hback:=lCz (w:=W0.drew) (hM0.below hdrew) (λb hb=>hS0.low b (hS0.sub b hb)) (show W0.drew.cell? ⟨gt.b,0,none⟩=some (.map (some mb))from cellOf hg0 0) hS0.gtF.2 (hS0.st e (List.mem_of_getElem? he)).drewr hse.2.1 hse.2.2.2 (hS.ok e (List.mem_of_getElem? he)).1 hu hwf
   have c1:W0.cell? ⟨gt.b,1,none⟩=some (.slice (some ⟨g9,0,none⟩) l.length cp):=cellOf hg0 1
   have c2:W0.cell? ⟨gt.b,2,none⟩=some (.int .i64 (d0:Nat)):=cellOf hg0 2
   have r0:wr.cell? ⟨g9,d0,none⟩=some (.pointer (some ⟨e.sb,0,none⟩)):=hcell d0 e.sb (by rw[List.getElem?_map,he];rfl)
   have c3:W0.cell? ⟨g9,d0,none⟩=some (.pointer (some ⟨e.sb,0,none⟩)):=b1z ho0 r0 (λhh=>by
    obtain⟨_,_,cur,ht⟩:=hS.row.tag (g:=g9) rfl
    exact aiz ht hg (by decide) hh)
   have hk:d0<l.length:=by omega
   have HK:Hid (SM (ajz F w wr) FO W0 gt.b (.slice (some ⟨g9,0,none⟩) l.length cp) L U bl dr∧L.map (·.o)=l∧W0.heap[gt.b]? =some (.cells #[.map (some mb),.slice (some ⟨g9,0,none⟩) l.length cp,.int .i64 (d0:Nat),.int .i64 (s:Nat),gt.fv,gt.cn] 77 (0,0))∧DoneT bl U (L.take d0) T0 s0∧L[d0]? =some e∧Only (· =gt.b) wr W0):=⟨by rw[hlen]at hS0;exact hS0,hL,hg0,hD0,he,ho0⟩
   have HW0:=a0z hW0
   have hdI:((d0+1:Nat):Int)-1=(d0:Nat):=by omega
   have hsd:=hT.sd
   clear hT hS hg hD hM hlc hpp hcell r0 hM0 hS0 hg0 hdrew hse hwf hlen hcm ho0 hD0 hu he
   go_wp2_with fail
   rw[← hW0]
   clear hW0 g2 f2
   generalize hrr:e.did=rr at hback hs0
   have HRR:=a0z hrr
   clear hrr
   refine nsz (by kernel_rfl) gt.b g9 l.length cp d0 e.sb rr (λW'=>eKz FO mb B U bl dr T0 e.o gt.b e.sb e.x rr W0 W') _ rfl rfl hk c1 c2 c3 (hback.mono λx W' hx=>⟨hx.1,⟨hx.2.out,⟨hx.2.only.os,hx.2.only.tape,hx.2.only.output,hx.2.only.size,hx.2.only.block⟩⟩⟩) ?_
   intro _ W3 hR
   have hg3:W3.heap[gt.b]? =some (.cells #[.map (some mb),.slice (some ⟨g9,0,none⟩) l.length cp,.int .i64 (d0:Nat),.int .i64 (s:Nat),gt.fv,gt.cn] 77 (0,0)):=by
    have hse:=HK.out.1.st e (List.mem_of_getElem? HK.out.2.2.2.2.1)
    refine(hR.only.block _ (block_lt HK.out.2.2.1) (λhh=> ?_)).trans HK.out.2.2.1
    rcases hh with hh|hh
    ·exact HK.out.1.gtF.2 hh
    ·exact aiz HK.out.2.2.1 (hse.mvat hh.2) (by decide) hh.1
   have k3:W3.cell? ⟨gt.b,3,none⟩=some (.int .i64 (s:Nat)):=cellOf hg3 3
   have f3:W3.frozen? ⟨gt.b,3,none⟩=false:=aez hg3 3
   have fin:∀Wf,Only (· =gt.b) W3 Wf→Wf.heap[gt.b]? =some (.cells #[.map (some mb),.slice (some ⟨g9,0,none⟩) l.length cp,.int .i64 (d0:Nat),.int .i64 (s0:Nat),gt.fv,gt.cn] 77 (0,0))→
     Hid (∃d T s,TSm (ajz F w Wf) Wf gt l d T s mb B U bl dr∧Only F w Wf∧b6z gt.b Wf=d)∧b6z gt.b Wf=d0:=λWf hof hgf=>by
    rw[← HRR.out]at hR
    obtain⟨hT',hO'⟩:=k6z HK.out.1 HK.out.2.2.1 HK.out.2.2.2.1 HK.out.2.2.2.2.1 hR (by rw[HK.out.2.1];exact HI.out.1.uid) (by rw[HK.out.2.1];exact HI.out.1.ul) hof hgf
    rw[HK.out.2.1]at hT'
    have hdone:b6z gt.b Wf=d0:=by unfold b6z;rw[cellOf hgf 2];simp
    have q1:=HI.out.2.1.size
    have q2:=HK.out.2.2.2.2.2.size
    have q3:=hR.only.size
    have q4:=hof.size
    have hgF:ajz F w wr gt.b:=HK.out.1.gtF.1
    have hOW:Only F w W0:=HI.out.2.1.trans HK.out.2.2.2.2.2 λi hi=>by
     rw[hi]
     exact hgF.imp id λh=>h.1
    refine⟨⟨d0,T0,_,hT'.mono (λb hb=> ?_) (λb hb=> ?_), ?_,hdone⟩,hdone⟩
    ·rcases hb with(hb|hb)|hb
     ·exact .inl hb
     ·exact .inr ⟨hb.1,by omega⟩
     ·exact .inr ⟨by omega,hb.2⟩
    ·rcases hb with hb|hb
     ·have:=HH.out.2 b hb;omega
     ·exact hb.2
    ·refine hOW.trans hO' λi hi=> ?_
     rcases hi with hi|hi
     ·exact .inl hi
     ·exact .inr hi.1
   have HF:Hid (∀Wf,Only (· =gt.b) W3 Wf→Wf.heap[gt.b]? =some (.cells #[.map (some mb),.slice (some ⟨g9,0,none⟩) l.length cp,.int .i64 (d0:Nat),.int .i64 (s0:Nat),gt.fv,gt.cn] 77 (0,0))→
     Hid (∃d T s,TSm (ajz F w Wf) Wf gt l d T s mb B U bl dr∧Only F w Wf∧b6z gt.b Wf=d)∧b6z gt.b Wf=d0):=fin
   have HG:=a0z hg3
   clear fin hR hg3 HK hback c1 c2 c3
   simp only[abz,sA,sB,sC]
   have hdw:=HI.out.2.2
   cases rr with
   |true=>
    simp only[if_true]at hs0
    subst hs0
    go_wp2_with fail
    go_roundw
    case rel=>exact(HF.out _ (Only.refl _ _) HG.out).1
    case measure=>
     rw[(HF.out _ (Only.refl _ _) HG.out).2,hdw]
     omega
   |false=>
    simp only[Bool.false_eq_true,if_false]at hs0
    subst hs0
    have hsI:((s0+1:Nat):Int)-1=(s0:Nat):=by omega
    go_wp2_with fail
    go_roundw
    case rel=>
     refine(HF.out _ (Only.setCell (S:=(· =gt.b)) W3 ⟨gt.b,3,none⟩ _ rfl) ?_).1
     exact a7z (k:=3) HG.out (.int .i64 ((s0:Nat):Int))
    case measure=>
     rw[(HF.out _ (Only.setCell (S:=(· =gt.b)) W3 ⟨gt.b,3,none⟩ (.int .i64 ((s0:Nat):Int)) rfl) (a7z (k:=3) HG.out (.int .i64 ((s0:Nat):Int)))).2,hdw]
     omega
  ·have hddI:¬(at_:Int)<(d:Int):=by omega
   have HE:Hid ((∃d' T' s',d'≤at_∧TSm (ajz F w wr) wr gt l d' T' s' mb B U bl dr)∧Only F w wr):=⟨⟨d,T,s,by omega,HI.out.1⟩,HI.out.2.1⟩
   clear hT hS hg hD hM hlc hpp hlen hcm
   go_wp2_with fail
   go_end0
   obtain⟨⟨d',T',s',h1,h2⟩,h3⟩:=HE.out
   exact⟨rfl,⟨d',h1,T',s',h2⟩,h3⟩
end Go.Proofs.YthhakekbffembaaGreatDoor.Ck.Y
