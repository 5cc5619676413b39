import Derived.Test.YthhakekbffembaaGreatDoorQLi
import Derived.Test.YthhakekbffembaaGreatDoorQOd
set_option maxRecDepth 8000
set_option maxHeartbeats 4000000

namespace Go.Proofs.YthhakekbffembaaGreatDoor.Ck.Y.L
open Go.RowKit Go.Maps Go.Lib
structure FMem (w:World) (fb:Nat) (E:List KP) (sn:List Int) (H:List VG) (mv:Value) (sp:Option Addr) (sc:Nat) (hv:Value):Prop where
 blk:w.heap[fb]? =some (.cells #[mv,.slice sp sn.length sc,hv] 148 (0,0))
 sown:w.ownsRow 0 2 1 (.slice sp sn.length sc) sn.length (sn.map Cd.iv)
 snl:sn.length≤64
 map:(mv=.map none∧E=[])∨∃mb,mv=.map (some mb)∧MapS w mb E
 hrow:RowV w 0 hv H
 hown:∀x∈H,VOwn w 0 x
 hl:H.length≤900
def byz (fb:Nat) (mv hv:Value) (b:Nat):Prop:=b=fb∨mv=.map (some b)∨hv.ownBlock=some b
section
variable {w w':World} {fb:Nat} {E:List KP} {sn:List Int} {H:List VG} {mv:Value} {sp:Option Addr} {sc:Nat} {hv:Value}
theorem RowV.tagged {w:World} {v:Value} {l:List VG} (h:RowV w 0 v l) {g:Nat} (hg:v.ownBlock=some g):∃cs,w.heap[g]? =some (.cells cs 92 (0,0)):=by
 obtain⟨cs,h1,_⟩:=h.tag hg
 exact⟨cs,h1⟩
theorem FMem.lt (h:FMem w fb E sn H mv sp sc hv):∀b,byz fb mv hv b→b<w.heap.size:=by
 rintro b (rfl|rfl|hb)
 ·exact block_lt h.blk
 ·rcases h.map with⟨e,_⟩|⟨mb,e,hm⟩
  ·cases e
  ·cases e;exact hm.lt
 ·obtain⟨cs,hc⟩:=RowV.tagged h.hrow hb
  exact block_lt hc
theorem FMem.hard (h:FMem w fb E sn H mv sp sc hv):Hard w (byz fb mv hv):=by
 rintro b (rfl|rfl|hb) cs t ht
 ·rw[h.blk]at ht;cases ht;decide
 ·rcases h.map with⟨e,_⟩|⟨mb,e,es,clock,hm,_⟩
  ·cases e
  ·cases e;rw[hm]at ht;cases ht
 ·obtain⟨cs',hc⟩:=RowV.tagged h.hrow hb
  rw[hc]at ht;cases ht;decide
theorem hard_one {w:World} {b:Nat} {cs:Array Value} {t:TypeId} (h:w.heap[b]? =some (.cells cs t (0,0))) (ht:t≠2∧t≠5):Hard w (λk=>k=b):=by
 rintro k rfl cs' t' h'
 rw[h]at h';cases h';exact ht
theorem RowV.keptH {w w':World} {v:Value} {l:List VG} {S:Nat→Prop} (h:RowV w 0 v l) (ho:Only S w w') (hn:∀g,v.ownBlock=some g→¬S g):RowV w' 0 v l:=RowV.kept h ho hn
theorem FMem.kept {S:Nat→Prop} (h:FMem w fb E sn H mv sp sc hv) (ho:Only S w w') (hn:∀b,byz fb mv hv b→¬S b) (hs:Hard w S):FMem w' fb E sn H mv sp sc hv:=by
 refine⟨(ho.block fb (block_lt h.blk) (hn fb (.inl rfl))).trans h.blk,bzz h.sown ho λb hb cs t ht=>(hs b hb cs t ht).1,h.snl, ?_,h.hrow.keptH ho λg hg=>hn g (.inr (.inr hg)),λx hx=>(h.hown x hx).kept ho hs,h.hl⟩
 rcases h.map with h0|⟨mb,e,hm⟩
 ·exact .inl h0
 ·exact .inr ⟨mb,e,hm.kept ho (hn mb (.inr (.inl e)))⟩
theorem FMem.below (h:FMem w fb E sn H mv sp sc hv) (hb:Below w.heap.size w w'):FMem w' fb E sn H mv sp sc hv:=
 h.kept (Below.only hb (λ_=>False)) (λ_ _ f=>f) (λ_ f=>f.elim)
theorem FMem.seenF (h:FMem w fb E sn H mv sp sc hv):SeenF w fb sn:=⟨sp,sc,cellOf h.blk 1,(cIz h.sown).1⟩
theorem FMem.mapne (h:FMem w fb E sn H mv sp sc hv) {mb:Nat} (e:mv=.map (some mb)):mb≠fb∧hv.ownBlock≠some mb:=by
 rcases h.map with⟨e',_⟩|⟨mb',e',es,clock,hm,_⟩
 ·rw[e]at e';cases e'
 ·rw[e]at e';cases e'
  refine⟨?_,λhg=> ?_⟩
  ·rintro rfl;rw[h.blk]at hm;cases hm
  ·obtain⟨cs,hc⟩:=RowV.tagged h.hrow hg
   rw[hm]at hc;cases hc
theorem FMem.rowne (h:FMem w fb E sn H mv sp sc hv):hv.ownBlock≠some fb:=λhg=>by
 obtain⟨cs,hc⟩:=RowV.tagged h.hrow hg
 exact aiz h.blk hc (by decide) rfl
theorem FMem.setSeen (h:FMem w fb E sn H mv sp sc hv) {sn':List Int} {p:Option Addr} {c:Nat} (ho:w.ownsRow 0 2 1 (.slice p sn'.length c) sn'.length (sn'.map Cd.iv)) (hl:sn'.length≤64):
  FMem (w.setCell ⟨fb,1,none⟩ (.slice p sn'.length c)) fb E sn' H mv p c hv∧Only (λb=>b=fb) w (w.setCell ⟨fb,1,none⟩ (.slice p sn'.length c)):=by
 have hO:Only (λb=>b=fb) w (w.setCell ⟨fb,1,none⟩ (.slice p sn'.length c)):=Only.setCell (S:=λb=>b=fb) _ _ _ rfl
 have hh:=hard_one h.blk (by decide)
 refine⟨⟨a7z h.blk _,bzz ho hO λb hb cs t ht=>(hh b hb cs t ht).1,hl, ?_,h.hrow.keptH hO λg hg e=>h.rowne (by rw[hg,e]),λx hx=>(h.hown x hx).kept hO hh,h.hl⟩,hO⟩
 rcases h.map with h0|⟨mb,e,hm⟩
 ·exact .inl h0
 ·exact .inr ⟨mb,e,hm.kept hO (h.mapne e).1⟩
theorem FMem.setHeads (h:FMem w fb E sn H mv sp sc hv) {v:Value} {M:List VG} (hO:Only (λb=>hv.ownBlock=some b) w w') (hr:RowV w' 0 v M) (hM:∀x∈M,VOwn w' 0 x) (hl:M.length≤900):
  FMem (w'.setCell ⟨fb,2,none⟩ v) fb E sn M mv sp sc v∧Only (byz fb mv hv) w (w'.setCell ⟨fb,2,none⟩ v):=by
 have hb':w'.heap[fb]? =some (.cells #[mv,.slice sp sn.length sc,hv] 148 (0,0)):=(hO.block fb (block_lt h.blk) h.rowne).trans h.blk
 have hO2:Only (λb=>b=fb) w' (w'.setCell ⟨fb,2,none⟩ v):=Only.setCell (S:=λb=>b=fb) _ _ _ rfl
 have hh2:=hard_one hb' (by decide)
 have hh1:Hard w (λb=>hv.ownBlock=some b):=λb hb=>h.hard b (.inr (.inr hb))
 refine⟨⟨a7z hb' _,bzz (bzz h.sown hO λb hb cs t ht=>(hh1 b hb cs t ht).1) hO2 λb hb cs t ht=>(hh2 b hb cs t ht).1,h.snl, ?_,hr.keptH hO2 λg hg e=> ?_,λx hx=>(hM x hx).kept hO2 hh2,hl⟩, ?_⟩
 ·rcases h.map with h0|⟨mb,e,hm⟩
  ·exact .inl h0
  ·exact .inr ⟨mb,e,(hm.kept hO (h.mapne e).2).kept hO2 (h.mapne e).1⟩
 ·obtain⟨cs,hc⟩:=RowV.tagged hr hg
  exact aiz hc hb' (by decide) e
 ·exact(bmz hO λb hb=>.inr (.inr hb)).next (bmz hO2 λb hb=>.inl hb)
theorem FMem.setMap (h:FMem w fb E sn H mv sp sc hv) {mb:Nat} {E':List KP} (hb':w'.heap[fb]? =some (.cells #[.map (some mb),.slice sp sn.length sc,hv] 148 (0,0))) (hm:MapS w' mb E') (hO:Only (λb=>b=fb∨mv=.map (some b)) w w'):
  FMem w' fb E' sn H (.map (some mb)) sp sc hv:=by
 have hh:Hard w (λb=>b=fb∨mv=.map (some b)):=λb hb=>h.hard b (hb.elim .inl λe=>.inr (.inl e))
 refine⟨hb',bzz h.sown hO λb hb cs t ht=>(hh b hb cs t ht).1,h.snl,.inr ⟨mb,rfl,hm⟩,h.hrow.keptH hO λg hg e=> ?_,λx hx=>(h.hown x hx).kept hO hh,h.hl⟩
 rcases e with e|e
 ·exact h.rowne (by rw[hg,e])
 ·exact(h.mapne e).2 hg
end
theorem hrz {w:World} {fb:Nat} {E:List KP} {sn:List Int} {H:List VG} {mv:Value} {sp:Option Addr} {sc:Nat} {hv:Value} (h:FMem w fb E sn H mv sp sc hv) {t n:Int} (hq:(t,n)∉E):
  Calls Tryz.prog 113 #[.pointer (some ⟨fb,0,none⟩),idv t n] w λe w'=>e=.returned (.tuple #[])∧∃mb,FMem w' fb (E++[(t,n)]) sn H (.map (some mb)) sp sc hv∧Only (byz fb mv hv) w w'∧(mv=.map (some mb)∨w.heap.size≤mb):=by
 rcases h.map with⟨rfl,rfl⟩|⟨mb,rfl,hm⟩
 ·refine(lLz fb t n _ _ w h.blk).mono ?_
  rintro e w' ⟨rfl,mb,h1,h2,h3,h4⟩
  exact⟨rfl,mb,h.setMap h1 h2 (bmz h3 λb hb=>.inl hb),bmz h3 λb hb=>.inl hb,.inr h4⟩
 ·refine(jJz fb mb t n E w (cellOf h.blk 0) hm hq).mono ?_
  rintro e w' ⟨rfl,h1,h2⟩
  exact⟨rfl,mb,h.setMap ((h2.block fb (block_lt h.blk) (Ne.symm (h.mapne rfl).1)).trans h.blk) h1 (bmz h2 λb hb=>.inr (by rw[hb])),bmz h2 λb hb=>.inr (.inl (by rw[hb])),.inl rfl⟩
end Go.Proofs.YthhakekbffembaaGreatDoor.Ck.Y.L

namespace Go.Proofs.YthhakekbffembaaGreatDoor.Ck.Y.L
open Go.RowKit Go.Maps Go.Lib
variable {w:World} {fb sc:Nat} {E:List KP} {sn:List Int} {H:List VG} {mv hv:Value} {sp:Option Addr}
theorem FMem.seenAfter {W:World} (h:FMem w fb E sn H mv sp sc hv) (hO:Only (λb=>hv.ownBlock=some b) w W):SeenF W fb sn:=by
 have hh:Hard w (λb=>hv.ownBlock=some b):=λb hb=>h.hard b (.inr (.inr hb))
 exact⟨sp,sc,cellOf ((hO.block fb (block_lt h.blk) h.rowne).trans h.blk) 1,(cIz (bzz h.sown hO λb hb cs t ht=>(hh b hb cs t ht).1)).1⟩
theorem FMem.headsAfter {W:World} (h:FMem w fb E sn H mv sp sc hv) (hO:Only (λb=>hv.ownBlock=some b) w W):∀x∈H,VOwn W 0 x:=
 λx hx=>(h.hown x hx).kept hO λb hb=>h.hard b (.inr (.inr hb))
def aXz (sn ns:List Int):List Int:=if Vc.leqB ns sn then sn else Vc.vec (Vc.maxAt [sn,ns])
theorem jpz (h:FMem w fb E sn H mv sp sc hv) (hk:∀x∈H,aDz x.sq x.n sn=false)
  (q:Option Addr) (ns:List Int) (ml mc:Nat) (hml:ns.length=ml) (hq:Cd.Lies w q (ns.map Cd.iv)):
  Calls Tryz.prog 114 #[.pointer (some ⟨fb,0,none⟩),.slice q ml mc] w λe w'=>e=.returned (.tuple #[])∧∃sp' sc' hv',FMem w' fb E (aXz sn ns) (H.filter (aJz (aXz sn ns))) mv sp' sc' hv'∧Only (byz fb mv hv) w w'∧hv'.ownBlock=hv.ownBlock:=by
 have HH:=a0z h
 have c1:=Vc.leq_any q sp ns sn mc sc w hq (cIz h.sown).1
 rw[hml]at c1
 have f1:w.cell? ⟨fb,1,none⟩=some (.slice sp sn.length sc):=cellOf h.blk 1
 have f2:w.cell? ⟨fb,2,none⟩=some hv:=cellOf h.blk 2
 have g1:=aez h.blk 1
 cases hl:Vc.leqB ns sn with
 |true=>
  rw[hl]at c1
  have e1:aXz sn ns=sn:=by unfold aXz;rw[hl];rfl
  have e2:H.filter (aJz sn)=H:=List.filter_eq_self.2 λx hx=>by unfold aJz;rw[hk x hx];rfl
  rw[e1,e2]
  clear h hk hq e1 e2 hl f2 g1
  generalize sn.length=sl at*
  go_enter Tryz.func114,Tryz.ntmps114
  go_wp2_with (go_at_call 151;refine adz c1 ?_;clear c1)
  refine bodyPost_ret (results_none rfl _ _ _) rfl ?_
  exact⟨rfl,sp,sc,hv,HH.out,Only.refl _ _,rfl⟩
 |false=>
  rw[hl]at c1
  have e1:aXz sn ns=Vc.vec (Vc.maxAt [sn,ns]):=by unfold aXz;rw[hl];rfl
  rw[e1]
  obtain⟨S2,hS2⟩:∃S2,Vc.vec (Vc.maxAt [sn,ns])=S2:=⟨_,rfl⟩
  rw[hS2]
  have hS2l:S2.length≤64:=by rw[← hS2];exact Vc.vec_le _
  obtain⟨A,hA⟩:∃A,A=w.alloc (.cells #[.slice sp sn.length sc,.slice q ml mc] 31):=⟨_,rfl⟩
  have bA:Below w.heap.size w A:=by rw[hA];exact(a3z w _).out
  have kA:A.heap[w.heap.size]? =some (.cells #[.slice sp sn.length sc,.slice q ml mc] 31 (0,0)):=by rw[hA];exact heap_alloc_new w _
  have HM:Hid (Calls Tryz.prog 152 #[.slice (some ⟨w.heap.size,0,none⟩) 2 2] A (Vc.AnsO A S2)):=by
   have:=Vc.max_own (some ⟨w.heap.size,0,none⟩) [sn,ns] 2 A (by simp) (λj v hv=>by
    match j with
    |0=>simp at hv;subst hv;exact⟨w.heap.size,0,sp,sc,rfl,cellOf kA 0,Cd.below_lies bA (cIz h.sown).1⟩
    |1=>simp at hv;subst hv;exact⟨w.heap.size,0,q,mc,rfl,by rw[← hml]at kA;exact cellOf kA 1,Cd.below_lies bA hq⟩
    |j+2=>simp at hv)
   rw[hS2]at this
   exact this
  have HA:=a0z hA
  have HB:Hid (FMem A fb E sn H mv sp sc hv∧Below w.heap.size w A):=⟨h.below bA,bA⟩
  have HL:=a0z hS2l
  have HX:Hid (H.length≤900):=h.hl
  clear h hk hq e1 hl hS2 hS2l bA kA hA
  go_enter Tryz.func114,Tryz.ntmps114
  go_wp2_with (first
   |(go_at_call 151;refine adz c1 ?_;clear c1)
   |(go_at_call 152;rw[← HA.out];refine HM.out.mono ?_;clear HM;rintro e w2 ⟨p2,c2,rfl,ho,hb⟩;have F2:=HB.out.1.below hb;have F3:=F2.setSeen (Vc.own_base ho (Nat.zero_le _)) HL.out;have H3:Hid (FMem (w2.setCell ⟨fb,1,none⟩ (.slice p2 S2.length c2)) fb E S2 H mv p2 c2 hv∧Only (λb=>b=fb) w2 (w2.setCell ⟨fb,1,none⟩ (.slice p2 S2.length c2))∧Below w.heap.size w w2):=⟨F3.1,F3.2,a2z HB.out.2 hb⟩;have k1:w2.cell? ⟨fb,1,none⟩=some (.slice sp sn.length sc):=cellOf F2.blk 1;have k2:=aez F2.blk 1;have k3:(w2.setCell ⟨fb,1,none⟩ (.slice p2 S2.length c2)).cell? ⟨fb,2,none⟩=some hv:=cellOf F3.1.blk 2;clear F2 F3 ho hb f1 f2 g1)
   |(go_at_call 153;refine(nbz fb S2 0 hv H _ H3.out.1.hrow (Nat.le_trans HX.out (by decide)) (λW hW=>H3.out.1.seenAfter hW)).mono ?_;rintro e w4 ⟨v4,rfl,hr4,ho4,hv4⟩;obtain⟨p4,c4,rfl,_⟩:=hr4.shape;have F5:=H3.out.1.setHeads ho4 hr4 (λx hx=>H3.out.1.headsAfter ho4 x (List.mem_filter.1 hx).1) (Nat.le_trans (List.length_filter_le _ _) HX.out);have H5:Hid (FMem (w4.setCell ⟨fb,2,none⟩ (.slice p4 (H.filter (aJz S2)).length c4)) fb E S2 (H.filter (aJz S2)) mv p2 c2 (.slice p4 (H.filter (aJz S2)).length c4)∧Only (byz fb mv hv) (w2.setCell ⟨fb,1,none⟩ (.slice p2 S2.length c2)) (w4.setCell ⟨fb,2,none⟩ (.slice p4 (H.filter (aJz S2)).length c4))∧(Value.slice p4 (H.filter (aJz S2)).length c4).ownBlock=hv.ownBlock):=⟨F5.1,F5.2,hv4⟩;have k4:=(ho4.block fb (block_lt H3.out.1.blk) H3.out.1.rowne).trans H3.out.1.blk;have k5:w4.cell? ⟨fb,2,none⟩=some hv:=cellOf k4 2;have k6:=aez k4 2;clear F5 k4 hr4 ho4 hv4 k1 k2 k3))
  go_end0
  refine⟨rfl,p2,c2,_,H5.out.1, ?_,H5.out.2.2⟩
  exact((Below.only H3.out.2.2 _).next (bmz H3.out.2.1 λb hb=>.inl hb)).next H5.out.2.1
end Go.Proofs.YthhakekbffembaaGreatDoor.Ck.Y.L

namespace Go.Proofs.YthhakekbffembaaGreatDoor.Ck.Y.L
open Go.RowKit Go.Maps Go.Lib
theorem l7z {w:World} {fb:Nat} {E:List KP} {sn:List Int} {H:List VG} {mv:Value} {sp:Option Addr} {sc:Nat} {hv:Value} (h:FMem w fb E sn H mv sp sc hv) (x:VG) (hs:aDz x.sq x.n sn=true):
  Calls Tryz.prog 115 #[.pointer (some ⟨fb,0,none⟩),vgv x] w λe w'=>e=.returned (.tuple #[])∧Below w.heap.size w w':=by
 obtain⟨A,hA⟩:∃A,A=w.alloc (.cells (vgC x) 92):=⟨_,rfl⟩
 have bA:Below w.heap.size w A:=by rw[hA];exact(a3z w _).out
 have kA:A.heap[w.heap.size]? =some (.cells (vgC x) 92 (0,0)):=by rw[hA];exact heap_alloc_new w _
 have c1:=(h.below bA).seenF.call x
 rw[hs]at c1
 have HB:=a0z bA
 obtain⟨a0,a1,a2,a3,a4⟩:=c2z kA
 have HA:=a0z hA
 rw[hA]at a0 a1 a2 a3 a4
 clear h hs bA kA hA
 obtain⟨t,n,sq,ns,sp,sc,bs,dp,dc⟩:=x
 simp only[vgv,vgC]at*
 generalize ns.length=nl at*
 generalize bs.length=bl at*
 go_enter Tryz.func115,Tryz.ntmps115
 go_wp2_with (go_at_call 154;rw[← HA.out];refine acz c1 ?_;intro w1 HB1)
 refine bodyPost_ret (results_none rfl _ _ _) rfl ?_
 exact⟨rfl,a2z HB.out HB1.out⟩
theorem mrz {w:World} {fb:Nat} {E:List KP} {sn:List Int} {H:List VG} {mv:Value} {sp:Option Addr} {sc:Nat} {hv:Value} (h:FMem w fb E sn H mv sp sc hv) (x:VG) (hx:VOwn w 0 x) (hs:aDz x.sq x.n sn=false) (hr:H.Pairwise ltV) (hl:H.length<900):
  Calls Tryz.prog 115 #[.pointer (some ⟨fb,0,none⟩),vgv x] w λe w'=>e=.returned (.tuple #[])∧∃i hv',m2z H x.t x.n i∧FMem w' fb E sn (H.take i++x::H.drop i) mv sp sc hv'∧Only (byz fb mv hv) w w'∧(hv'.ownBlock=hv.ownBlock∨∃g,hv'.ownBlock=some g∧w.heap.size≤g):=by
 obtain⟨A,hA⟩:∃A,A=w.alloc (.cells (vgC x) 92):=⟨_,rfl⟩
 have bA:Below w.heap.size w A:=by rw[hA];exact(a3z w _).out
 have kA:A.heap[w.heap.size]? =some (.cells (vgC x) 92 (0,0)):=by rw[hA];exact heap_alloc_new w _
 have c1:=(h.below bA).seenF.call x
 rw[hs]at c1
 have HB:=a0z bA
 obtain⟨a0,a1,a2,a3,a4⟩:=c2z kA
 have HA:=a0z hA
 have HF:Hid (FMem A fb E sn H mv sp sc hv):=h.below bA
 have HK:=a0z kA
 have HV:=a0z hx
 have HR:=a0z hr
 have HL:=a0z hl
 obtain⟨ph,ch,rfl,_⟩:=h.hrow.shape
 rw[hA]at a0 a1 a2 a3 a4
 clear h hs bA kA hA hx hr hl
 simp only[vgv,vgC]at c1 a0 a1 a2 a3 a4
 have HSS:Hid (∀W,Below A.heap.size A W→Calls Tryz.prog 155 #[.slice ph H.length ch,idv x.t x.n,cmv] W λe w'=>∃(i:Nat) (r:Bool),e=.returned (.tuple #[.int .i64 i,.bool r])∧m2z H x.t x.n i∧Below W.heap.size W w'):=λW hW=>i2z 0 _ H x.t x.n W (HF.out.hrow.below hW) (by have:=HL.out;omega) HR.out
 go_enter Tryz.func115,Tryz.ntmps115
 go_wp2_with (go_at_call 154;rw[← HA.out];refine acz c1 ?_;intro w1 HB1;clear c1 a0 a1 a2 a3 a4)
 have hF1:=HF.out.below HB1.out
 have cf:=cellOf hF1.blk 2
 have k1:w1.heap[w.heap.size]? =_:=(HB1.out.block _ (block_lt HK.out)).trans HK.out
 obtain⟨a0,a1,a2,a3,a4⟩:=c2z k1
 have CF:w1.cell? ⟨fb,2,none⟩=some (.slice ph H.length ch):=cf
 clear hF1 cf k1
 have HS1:∀W W',(W.cell? ⟨w.heap.size,0,none⟩=some (.int .i64 x.t)∧W.cell? ⟨w.heap.size,1,none⟩=some (.int .i64 x.n)∧W.cell? ⟨w.heap.size,2,none⟩=some (.int .i64 x.sq)∧W.cell? ⟨w.heap.size,3,none⟩=some (.slice x.sp x.ns.length x.sc)∧W.cell? ⟨w.heap.size,4,none⟩=some (.slice x.dp x.bs.length x.dc)∧W.cell? ⟨fb,2,none⟩=some (.slice ph H.length ch)∧Hid (Below w1.heap.size w1 W))→Hid (Below W.heap.size W W')→W'.cell? ⟨w.heap.size,0,none⟩=some (.int .i64 x.t)∧W'.cell? ⟨w.heap.size,1,none⟩=some (.int .i64 x.n)∧W'.cell? ⟨w.heap.size,2,none⟩=some (.int .i64 x.sq)∧W'.cell? ⟨w.heap.size,3,none⟩=some (.slice x.sp x.ns.length x.sc)∧W'.cell? ⟨w.heap.size,4,none⟩=some (.slice x.dp x.bs.length x.dc)∧W'.cell? ⟨fb,2,none⟩=some (.slice ph H.length ch)∧Hid (Below w1.heap.size w1 W'):=λW W' h1 h2=>
  have hb:=a2z h1.2.2.2.2.2.2.out h2.out
  ⟨a5z a0 hb,a5z a1 hb,a5z a2 hb,a5z a3 hb,a5z a4 hb,a5z CF hb,hb⟩
 have S11:w1.drew.cell? ⟨w.heap.size,0,none⟩=some (.int .i64 x.t)∧w1.drew.cell? ⟨w.heap.size,1,none⟩=some (.int .i64 x.n)∧w1.drew.cell? ⟨w.heap.size,2,none⟩=some (.int .i64 x.sq)∧w1.drew.cell? ⟨w.heap.size,3,none⟩=some (.slice x.sp x.ns.length x.sc)∧w1.drew.cell? ⟨w.heap.size,4,none⟩=some (.slice x.dp x.bs.length x.dc)∧w1.drew.cell? ⟨fb,2,none⟩=some (.slice ph H.length ch)∧Hid (Below w1.heap.size w1 w1.drew):=⟨a0,a1,a2,a3,a4,CF,a6z w1⟩
 have S21:w1.cell? ⟨w.heap.size,0,none⟩=some (.int .i64 x.t)∧w1.cell? ⟨w.heap.size,1,none⟩=some (.int .i64 x.n)∧w1.cell? ⟨w.heap.size,2,none⟩=some (.int .i64 x.sq)∧w1.cell? ⟨w.heap.size,3,none⟩=some (.slice x.sp x.ns.length x.sc)∧w1.cell? ⟨w.heap.size,4,none⟩=some (.slice x.dp x.bs.length x.dc)∧w1.cell? ⟨fb,2,none⟩=some (.slice ph H.length ch)∧Hid (Below w1.heap.size w1 w1):=⟨a0,a1,a2,a3,a4,CF,Below.refl _ _⟩
 have HF1:∀W,(W.cell? ⟨w.heap.size,0,none⟩=some (.int .i64 x.t)∧W.cell? ⟨w.heap.size,1,none⟩=some (.int .i64 x.n)∧W.cell? ⟨w.heap.size,2,none⟩=some (.int .i64 x.sq)∧W.cell? ⟨w.heap.size,3,none⟩=some (.slice x.sp x.ns.length x.sc)∧W.cell? ⟨w.heap.size,4,none⟩=some (.slice x.dp x.bs.length x.dc)∧W.cell? ⟨fb,2,none⟩=some (.slice ph H.length ch)∧Hid (Below w1.heap.size w1 W))→Below w1.heap.size w1 W:=λW hW=>hW.2.2.2.2.2.2.out
 go_region_held3 (λW=>W.cell? ⟨w.heap.size,0,none⟩=some (.int .i64 x.t)∧W.cell? ⟨w.heap.size,1,none⟩=some (.int .i64 x.n)∧W.cell? ⟨w.heap.size,2,none⟩=some (.int .i64 x.sq)∧W.cell? ⟨w.heap.size,3,none⟩=some (.slice x.sp x.ns.length x.sc)∧W.cell? ⟨w.heap.size,4,none⟩=some (.slice x.dp x.bs.length x.dc)∧W.cell? ⟨fb,2,none⟩=some (.slice ph H.length ch)∧Hid (Below w1.heap.size w1 W))
  (first|exact S11|exact S21|assumption|exact HS1 _ _ (by assumption) (by assumption))
  (first|(go_at_call 155;refine(HSS.out _ (a2z HB1.out (HF1 _ (by assumption)))).mono ?_;rintro e w2 ⟨i,r,rfl,hpl,hb2⟩;have HPL:=a0z hpl;have HB2:=a0z hb2;clear hpl hb2))
 have HW2:Hid (Below w1.heap.size w1 w2):=HF1 _ (by assumption)
 have b2:Below A.heap.size A w2:=a2z HB1.out HW2.out
 have hF2:=HF.out.below b2
 have k2:w2.heap[w.heap.size]? =_:=(b2.block _ (block_lt HK.out)).trans HK.out
 have HF2:=a0z (agz hF2 b2)
 obtain⟨e0,e1,e2,e3,e4⟩:=c2z k2
 have ef:w2.cell? ⟨fb,2,none⟩=some (.slice ph H.length ch):=cellOf hF2.blk 2
 clear hF2 b2 k2 HK
 obtain⟨B,hB⟩:∃B,B=(w2.alloc (.cells (vgC x) 92)).drew:=⟨_,rfl⟩
 have bB:Below w2.heap.size w2 B:=by rw[hB];exact a2z (a3z w2 _).out (a6z _)
 have kB:B.heap[w2.heap.size]? =some (.cells (baz x).toArray 92 (0,0)):=by rw[hB];exact heap_alloc_new w2 _
 have HBB:Hid (FMem B fb E sn H mv sp sc (.slice ph H.length ch)∧Below w2.heap.size w2 B∧B.heap[w2.heap.size]? =some (.cells (baz x).toArray 92 (0,0))):=⟨HF2.out.1.below bB,bB,kB⟩
 have HBE:=a0z hB
 have HINS:Hid (Calls Tryz.prog 157 #[.slice ph H.length ch,.int .i64 (i:Nat),.slice (some ⟨w2.heap.size,0,none⟩) 1 1] B (egz 0 (.slice ph H.length ch) (H.take i++x::H.drop i) B)):=
  h5z 0 i w2.heap.size _ H x B HBB.out.1.hrow HPL.out.le (by have:=HL.out;omega) (Nat.zero_le _) kB (λe=>by
   have:=HF2.out.1.lt _ (.inr (.inr e))
   omega)
 have HLN:Hid ((H.take i++x::H.drop i).length≤900):=by
  have h1:=HL.out
  have h2:=HPL.out.le
  show _≤_
  simp
  omega
 obtain⟨M,hM⟩:∃M,M=H.take i++x::H.drop i:=⟨_,rfl⟩
 have HMM:=a0z hM
 rw[← hM]at HINS HLN
 have l1:fb<w2.heap.size:=block_lt HF2.out.1.blk
 have l2:w.heap.size<w2.heap.size:=a4z e0
 clear hB bB kB hM
 go_wp2_with fail
 go_region_with (go_at_call 157;rw[show(w2.alloc (.cells #[.int .i64 x.t,.int .i64 x.n,.int .i64 x.sq,.slice x.sp x.ns.length x.sc,.slice x.dp x.bs.length x.dc] 92)).drew=B from HBE.out.symm];refine HINS.out.mono ?_;clear HINS;rintro e w4 ⟨v4,rfl,hr4,hg4,ho4⟩;obtain⟨p4,c4,rfl,_⟩:=hr4.shape;have H4:=a0z (agz hr4 (agz hg4 ho4));have hO4:Only (λb=>(Value.slice ph H.length ch).ownBlock=some b) B w4:=⟨hg4.os,hg4.tape,hg4.output,hg4.size,λk hk hn=>hg4.block k hk (λe=>hn e.symm)⟩;have k4:=(hO4.block fb (block_lt HBB.out.1.blk) HBB.out.1.rowne).trans HBB.out.1.blk;have k5:w4.cell? ⟨fb,2,none⟩=some (.slice ph H.length ch):=cellOf k4 2;have k6:=aez k4 2;have HO4:=a0z hO4;clear hr4 hg4 ho4 hO4 k4)
 all_goals
  have bwB:Below w.heap.size w B:=a2z HB.out (a2z HF2.out.2 HBB.out.2.1)
  have hxw:VOwn w4 0 x:=(HV.out.below bwB).kept HO4.out (λb hb=>HBB.out.1.hard b (.inr (.inr hb)))
  have F5:=HBB.out.1.setHeads HO4.out H4.out.1 (λy hy=>by
   rw[HMM.out,List.mem_append,List.mem_cons]at hy
   rcases hy with hy|rfl|hy
   ·exact HBB.out.1.headsAfter HO4.out y (List.mem_of_mem_take hy)
   ·exact hxw
   ·exact HBB.out.1.headsAfter HO4.out y (List.mem_of_mem_drop hy)) HLN.out
  have HFF:Hid (FMem (w4.setCell ⟨fb,2,none⟩ (.slice p4 M.length c4)) fb E sn M mv sp sc (.slice p4 M.length c4)∧Only (byz fb mv (.slice ph H.length ch)) w (w4.setCell ⟨fb,2,none⟩ (.slice p4 M.length c4))):=⟨F5.1,(Below.only bwB _).next F5.2⟩
  have HOB:Hid ((Value.slice p4 M.length c4).ownBlock=(Value.slice ph H.length ch).ownBlock∨∃g,(Value.slice p4 M.length c4).ownBlock=some g∧w.heap.size≤g):=by
   rcases H4.out.2.2 with e|e
   ·exact .inl e
   ·exact .inr ⟨_,e,bwB.size⟩
  clear bwB hxw F5
  go_end0
  refine⟨rfl,i,_,HPL.out, ?_,HFF.out.2,HOB.out⟩
  rw[← HMM.out]
  exact HFF.out.1
end Go.Proofs.YthhakekbffembaaGreatDoor.Ck.Y.L

namespace Go.Proofs.YthhakekbffembaaGreatDoor.Ck.Y.L
open Go.RowKit Go.Maps
variable {x:VC} {sn ns:List Int} {S H:List VC}
def VC.key (c:VC):KP:=(c.t,c.n)
def ltC (x y:VC):Prop:=lessB x.t x.n y.t y.n=true
structure HF (S:List VC) (sn:List Int) (H:List VC):Prop where
 seen:∀k,k<64→Vc.atOf sn k=Vc.maxAt (S.map (·.ns)) k
 rise:H.Pairwise ltC
 mem:∀x,x∈H↔x∈S∧aDz x.sq x.n sn=false
theorem jCz {y z:VC} (h:ltC x y) (k:ltC y z):ltC x z:=by
 unfold ltC at*
 rw[lessB_true]at*;omega
theorem drz (x:VC):¬ltC x x:=by
 unfold ltC
 rw[lessB_true];omega
theorem oiz {y:VC} (h:¬ltC x y) (hk:x.key≠y.key):ltC y x:=by
 unfold ltC at*
 rw[lessB_true]at*
 have:¬(x.t=y.t∧x.n=y.n):=λe=>hk (Prod.ext e.1 e.2)
 omega
theorem HF.nil:HF [] [] []:=⟨λk _=>by simp[Vc.atOf,Vc.maxAt],List.Pairwise.nil,λx=>by simp⟩
theorem iVz (k:Nat) (hk:k<64):Vc.atOf (aXz sn ns) k=max (Vc.atOf sn k) (Vc.atOf ns k):=by
 unfold aXz
 split
 ·next hl=>
  have:=(Vc.leqB_iff ns sn).1 hl k hk
  omega
 ·rw[Vc.at_max hk,Vc.maxAt_two]
theorem myz (z:Int):Vc.atZ (aXz sn ns) z=max (Vc.atZ sn z) (Vc.atZ ns z):=by
 unfold Vc.atZ
 split
 ·next hz=>exact iVz _ (by omega)
 ·rfl
theorem HF.seen_add (h:HF S sn H) (c:VC):∀k,k<64→Vc.atOf (aXz sn c.ns) k=Vc.maxAt ((S++[c]).map (·.ns)) k:=by
 intro k hk
 rw[iVz k hk,List.map_append,List.map_cons,List.map_nil,Vc.maxAt_snoc,h.seen k hk]
theorem idz {sq n:Int} (hf:aDz sq n (aXz sn ns)=false):aDz sq n sn=false:=by
 unfold aDz at*
 rw[myz]at hf
 simp only[decide_eq_false_iff_not]at*
 omega
def bYz (sn:List Int) (x:VC):Bool:= !aDz x.sq x.n sn
theorem HF.mem_add (h:HF S sn H) (c x:VC):x∈H.filter (bYz (aXz sn c.ns))↔x∈S∧aDz x.sq x.n (aXz sn c.ns)=false:=by
 rw[List.mem_filter,h.mem]
 unfold bYz
 constructor
 ·rintro⟨⟨h1,_⟩,h2⟩;exact⟨h1,by simpa using h2⟩
 ·rintro⟨h1,h2⟩;exact⟨⟨h1,idz h2⟩,by simpa using h2⟩
theorem HF.add_seen (h:HF S sn H) (c:VC) (hs:aDz c.sq c.n (aXz sn c.ns)=true):HF (S++[c]) (aXz sn c.ns) (H.filter (bYz (aXz sn c.ns))):=by
 refine⟨h.seen_add c,h.rise.filter _,λx=> ?_⟩
 rw[h.mem_add,List.mem_append,List.mem_singleton]
 constructor
 ·rintro⟨h1,h2⟩;exact⟨.inl h1,h2⟩
 ·rintro⟨h1|rfl,h2⟩
  ·exact⟨h1,h2⟩
  ·rw[hs]at h2;cases h2
theorem HF.add_new (h:HF S sn H) (c:VC) (hk:c.key∉S.map VC.key) (hs:aDz c.sq c.n (aXz sn c.ns)=false) {i:Nat}
  (hlo:∀x∈(H.filter (bYz (aXz sn c.ns))).take i,ltC x c) (hhi:∀x∈(H.filter (bYz (aXz sn c.ns))).drop i,¬ltC x c):
  HF (S++[c]) (aXz sn c.ns) ((H.filter (bYz (aXz sn c.ns))).take i++c::(H.filter (bYz (aXz sn c.ns))).drop i):=by
 have hr:(H.filter (bYz (aXz sn c.ns))).Pairwise ltC:=h.rise.filter _
 have hm:∀x,x∈(H.filter (bYz (aXz sn c.ns))).take i++(H.filter (bYz (aXz sn c.ns))).drop i↔x∈S∧aDz x.sq x.n (aXz sn c.ns)=false:=λx=>by rw[List.take_append_drop];exact h.mem_add c x
 have hr2:((H.filter (bYz (aXz sn c.ns))).take i++(H.filter (bYz (aXz sn c.ns))).drop i).Pairwise ltC:=by rw[List.take_append_drop];exact hr
 generalize (H.filter (bYz (aXz sn c.ns))).take i=A at*
 generalize (H.filter (bYz (aXz sn c.ns))).drop i=B at*
 have hp:=List.pairwise_append.1 hr2
 refine⟨h.seen_add c,List.pairwise_append.2 ⟨hp.1,List.pairwise_cons.2 ⟨λb hb=> ?_,hp.2.1⟩,λa ha b hb=> ?_⟩,λx=> ?_⟩
 ·refine oiz (hhi b hb) λe=>hk ?_
  rw[← e]
  exact List.mem_map_of_mem ((hm b).1 (List.mem_append.2 (.inr hb))).1
 ·rcases List.mem_cons.1 hb with rfl|hb
  ·exact hlo a ha
  ·exact hp.2.2 a ha b hb
 ·have e:x∈A++c::B↔x=c∨x∈A++B:=by simp[or_left_comm]
  rw[e,hm,List.mem_append,List.mem_singleton]
  constructor
  ·rintro(rfl|⟨h1,h2⟩)
   ·exact⟨.inr rfl,hs⟩
   ·exact⟨.inl h1,h2⟩
  ·rintro⟨h1|rfl,h2⟩
   ·exact .inr ⟨h1,h2⟩
   ·exact .inl rfl
theorem eiz:∀{l m:List VC},l.Pairwise ltC→m.Pairwise ltC→(∀x,x∈l↔x∈m)→l=m
 |[],[],_,_,_=>rfl
 |[],y::m,_,_,h=>by have:=(h y).2 List.mem_cons_self;simp at this
 |x::l,[],_,_,h=>by have:=(h x).1 List.mem_cons_self;simp at this
 |x::l,y::m,hl,hm,h=>by
  have h1:=List.pairwise_cons.1 hl
  have h2:=List.pairwise_cons.1 hm
  have e:x=y:=by
   rcases List.mem_cons.1 ((h x).1 List.mem_cons_self)with e|e
   ·exact e
   ·rcases List.mem_cons.1 ((h y).2 List.mem_cons_self)with e'|e'
    ·exact e'.symm
    ·exact absurd (jCz (h1.1 y e') (h2.1 x e)) (drz x)
  subst e
  rw[eiz h1.2 h2.2 λz=> ?_]
  constructor
  ·intro hz
   rcases List.mem_cons.1 ((h z).1 (List.mem_cons_of_mem _ hz))with e|e
   ·subst e;exact absurd (h1.1 z hz) (drz z)
   ·exact e
  ·intro hz
   rcases List.mem_cons.1 ((h z).2 (List.mem_cons_of_mem _ hz))with e|e
   ·subst e;exact absurd (h2.1 z hz) (drz z)
   ·exact e
def headC (S:List VC) (x:VC):Bool:=S.all λc=> !aDz x.sq x.n c.ns
theorem HF.headC (h:HF S sn H) (hq:1≤x.sq):aDz x.sq x.n sn=false↔headC S x=true:=by
 unfold L.headC aDz
 simp only[decide_eq_false_iff_not,List.all_eq_true,Bool.not_eq_true']
 unfold Vc.atZ
 by_cases hz:0≤x.n∧x.n<64
 ·simp only[hz,and_self,if_true]
  rw[h.seen _ (by omega)]
  have key':∀l:List VC,(x.sq≤Vc.maxAt (l.reverse.map (·.ns)) x.n.toNat↔∃c∈l.reverse,x.sq≤Vc.atOf c.ns x.n.toNat):=by
   intro l
   induction l with
   |nil=>simp[Vc.maxAt];omega
   |cons c l ih=>
    rw[List.reverse_cons,List.map_append,List.map_cons,List.map_nil,Vc.maxAt_snoc]
    constructor
    ·intro hm
     by_cases hc:x.sq≤Vc.atOf c.ns x.n.toNat
     ·exact⟨c,by simp,hc⟩
     ·obtain⟨d,hd,e⟩:=ih.1 (by omega)
      exact⟨d,by simp[hd],e⟩
    ·rintro⟨d,hd,e⟩
     rcases List.mem_append.1 hd with hd|hd
     ·have:=ih.2 ⟨d,hd,e⟩;omega
     ·have:d=c:=by simpa using hd
      subst this;omega
  have key:=key' S.reverse
  rw[List.reverse_reverse]at key
  rw[key]
  constructor
  ·intro hn c hc hle
   exact hn ⟨c,hc,hle⟩
  ·rintro hn ⟨c,hc,hle⟩
   exact hn c hc hle
 ·simp only[hz,if_false]
  constructor
  ·intro _ c _;omega
  ·intro _;omega
end Go.Proofs.YthhakekbffembaaGreatDoor.Ck.Y.L

namespace Go.Proofs.YthhakekbffembaaGreatDoor.Ck.Y.L
open Go.RowKit Go.Maps Go.Lib
variable {w:World} {o:OG} {ns sn:List Int} {bs:List (BitVec 8)} {fb sc:Nat} {E:List KP} {H:List VG} {mv hv:Value} {sp:Option Addr} {S:List VC}
def mayW (o:OG) (ns:List Int):Bool:=Cd.mayO o.t o.n o.sq o.kd o.ot o.on o.pt o.pn o.nm.data.toList o.dl ns
structure WIn (w:World) (o:OG) (ns:List Int) (bs:List (BitVec 8)):Prop where
 seen:Cd.Lies w o.sp (ns.map Cd.iv)
 sl:ns.length=o.sl
 sc:ns.length≤o.sc
 le:ns.length≤1000000
 data:Cd.Bytes w o.dp bs
 dl:bs.length=o.dl
 dc:bs.length≤o.dc
 bl:bs.length≤1000000
 nm:o.nm.size≤1000000
theorem WIn.below {w':World} (h:WIn w o ns bs) (hb:Below w.heap.size w w'):WIn w' o ns bs:=⟨Cd.below_lies hb h.seen,h.sl,h.sc,h.le,Cd.below_bytes hb h.data,h.dl,h.dc,h.bl,h.nm⟩
theorem dXz (h:WIn w o ns bs):Calls Tryz.prog 67 #[b2z o] w λe w'=>e=.returned (.bool (mayW o ns))∧Below w.heap.size w w':=by
 have:=Cd.omay_any o.t o.n o.sq o.kd o.ot o.on o.pt o.pn o.nm.data.toList o.dp o.sp o.dl o.dc o.sl o.sc ns w (by rw[← Lib.size_eq];have:=h.nm;omega) (by have:=h.dl;have:=h.bl;omega) h.sl h.le h.sc h.seen
 rw[Cd.bas_of]at this
 exact this
def vcOf (o:OG) (ns:List Int) (bs:List (BitVec 8)):VC:=⟨o.t,o.n,o.sq,ns,bs⟩
theorem iUz (h:WIn w o ns bs):∃A,A=w.alloc (.cells (bhz o) 33)∧Below w.heap.size w A∧A.heap[w.heap.size]? =some (.cells (bhz o) 33 (0,0))∧WIn A o ns bs:=
 ⟨_,rfl,(a3z w _).out,heap_alloc_new w _,h.below (a3z w _).out⟩
theorem npz (h:WIn w o ns bs) (hb:o.kd≠4∨mayW o ns=false):
  Calls Tryz.prog 74 #[.pointer (some ⟨fb,0,none⟩),b2z o] w λe w'=>e=.returned (.int .i64 22)∧Below w.heap.size w w':=by
 obtain⟨A,hA,bA,kA,hI⟩:=iUz h
 have c1:=dXz hI
 have HB:=a0z bA
 have HK:=a0z kA
 obtain⟨a0,a1,a2,a3,a4,a5,a6,a7,a8,a9,a10⟩:=bLz kA
 have HA:=a0z hA
 rw[hA]at a0 a1 a2 a3 a4 a5 a6 a7 a8 a9 a10
 generalize hmw:mayW o ns=m at*
 clear hmw
 obtain⟨t,n,sq,kd,ot,on,pt,pn,nm,dp,dl,dc,sp,sl,sc⟩:=o
 simp only[b2z,bhz]at*
 by_cases h4:kd=4
 ·subst h4
  have hm:m=false:=hb.elim (λe=>absurd rfl e) id
  subst hm
  clear hA bA kA hI h hb
  go_enter Tryz.func74,Tryz.ntmps74
  go_wp2_with (go_at_call 67;rw[← HA.out];refine acz c1 ?_;intro w1 HB1)
  go_ret
  exact⟨rfl,a2z HB.out HB1.out⟩
 ·have hk:¬kd=4:=h4
  clear hA bA kA hI h hb h4 c1
  go_enter Tryz.func74,Tryz.ntmps74
  go_wp2
  go_ret
  refine⟨rfl, ?_⟩
  have:=HB.out
  rw[HA.out]at this
  exact this
theorem FMem.look (h:FMem w fb E sn H mv sp sc hv) (t n:Int):
  (Instr.lookup 146 mv (idv t n) true).run Tryz.prog w=.ok (.tuple #[uv,.bool (decide ((t,n)∈E))]) w:=by
 rcases h.map with⟨rfl,rfl⟩|⟨mb,rfl,hm⟩
 ·exact look_nil t n w
 ·by_cases hq:(t,n)∈E
  ·rw[decide_eq_true hq];exact eWz hm hq
  ·rw[decide_eq_false hq];exact g5z hm hq
def FileS (F:Nat→Prop) (w:World) (fb:Nat) (S:List VC):Prop:=∃sn H mv sp sc hv,FMem w fb (S.map VC.key) sn H mv sp sc hv∧HF S sn (H.map VG.c)∧F=byz fb mv hv∧H.length≤S.length∧S.length≤800
theorem bOz (sn:List Int):∀H:List VG,(H.filter (aJz sn)).map VG.c=(H.map VG.c).filter (bYz sn)
 |[]=>rfl
 |x::H=>by
  have e:aJz sn x=bYz sn x.c:=rfl
  cases h:aJz sn x with
  |true=>rw[List.filter_cons_of_pos h,List.map_cons,List.map_cons,List.filter_cons_of_pos (by rw[← e];exact h),bOz sn H]
  |false=>rw[List.filter_cons_of_neg (by simp[h]),List.map_cons,List.filter_cons_of_neg (by rw[← e];simp[h]),bOz sn H]
theorem HF.heads (h:HF S sn (H.map VG.c)):(∀x∈H,aDz x.sq x.n sn=false)∧H.Pairwise ltV:=
 ⟨λx hx=>((h.mem x.c).1 (List.mem_map_of_mem hx)).2,by have:=h.rise;rw[List.pairwise_map]at this;exact this⟩
theorem FMem.notFoot (h:FMem w fb E sn H mv sp sc hv) {b:Nat} {cs:Array Value} {t:TypeId} (hb:w.heap[b]? =some (.cells cs t (0,0))) (h1:t≠148) (h2:t≠92):¬byz fb mv hv b:=by
 rintro(rfl|rfl|e)
 ·rw[h.blk]at hb;cases hb;exact h1 rfl
 ·rcases h.map with⟨e,_⟩|⟨mb,e,es,clock,hm,_⟩
  ·cases e
  ·cases e;rw[hm]at hb;cases hb
 ·obtain⟨cs',hc⟩:=RowV.tagged h.hrow e
  rw[hc]at hb;cases hb;exact h2 rfl
theorem j2z {w2 w3 w4 w5 w6:World} {c:VC} {mb:Nat} {sp':Option Addr} {sc':Nat} {hv':Value}
  (hS:L.HF S sn (H.map VG.c)∧H.length≤S.length∧S.length<800) (hc:c.key∉S.map VC.key) (b2:Below w.heap.size w w2) (o3:Only (byz fb mv hv) w2 w3) (m3:mv=.map (some mb)∨w.heap.size≤mb)
  (o4:Only (byz fb (.map (some mb)) hv) w3 w4) (e4:hv'.ownBlock=hv.ownBlock) (b5:Below w4.heap.size w4 w5) (hfin:(aDz c.sq c.n (aXz sn c.ns)=true∧Below w5.heap.size w5 w6∧FMem w6 fb (S.map VC.key++[c.key]) (aXz sn c.ns) (H.filter (aJz (aXz sn c.ns))) (.map (some mb)) sp' sc' hv')∨
   (aDz c.sq c.n (aXz sn c.ns)=false∧∃x:VG,x.c=c∧∃i hv6,m2z (H.filter (aJz (aXz sn c.ns))) x.t x.n i∧FMem w6 fb (S.map VC.key++[c.key]) (aXz sn c.ns) ((H.filter (aJz (aXz sn c.ns))).take i++x::(H.filter (aJz (aXz sn c.ns))).drop i) (.map (some mb)) sp' sc' hv6∧Only (byz fb (.map (some mb)) hv') w5 w6∧(hv6.ownBlock=hv'.ownBlock∨∃g,hv6.ownBlock=some g∧w5.heap.size≤g))):
  ∃F',FileS F' w6 fb (S++[c])∧(∀b,F' b→byz fb mv hv b∨w.heap.size≤b)∧Only (byz fb mv hv) w w6:=by
 have s3:=b2.size
 have s4:=Nat.le_trans s3 o3.size
 have s5:=Nat.le_trans s4 o4.size
 have foot:∀v:Value,v.ownBlock=hv.ownBlock→∀b,byz fb (.map (some mb)) v b→byz fb mv hv b∨w.heap.size≤b:=by
  rintro v hv b (rfl|e|e)
  ·exact .inl (.inl rfl)
  ·cases e
   rcases m3 with m3|m3
   ·exact .inl (.inr (.inl m3))
   ·exact .inr m3
  ·exact .inl (.inr (.inr (by rw[← hv];exact e)))
 have o24:Only (byz fb mv hv) w w4:=((Below.only b2 _).next o3).trans o4 λb hb=>foot hv rfl b hb
 have o25:Only (byz fb mv hv) w w5:=o24.next (Below.only b5 _)
 have hlen:(S++[c]).length≤800:=by rw[List.length_append];have:=hS.2.2;simp;omega
 have hmap:(S++[c]).map VC.key=S.map VC.key++[c.key]:=by simp
 have hfl:(H.filter (aJz (aXz sn c.ns))).length≤S.length:=Nat.le_trans (List.length_filter_le _ _) hS.2.1
 rcases hfin with⟨hs,b6,f6⟩|⟨hs,x,hx,i,hv6,hp,f6,o6,e6⟩
 ·refine⟨byz fb (.map (some mb)) hv',⟨aXz sn c.ns,H.filter (aJz (aXz sn c.ns)),.map (some mb),sp',sc',hv', ?_, ?_,rfl, ?_,hlen⟩,foot hv' e4,o25.next (Below.only b6 _)⟩
  ·rw[hmap];exact f6
  ·rw[bOz];exact hS.1.add_seen c hs
  ·rw[List.length_append];omega
 ·subst hx
  refine⟨byz fb (.map (some mb)) hv6,⟨aXz sn x.c.ns,(H.filter (aJz (aXz sn x.c.ns))).take i++x::(H.filter (aJz (aXz sn x.c.ns))).drop i,.map (some mb),sp',sc',hv6, ?_, ?_,rfl, ?_,hlen⟩, ?_, ?_⟩
  ·rw[hmap];exact f6
  ·rw[List.map_append,List.map_take,List.map_cons,List.map_drop,bOz]
   refine hS.1.add_new x.c hc hs (λy hy=> ?_) (λy hy=> ?_)
   ·rw[← bOz,← List.map_take,List.mem_map]at hy
    obtain⟨z,hz,rfl⟩:=hy
    obtain⟨k,hk,e⟩:=List.getElem_of_mem hz
    rw[List.length_take]at hk
    exact hp.lo k z (by omega) (by rw[List.getElem?_eq_getElem (by omega),← e,List.getElem_take])
   ·rw[← bOz,← List.map_drop,List.mem_map]at hy
    obtain⟨z,hz,rfl⟩:=hy
    obtain⟨k,hk,e⟩:=List.getElem_of_mem hz
    rw[List.length_drop]at hk
    exact hp.hi (i+k) z (by omega) (by rw[List.getElem?_eq_getElem (by omega),← e,List.getElem_drop])
  ·have:=hp.le
   rw[List.length_append,List.length_append,List.length_cons,List.length_take,List.length_drop]
   simp only[List.length_cons,List.length_nil]
   omega
  ·rintro b (rfl|e|e)
   ·exact .inl (.inl rfl)
   ·exact foot hv rfl b (.inr (.inl e))
   ·rcases e6 with e6|⟨g,e6,hg⟩
    ·rw[e6,e4]at e;exact .inl (.inr (.inr e))
    ·rw[e6]at e;cases e
     have:=b5.size
     exact .inr (by omega)
  ·exact o25.trans o6 λb hb=>foot hv' e4 b hb
theorem jyz (h:FMem w fb E sn H mv sp sc hv) (t n sq:Int) (ns:List Int) (p1 p2:Option Addr) (c1 c2 nl bl:Nat) (bs:List (BitVec 8)) (hn:ns.length=nl∧bs.length=bl) (hs:aDz sq n sn=true):
  Calls Tryz.prog 115 #[.pointer (some ⟨fb,0,none⟩),.agg #[.int .i64 t,.int .i64 n,.int .i64 sq,.slice p1 nl c1,.slice p2 bl c2]] w λe w'=>e=.returned (.tuple #[])∧Below w.heap.size w w':=by
 obtain⟨rfl,rfl⟩:=hn
 exact l7z h ⟨t,n,sq,ns,p1,c1,bs,p2,c2⟩ hs
theorem lsz (h:FMem w fb E sn H mv sp sc hv) (t n sq:Int) (ns:List Int) (p1 p2:Option Addr) (c1 c2 nl bl:Nat) (bs:List (BitVec 8)) (hn:ns.length=nl∧bs.length=bl) (hx:VOwn w 0 ⟨t,n,sq,ns,p1,c1,bs,p2,c2⟩) (hs:aDz sq n sn=false) (hr:H.Pairwise ltV) (hl:H.length<900):
  Calls Tryz.prog 115 #[.pointer (some ⟨fb,0,none⟩),.agg #[.int .i64 t,.int .i64 n,.int .i64 sq,.slice p1 nl c1,.slice p2 bl c2]] w λe w'=>e=.returned (.tuple #[])∧∃i hv',m2z H t n i∧FMem w' fb E sn (H.take i++⟨t,n,sq,ns,p1,c1,bs,p2,c2⟩::H.drop i) mv sp sc hv'∧Only (byz fb mv hv) w w'∧(hv'.ownBlock=hv.ownBlock∨∃g,hv'.ownBlock=some g∧w.heap.size≤g):=by
 obtain⟨rfl,rfl⟩:=hn
 exact mrz h ⟨t,n,sq,ns,p1,c1,bs,p2,c2⟩ hx hs hr hl
theorem HF.staying (h:L.HF S sn (H.map VG.c)) (sn':List Int):(H.filter (aJz sn')).Pairwise ltV:=h.heads.2.filter _
end Go.Proofs.YthhakekbffembaaGreatDoor.Ck.Y.L

namespace Go.Proofs.YthhakekbffembaaGreatDoor.Ck.Y.L
open Go.RowKit Go.Maps Go.Lib
theorem f5z {w:World} {g:Nat} {T:TypeId} {fr:Nat×Nat} {a0 a1 a2 a3 a4 a5 a6 a7 a8 a9 a10:Value} (h:w.heap[g]? =some (.cells #[a0,a1,a2,a3,a4,a5,a6,a7,a8,a9,a10] T fr)):
  w.cell? ⟨g,0,none⟩=some a0∧w.cell? ⟨g,1,none⟩=some a1∧w.cell? ⟨g,2,none⟩=some a2∧w.cell? ⟨g,3,none⟩=some a3∧w.cell? ⟨g,4,none⟩=some a4∧w.cell? ⟨g,5,none⟩=some a5∧w.cell? ⟨g,6,none⟩=some a6∧w.cell? ⟨g,7,none⟩=some a7∧w.cell? ⟨g,8,none⟩=some a8∧w.cell? ⟨g,9,none⟩=some a9∧w.cell? ⟨g,10,none⟩=some a10:=
 ⟨cellOf h 0,cellOf h 1,cellOf h 2,cellOf h 3,cellOf h 4,cellOf h 5,cellOf h 6,cellOf h 7,cellOf h 8,cellOf h 9,cellOf h 10⟩
theorem j8z {w:World} {fb mb:Nat} {mv hv:Value} (m3:mv=.map (some mb)∨w.heap.size≤mb) {b:Nat} (hb:byz fb (.map (some mb)) hv b):byz fb mv hv b∨w.heap.size≤b:=by
 rcases hb with rfl|e|e
 ·exact .inl (.inl rfl)
 ·cases e
  rcases m3 with m3|m3
  ·exact .inl (.inr (.inl m3))
  ·exact .inr m3
 ·exact .inl (.inr (.inr e))
theorem add_new {w:World} {fb:Nat} {S:List VC} {F:Nat→Prop} (hf:FileS F w fb S) {o:OG} {ns:List Int} {bs:List (BitVec 8)} (h:WIn w o ns bs) (hk:o.kd=4) (hm:mayW o ns=true) (hq:(o.t,o.n)∉S.map VC.key) (hl:S.length<800) (hkp:∀W,Only F w W→WIn W o ns bs):
  Calls Tryz.prog 74 #[.pointer (some ⟨fb,0,none⟩),b2z o] w λe w'=>e=.returned (.int .i64 0)∧∃F',FileS F' w' fb (S++[vcOf o ns bs])∧(∀b,F' b→F b∨w.heap.size≤b)∧Only F w w':=by
 obtain⟨sn,H,mv,sp,sc,hv,hfm,hhf,rfl,hlen,_⟩:=hf
 obtain⟨y,hy⟩:∃y,aDz o.sq o.n (aXz sn ns)=y:=⟨_,rfl⟩
 have HSB:=a0z hy
 clear hy
 obtain⟨A,hA,bA,kA,hI⟩:=iUz h
 have c1:=dXz hI
 rw[hm]at c1
 have HB:=a0z bA
 have HK:=a0z kA
 have HW:=a0z hI
 have HF:Hid (FMem A fb (S.map VC.key) sn H mv sp sc hv∧(o.t,o.n)∉S.map VC.key):=⟨hfm.below bA,hq⟩
 have HH:=a0z (agz hhf (agz hlen hl))
 obtain⟨a0,a1,a2,a3,a4,a5,a6,a7,a8,a9,a10⟩:=bLz kA
 have HA:=a0z hA
 have HKP:=a0z hkp
 have HSL:Hid (ns.length=o.sl∧bs.length=o.dl):=⟨h.sl,h.dl⟩
 have HVC:Hid (vcOf o ns bs=⟨o.t,o.n,o.sq,ns,bs⟩):=rfl
 rw[hA]at a0 a1 a2 a3 a4 a5 a6 a7 a8 a9 a10
 generalize hc:vcOf o ns bs=c at*
 clear hA bA kA hI h hm hfm hhf hq hlen hl hc hkp
 obtain⟨t,n,sq,kd,ot,on,pt,pn,nm,dp,dl,dc,sp0,sl,sc0⟩:=o
 simp only[b2z,bhz]at*
 subst hk
 go_enter Tryz.func74,Tryz.ntmps74
 go_wp2_with (go_at_call 67;rw[← HA.out];refine acz c1 ?_;intro w1 HB1;clear c1 a0 a1 a2 a3 a4 a5 a6 a7 a8 a9 a10)
 have k1:=(HB1.out.block _ (block_lt HK.out)).trans HK.out
 have F1:=HF.out.1.below HB1.out
 have b0:w1.cell? ⟨w.heap.size,0,none⟩=some (.int .i64 t):=cellOf k1 0
 have b1:w1.cell? ⟨w.heap.size,1,none⟩=some (.int .i64 n):=cellOf k1 1
 have f0:w1.cell? ⟨fb,0,none⟩=some mv:=cellOf F1.blk 0
 have l1:fb<w1.heap.size:=block_lt F1.blk
 have l2:w.heap.size<w1.heap.size:=a4z b0
 have k2:=(F1.below (a6z w1)).look t n
 have k3:=(F1.below (a2z (a3z w1 (.cells #[] 162)).out (a6z _))).look t n
 rw[decide_eq_false HF.out.2]at k2 k3
 obtain⟨w2,hw2⟩:∃w2,w2=(w1.alloc (.cells #[] 162)).drew:=⟨_,rfl⟩
 have b2:Below w1.heap.size w1 w2:=by rw[hw2];exact a2z (a3z w1 (.cells #[] 162)).out (a6z _)
 have HW2:Hid (w2=(w1.alloc (.cells #[] 162)).drew∧Below A.heap.size A w2):=⟨hw2,a2z HB1.out b2⟩
 clear F1 k1 hw2 b2
 go_region
 all_goals
  rw[← HW2.out.1]
  clear k2 k3 b0 b1 f0 l1 l2
  have k1:=(HW2.out.2.block _ (block_lt HK.out)).trans HK.out
  have b0:w2.cell? ⟨w.heap.size,0,none⟩=some (.int .i64 t):=cellOf k1 0
  have b1:w2.cell? ⟨w.heap.size,1,none⟩=some (.int .i64 n):=cellOf k1 1
  clear k1
  cases y with
  |true=>
   go_wp2_with (first|(go_at_call 113;refine(hrz (HF.out.1.below HW2.out.2) HF.out.2).mono ?_;rintro e w3 ⟨rfl,mb,hf3,ho3,hmb⟩;have HM3:Hid (FMem w3 fb (S.map VC.key++[(t,n)]) sn H (.map (some mb)) sp sc hv∧Only (byz fb mv hv) w2 w3∧(mv=.map (some mb)∨w.heap.size≤mb)):=⟨hf3,ho3,hmb.imp id λe=>Nat.le_trans (a2z HB.out HW2.out.2).size e⟩;have k3:=(ho3.block _ (block_lt ((HW2.out.2.block _ (block_lt HK.out)).trans HK.out)) ((HF.out.1.below HW2.out.2).notFoot ((HW2.out.2.block _ (block_lt HK.out)).trans HK.out) (by decide) (by decide))).trans ((HW2.out.2.block _ (block_lt HK.out)).trans HK.out);have HK3:=a0z k3;have HO3:Hid (Only (byz fb mv hv) w w3):=(Below.only (a2z HB.out HW2.out.2) _).next ho3;have j10:w3.cell? ⟨w.heap.size,10,none⟩=some (.slice sp0 sl sc0):=cellOf k3 10;clear k3 hf3 ho3 hmb b0 b1)|(go_at_call 114;refine(jpz HM3.out.1 HH.out.1.heads.1 sp0 ns sl sc0 HSL.out.1 (HKP.out _ HO3.out).seen).mono ?_;rintro e w4 ⟨rfl,sp4,sc4,hv4,hf4,ho4,he4⟩;have HM4:=a0z (agz hf4 (agz ho4 he4));have k4:=(ho4.block _ (block_lt HK3.out) (HM3.out.1.notFoot HK3.out (by decide) (by decide))).trans HK3.out;have HW4:Hid (WIn w4 _ ns bs):=HKP.out w4 (HO3.out.trans ho4 λb hb=>j8z HM3.out.2.2 hb);have⟨d0,d1,d2,d3,d4,d5,d6,d7,d8,d9,d10⟩:=f5z k4;clear k4 hf4 ho4 he4 j10)|(go_at_call 116;refine(nyz t n sq 4 ot on pt pn nm ns sp0 sc0 sl bs dp dc dl w4 HSL.out.1 HSL.out.2 HW4.out.seen HW4.out.le HW4.out.data HW4.out.bl).mono ?_;rintro e w5 ⟨p1,c1,p2,c2,rfl,hx5,hb5⟩;have HX5:Hid (VOwn w5 0 ⟨t,n,sq,ns,p1,c1,bs,p2,c2⟩∧Below w4.heap.size w4 w5∧FMem w5 fb (S.map VC.key++[(t,n)]) (aXz sn ns) (H.filter (aJz (aXz sn ns))) (.map (some mb)) sp4 sc4 hv4):=⟨hx5.base (Nat.zero_le _),hb5,HM4.out.1.below hb5⟩;clear hx5 hb5 d0 d1 d2 d3 d4 d5 d6 d7 d8 d9 d10)|(go_at_call 115;refine(jyz HX5.out.2.2 t n sq ns p1 p2 c1 c2 sl dl bs HSL.out HSB.out).mono ?_;rintro e w6 ⟨rfl,hb6⟩;have HB6:=a0z hb6;clear hb6))
   go_ret
   refine⟨rfl, ?_⟩
   exact j2z HH.out (by rw[HVC.out];exact HF.out.2) (a2z HB.out HW2.out.2) HM3.out.2.1 HM3.out.2.2 HM4.out.2.1 HM4.out.2.2 HX5.out.2.1 (.inl (by rw[HVC.out];exact⟨HSB.out,HB6.out,HX5.out.2.2.below HB6.out⟩))
  |false=>
   go_wp2_with (first|(go_at_call 113;refine(hrz (HF.out.1.below HW2.out.2) HF.out.2).mono ?_;rintro e w3 ⟨rfl,mb,hf3,ho3,hmb⟩;have HM3:Hid (FMem w3 fb (S.map VC.key++[(t,n)]) sn H (.map (some mb)) sp sc hv∧Only (byz fb mv hv) w2 w3∧(mv=.map (some mb)∨w.heap.size≤mb)):=⟨hf3,ho3,hmb.imp id λe=>Nat.le_trans (a2z HB.out HW2.out.2).size e⟩;have k3:=(ho3.block _ (block_lt ((HW2.out.2.block _ (block_lt HK.out)).trans HK.out)) ((HF.out.1.below HW2.out.2).notFoot ((HW2.out.2.block _ (block_lt HK.out)).trans HK.out) (by decide) (by decide))).trans ((HW2.out.2.block _ (block_lt HK.out)).trans HK.out);have HK3:=a0z k3;have HO3:Hid (Only (byz fb mv hv) w w3):=(Below.only (a2z HB.out HW2.out.2) _).next ho3;have j10:w3.cell? ⟨w.heap.size,10,none⟩=some (.slice sp0 sl sc0):=cellOf k3 10;clear k3 hf3 ho3 hmb b0 b1)|(go_at_call 114;refine(jpz HM3.out.1 HH.out.1.heads.1 sp0 ns sl sc0 HSL.out.1 (HKP.out _ HO3.out).seen).mono ?_;rintro e w4 ⟨rfl,sp4,sc4,hv4,hf4,ho4,he4⟩;have HM4:=a0z (agz hf4 (agz ho4 he4));have k4:=(ho4.block _ (block_lt HK3.out) (HM3.out.1.notFoot HK3.out (by decide) (by decide))).trans HK3.out;have HW4:Hid (WIn w4 _ ns bs):=HKP.out w4 (HO3.out.trans ho4 λb hb=>j8z HM3.out.2.2 hb);have⟨d0,d1,d2,d3,d4,d5,d6,d7,d8,d9,d10⟩:=f5z k4;clear k4 hf4 ho4 he4 j10)|(go_at_call 116;refine(nyz t n sq 4 ot on pt pn nm ns sp0 sc0 sl bs dp dc dl w4 HSL.out.1 HSL.out.2 HW4.out.seen HW4.out.le HW4.out.data HW4.out.bl).mono ?_;rintro e w5 ⟨p1,c1,p2,c2,rfl,hx5,hb5⟩;have HX5:Hid (VOwn w5 0 ⟨t,n,sq,ns,p1,c1,bs,p2,c2⟩∧Below w4.heap.size w4 w5∧FMem w5 fb (S.map VC.key++[(t,n)]) (aXz sn ns) (H.filter (aJz (aXz sn ns))) (.map (some mb)) sp4 sc4 hv4):=⟨hx5.base (Nat.zero_le _),hb5,HM4.out.1.below hb5⟩;clear hx5 hb5 d0 d1 d2 d3 d4 d5 d6 d7 d8 d9 d10)|(go_at_call 115;refine(lsz HX5.out.2.2 t n sq ns p1 p2 c1 c2 sl dl bs HSL.out HX5.out.1 HSB.out (L.HF.staying HH.out.1 _) (Nat.lt_of_le_of_lt (List.length_filter_le _ _) (by have:=HH.out.2;omega))).mono ?_;rintro e w6 ⟨rfl,h6⟩;have HB6:=(show Hid _ from h6);clear h6))
   go_ret
   refine⟨rfl, ?_⟩
   exact j2z HH.out (by rw[HVC.out];exact HF.out.2) (a2z HB.out HW2.out.2) HM3.out.2.1 HM3.out.2.2 HM4.out.2.1 HM4.out.2.2 HX5.out.2.1 (.inr (by rw[HVC.out];exact⟨HSB.out,⟨t,n,sq,ns,p1,c1,bs,p2,c2⟩,rfl,HB6.out⟩))
end Go.Proofs.YthhakekbffembaaGreatDoor.Ck.Y.L

namespace Go.Proofs.YthhakekbffembaaGreatDoor.Ck.Y.L
open Go.RowKit Go.Maps Go.Lib
variable {w:World} {fb sc:Nat} {E:List KP} {sn:List Int} {mv hv:Value} {sp:Option Addr} {H:List VG}
theorem new_any (w:World):Calls Tryz.prog 73 #[] w λe w'=>e=.returned (.pointer (some ⟨w.heap.size,0,none⟩))∧Below w.heap.size w w'∧FileS (λb=>b=w.heap.size) w' w.heap.size []:=by
 have H:Hid (FileS (λb=>b=w.heap.size) (w.alloc (.cells #[.map none,.slice none 0 0,.slice none 0 0] 148)) w.heap.size []):=by
  refine⟨[],[],.map none,none,0,.slice none 0 0,⟨heap_alloc_new w _,World.ownsRow_nil _ _ _ _,by simp,.inl ⟨rfl,rfl⟩,RowV.nil _ _,λx hx=>by simp at hx,by simp⟩,HF.nil, ?_,by simp,by simp⟩
  funext b
  apply propext
  constructor
  ·rintro rfl;exact .inl rfl
  ·rintro(rfl|e|e)
   ·rfl
   ·cases e
   ·cases e
 go_enter Tryz.func73,Tryz.ntmps73
 go_wp2
 go_ret
 exact⟨rfl,(a3z w _).out,H.out⟩
theorem fCz (h:FMem w fb E sn [] mv sp sc hv):Calls Tryz.prog 95 #[.pointer (some ⟨fb,0,none⟩)] w λe w'=>e=.returned (.agg #[.int .i64 0,.int .i64 0,.int .i64 0,.slice none 0 0,.slice none 0 0])∧Below w.heap.size w w':=by
 obtain⟨p,c,rfl,_⟩:=h.hrow.shape
 have f2:=cellOf h.blk 2
 obtain⟨A,hA⟩:∃A,A=w.alloc (.cells #[.int .i64 0,.int .i64 0,.int .i64 0,.slice none 0 0,.slice none 0 0] 92):=⟨_,rfl⟩
 have hB:Below w.heap.size w A:=by rw[hA];exact(a3z w _).out
 have kA:A.heap[w.heap.size]? =some (.cells #[.int .i64 0,.int .i64 0,.int .i64 0,.slice none 0 0,.slice none 0 0] 92 (0,0)):=by rw[hA];exact heap_alloc_new w _
 have F2:A.cell? ⟨fb,2,none⟩=some (.slice p 0 c):=a5z f2 hB
 have hO:=set5_only A w.heap.size (.int .i64 0) (.int .i64 0) (.int .i64 0) (.slice none 0 0) (.slice none 0 0)
 have hc:=djz kA (.int .i64 0) (.int .i64 0) (.int .i64 0) (.slice none 0 0) (.slice none 0 0)
 have HA:=a0z hA
 have HB:=a0z hB
 rw[hA]at F2
 clear h f2 hB kA hA hO hc
 go_enter Tryz.func95,Tryz.ntmps95
 go_wp2
 refine bodyPost_ret (v:=.agg #[.int .i64 0,.int .i64 0,.int .i64 0,.slice none 0 0,.slice none 0 0]) (by simp[results,Tryz.results95,go_sem]) rfl ?_
 exact⟨rfl,(a3z w _).out⟩
theorem fVz (h:FMem w fb E sn H mv sp sc hv) {k:Nat} {x:VG} (hk:H.length=k+1) (hx:H[k]? =some x):Calls Tryz.prog 95 #[.pointer (some ⟨fb,0,none⟩)] w λe w'=>e=.returned (vgv x)∧Below w.heap.size w w':=by
 obtain⟨p,c,rfl,hc⟩:=h.hrow.caps
 obtain⟨g,rfl,d0,d1,d2,d3,d4⟩:=hc k x hx
 have hl:k≤900:=by have:=h.hl;omega
 have f2:=cellOf h.blk 2
 rw[hk]at f2
 obtain⟨A,hA⟩:∃A,A=w.alloc (.cells #[.int .i64 0,.int .i64 0,.int .i64 0,.slice none 0 0,.slice none 0 0] 92):=⟨_,rfl⟩
 have hB:Below w.heap.size w A:=by rw[hA];exact(a3z w _).out
 have F2:A.cell? ⟨fb,2,none⟩=some (.slice (some ⟨g,0,none⟩) (k+1) c):=a5z f2 hB
 have e0:=a5z d0 hB
 have e1:=a5z d1 hB
 have e2:=a5z d2 hB
 have e3:=a5z d3 hB
 have e4:=a5z d4 hB
 have l1:fb<w.heap.size:=block_lt h.blk
 have l2:g<w.heap.size:=a4z d0
 have HA:=a0z hA
 have HB:=a0z hB
 rw[hA]at F2 e0 e1 e2 e3 e4
 have hne:¬((k:Int)+1=0):=by omega
 have hk1:(k:Int)+1-1=k:=by omega
 clear h f2 hB hA hc hx hk d0 d1 d2 d3 d4
 obtain⟨t,n,sq,ns,sp0,sc0,bs,dp,dc⟩:=x
 simp only[vgv,vgC]at*
 generalize ns.length=nl at*
 generalize bs.length=bl at*
 go_enter Tryz.func95,Tryz.ntmps95
 go_wp2
 go_region
 go_wp2
 refine bodyPost_ret (v:=.agg #[.int .i64 t,.int .i64 n,.int .i64 sq,.slice sp0 nl sc0,.slice dp bl dc]) (by simp[results,Tryz.results95,go_sem]) rfl ?_
 exact⟨rfl,a2z (a3z w _).out (a6z _)⟩
theorem kez (a b c:Int) (p q:Option Addr) (n m k l:Nat) (w:World):(Instr.field 92 (.agg #[.int .i64 a,.int .i64 b,.int .i64 c,.slice p n m,.slice q k l]) 3).run Tryz.prog w=.ok (.slice q k l) w:=by
 simp[Instr.field,run_underlying Tryz.underlying92,go_sem,asAgg]
def flz (H:List VG):List (BitVec 8):=match H.getLast? with
 |none=>[]
 |some x=>x.bs
theorem last_at {k:Nat} {x:VG} (hk:H.length=k+1) (hx:H[k]? =some x):flz H=x.bs:=by
 unfold flz
 rw[List.getLast?_eq_getElem?,hk,Nat.add_sub_cancel,hx]
theorem kvz (h:FMem w fb E sn H mv sp sc hv):
  Calls Tryz.prog 54 #[.pointer (some ⟨fb,0,none⟩)] w λe w'=>∃v,e=.returned v∧w'.ownsRow w.heap.size 5 1 v (flz H).length ((flz H).map Cd.u8v)∧Below w.heap.size w w':=by
 cases hl:H.length with
 |zero=>
  have:H=[]:=List.eq_nil_of_length_eq_zero hl
  subst this
  have c1:=fCz h
  have HC:Hid (∀W,Calls Tryz.prog 94 #[.slice none 0 0] W λe w'=>∃v,e=.returned v∧Cd.Cloned W [] v w'):=λW=>Cd.clone_any none [] 0 W (by simp) (Cd.bytes_nil _ _)
  clear h hl
  have f3:=kez
  go_enter Tryz.func54,Tryz.ntmps54
  go_wp2_with (first
   |(go_at_call 95;refine acz c1 ?_;clear c1;intro w1 HB1)
   |(go_at_call 94;refine(HC.out _).mono ?_;clear HC;rintro e w2 ⟨v2,rfl,hc2⟩;have H2:=a0z hc2;clear hc2))
  go_ret
  refine⟨_,rfl, ?_,a2z HB1.out H2.out.2⟩
  exact Vc.own_base H2.out.1 HB1.out.size
 |succ k=>
  obtain⟨x,hx⟩:∃x,H[k]? =some x:=⟨_,List.getElem?_eq_getElem (by omega)⟩
  have c1:=fVz h hl hx
  rw[last_at hl hx]
  have hv:=(h.hown x (List.mem_of_getElem? hx)).comes
  have HC:Hid (∀W,Below w.heap.size w W→Calls Tryz.prog 94 #[.slice x.dp x.bs.length x.dc] W λe w'=>∃v,e=.returned v∧Cd.Cloned W x.bs v w'):=λW hW=>Cd.clone_any x.dp x.bs x.dc W (by have:=hv.bl;omega) (Cd.below_bytes hW hv.data)
  clear h hl hx hv
  obtain⟨t,n,sq,ns,sp0,sc0,bs,dp,dc⟩:=x
  simp only[vgv,vgC]at*
  generalize ns.length=nl at*
  have f3:=kez
  go_enter Tryz.func54,Tryz.ntmps54
  go_wp2_with (first
   |(go_at_call 95;refine acz c1 ?_;clear c1;intro w1 HB1)
   |(go_at_call 94;refine(HC.out _ HB1.out).mono ?_;clear HC;rintro e w2 ⟨v2,rfl,hc2⟩;have H2:=a0z hc2;clear hc2))
  go_ret
  refine⟨_,rfl, ?_,a2z HB1.out H2.out.2⟩
  exact Vc.own_base H2.out.1 HB1.out.size
theorem lvz (h:FMem w fb E sn H mv sp sc hv):
  Calls Tryz.prog 55 #[.pointer (some ⟨fb,0,none⟩)] w λe w'=>e=.returned (.int .i64 ((flz H).length:Nat))∧Below w.heap.size w w':=by
 cases hl:H.length with
 |zero=>
  have:H=[]:=List.eq_nil_of_length_eq_zero hl
  subst this
  have c1:=fCz h
  clear h hl
  have f3:=kez
  go_enter Tryz.func55,Tryz.ntmps55
  go_wp2_with (go_at_call 95;refine acz c1 ?_;clear c1;intro w1 HB1)
  go_ret
  exact⟨rfl,HB1.out⟩
 |succ k=>
  obtain⟨x,hx⟩:∃x,H[k]? =some x:=⟨_,List.getElem?_eq_getElem (by omega)⟩
  have c1:=fVz h hl hx
  rw[last_at hl hx]
  clear h hl hx
  obtain⟨t,n,sq,ns,sp0,sc0,bs,dp,dc⟩:=x
  simp only[vgv,vgC]at*
  generalize ns.length=nl at*
  generalize bs.length=bl at*
  have f3:=kez
  go_enter Tryz.func55,Tryz.ntmps55
  go_wp2_with (go_at_call 95;refine acz c1 ?_;clear c1;intro w1 HB1)
  go_ret
  exact⟨rfl,HB1.out⟩
end Go.Proofs.YthhakekbffembaaGreatDoor.Ck.Y.L

namespace Go.Proofs.YthhakekbffembaaGreatDoor.Ck.Y.L
open Go.RowKit Go.Maps Go.Lib
def HdsI (w wr:World) (v:Value) (H M:List VG) (i:Nat):Prop:=RowV wr w.heap.size v M∧M.map VG.c=(H.take i).map VG.c∧(∀y∈M,VOwn wr w.heap.size y)∧Below w.heap.size w wr
theorem HdsI.step {w wr w2 w3:World} {v:Value} {H M:List VG} {i:Nat} (h:HdsI w wr v H M i) {x y:VG} (hx:H[i]? =some x) (hc:y.c=x.c) (b2:Below wr.heap.size wr w2) (hy:VOwn w2 w.heap.size y) {p:Option Addr} {c:Nat}
  (ha:RowV w3 w.heap.size (.slice p (M.length+1) c) (M++[y])∧(w2.alloc (.cells (vgC y) 92)).grownBy w3 v.ownBlock∧((Value.slice p (M.length+1) c).ownBlock=v.ownBlock∨(Value.slice p (M.length+1) c).ownBlock=some (w2.alloc (.cells (vgC y) 92)).heap.size)):
  HdsI w w3 (.slice p (M.length+1) c) H (M++[y]) (i+1):=by
 obtain⟨h1,h2,h3,h4⟩:=h
 obtain⟨a1,a2,a3⟩:=ha
 have b3:Below w2.heap.size w2 (w2.alloc (.cells (vgC y) 92)):=(a3z _ _).out
 have hO:Only (λb=>v.ownBlock=some b) (w2.alloc (.cells (vgC y) 92)) w3:=⟨a2.os,a2.tape,a2.output,a2.size,λk hk hn=>a2.block k hk (λe=>hn e.symm)⟩
 have hr2:=(h1.below b2).below b3
 have hard:Hard (w2.alloc (.cells (vgC y) 92)) (λb=>v.ownBlock=some b):=by
  intro b hb cs t ht
  obtain⟨cs',hc',_⟩:=hr2.tag hb
  rw[hc']at ht;cases ht;decide
 refine⟨a1, ?_,λz hz=> ?_, ?_⟩
 ·rw[List.map_append,h2,List.take_add_one,hx,List.map_append]
  simp[hc]
 ·rcases List.mem_append.1 hz with hz|hz
  ·exact(((h3 z hz).below b2).below b3).kept hO hard
  ·have:z=y:=by simpa using hz
   subst this
   exact(hy.below b3).kept hO hard
 ·have s2:=a2z h4 (a2z b2 b3)
  refine s2.trans (hO.below s2.size λb hb=> ?_)
  obtain⟨_,_,hbase⟩:=hr2.tag hb
  exact hbase
theorem kfz {w:World} {fb:Nat} {E:List KP} {sn:List Int} {H:List VG} {mv:Value} {sp:Option Addr} {sc:Nat} {hv:Value} (h:FMem w fb E sn H mv sp sc hv):
  Calls Tryz.prog 56 #[.pointer (some ⟨fb,0,none⟩)] w λe w'=>∃v M,e=.returned v∧RowV w' w.heap.size v M∧M.map VG.c=H.map VG.c∧(∀y∈M,VOwn w' w.heap.size y)∧Below w.heap.size w w':=by
 obtain⟨ph,ch,rfl,_⟩:=h.hrow.shape
 have f2:w.cell? ⟨fb,2,none⟩=some (.slice ph H.length ch):=cellOf h.blk 2
 have HF:=a0z h
 have HL:Hid (H.length≤900):=h.hl
 have HI0:Hid (HdsI w w (.slice none 0 0) H [] 0):=⟨RowV.nil _ _,by simp,λy hy=>by simp at hy,Below.refl _ _⟩
 clear h
 go_enter Tryz.func56,Tryz.ntmps56
 go_wp2
 go_loopw [3,13] (λll ii wr=>∃(i:Nat) (M:List VG) (p:Option Addr) (c:Nat),ll=.slice p M.length c∧ii=.int .i64 i∧i≤H.length∧Hid (M.length=i)∧Hid (HdsI w wr (.slice p M.length c) H M i)) (λ_ ii _=>H.length-(RowKit.intOf ii).toNat)
 case atStart=>exact⟨0,[],none,0,rfl,rfl,by omega,rfl,HI0⟩
 case round=>
  obtain⟨i,M,p,c,rfl,rfl,hi,HM,HI⟩:=hrel
  by_cases hlt:i<H.length
  ·have hltI:(i:Int)<H.length:=by omega
   obtain⟨x,hx⟩:∃x,H[i]? =some x:=⟨_,List.getElem?_eq_getElem hlt⟩
   obtain⟨p',c',e',hc⟩:=(HF.out.hrow.below HI.out.2.2.2).caps
   cases e'
   obtain⟨g,rfl,d0,d1,d2,d3,d4⟩:=hc i x hx
   have hv:=((HF.out.hown x (List.mem_of_getElem? hx)).below HI.out.2.2.2).comes
   have HX:=a0z hx
   have HLT:=a0z hlt
   have hi9:i≤900:=by have:=HL.out;omega
   have HCP:Hid (∀W,Below wr.heap.size wr W→Calls Tryz.prog 96 #[vgv x] W λe w'=>∃y:VG,e=.returned (vgv y)∧y.c=x.c∧VOwn w' W.heap.size y∧Below W.heap.size W w'):=λW hW=>luz x W (hv.below hW)
   clear hc hx hv
   simp only[vgv,vgC]at HCP
   go_wp2_with (first
    |(go_at_call 96;refine(HCP.out _ ((a3z wr _).out)).mono ?_;clear HCP;rintro e w2 ⟨y,rfl,hyc,hyo,hyb⟩;have H2:Hid (y.c=x.c∧VOwn w2 w.heap.size y∧Below wr.heap.size wr w2):=⟨hyc,hyo.base (Nat.le_trans HI.out.2.2.2.size (by simp)),a2z (a3z wr _).out hyb⟩;clear hyc hyo hyb d0 d1 d2 d3 d4)
    |(at_builtin;refine hCz rfl _ _ rfl w.heap.size _ M y rfl w2.heap.size rfl ⟨(HI.out.1.below H2.out.2.2).below (a3z _ _).out,heap_alloc_new w2 _,by have:=HM.out;have:=HL.out;omega,by have:=HI.out.2.2.2.size;have:=H2.out.2.2.size;simp;omega⟩ ?_;intro p4 c4 w3 H4))
   go_roundw
   case rel=>
    refine⟨i+1,M++[y],p4,c4, ?_,by go_num,HLT.out, ?_, ?_⟩
    ·rw[List.length_append];rfl
    ·show(M++[y]).length=i+1
     rw[List.length_append,HM.out];rfl
    ·have:=HI.out.step HX.out H2.out.1 H2.out.2.2 H2.out.2.1 H4.out
     show HdsI w w3 (.slice p4 (M++[y]).length c4) H (M++[y]) (i+1)
     rw[List.length_append]
     exact this
   case measure=>have:=HLT.out;simp[RowKit.intOf];omega
  ·obtain rfl:i=H.length:=by omega
   go_wp2
   go_ret
   obtain⟨h1,h2,h3,h4⟩:=HI.out
   rw[List.take_length]at h2
   exact⟨_,M,rfl,h1,h2,h3,h4⟩
end Go.Proofs.YthhakekbffembaaGreatDoor.Ck.Y.L
