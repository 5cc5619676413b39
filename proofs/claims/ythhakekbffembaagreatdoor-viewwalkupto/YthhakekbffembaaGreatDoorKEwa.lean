import Derived.Test.YthhakekbffembaaGreatDoorQEvu
import Derived.Test.YthhakekbffembaaGreatDoorQQc

namespace Go.Proofs.YthhakekbffembaaGreatDoor.Ck.Y.W
open Go.RowKit Go.Maps Go.Lib
open L (a2z a6z anz a5z)
open Sh (bas Ids Nms strs bIz InI Cs)
theorem fAz:∀l:List PI,aKz l=bIz l
 |[]=>rfl
 |x::l=>by show idL x++aKz l=_;rw[fAz l];rfl
theorem kQz {T:List OB} {t n:Int} {K:List PI} (hw:WfT T) (hK:IsKids T t n K) {q:PI} (hq:q∈K):∃(j:Nat) (o:OB),T[j]? =some o∧aoz T q.1 q.2=some j∧o.nm=bas (nmT T q):=by
 obtain⟨o,ho,e,hp⟩:=eXz hw hK hq
 obtain⟨j,hj⟩:=List.mem_iff_getElem?.1 ho
 refine⟨j,o,hj, ?_, ?_⟩
 ·have:=cWz hw.apart hj
  rw[← e]
  exact this
 ·rw[gaz hp,bas_of]
theorem eRz {T:List OB} {t n:Int} {K:List PI} (hK:IsKids T t n K):K.length≤T.length:=by
 rw[hK.perm.length_eq]
 unfold bvz
 rw[List.length_map]
 exact List.length_filter_le _ _
structure NmI (w:World) (b1:Nat) (vk:Value) (K:List PI) (f:PI→List UInt8) (vn:Value) (i:Nat) (wr:World):Prop where
 bel:Below w.heap.size w wr
 row:RowI wr w.heap.size vk K
 own:wr.ownsRow b1 9 1 vn i (strs ((K.take i).map f))
 b1w:w.heap.size≤b1
 b1r:b1≤wr.heap.size
 off:∀g,vk.ownBlock=some g→g<b1
set_option maxRecDepth 8000 in
set_option maxHeartbeats 4000000 in
theorem iEz (base g s vv:Nat) (vo:Value) {ls:List OG} {s0:Nat} (T:List OB) (t n:Int) (w:World) (h:TreeY w base g T s) (hT:TOk ls T s0) (hv:∃ty,w.heap[vv]? =some (.cells #[vo,.pointer (some ⟨g,0,none⟩)] ty (0,0))) {K:List PI} (hK:IsKids T t n K):
  Calls Tryz.prog 46 #[.pointer (some ⟨vv,0,none⟩),idv t n] w λe w'=>∃pk ck p c,e=.returned (.tuple #[.slice pk K.length ck,.slice p K.length c])∧RowI w' w.heap.size (.slice pk K.length ck) K∧Nms w' p (Sh.shownL K (K.map (nmT T)) K.length)∧Below w.heap.size w w':=by
 obtain⟨ty,hv⟩:=hv
 have HB1:=a3z w (.cells #[.int .i64 t,.int .i64 n] 28)
 have HT:=a0z (agz h (agz hT hv))
 have HKK:=a0z hK
 have ck:=λW (hb:Below w.heap.size w W)=>jRz base g s T t n W (h.below hb) hT.wf.apart
 have y1:(w.alloc (.cells #[.int .i64 t,.int .i64 n] 28)).cell? ⟨vv,1,none⟩=some (.pointer (some ⟨g,0,none⟩)):=cellOf ((HB1.out.block _ (block_lt hv)).trans hv) 1
 clear h hT hv hK
 go_enter Tryz.func46,Tryz.ntmps46
 go_wp2_with fail
 go_region_with (go_at_call 86;refine(ck _ (a2z HB1.out (a6z _))).mono ?_;rintro e w1 ⟨v,K',rfl,k1,k2,k3⟩;obtain⟨pk,ckk,rfl,_⟩:=bcz k1;have H1:Hid (RowI w1 w.heap.size (.slice pk K'.length ckk) K'∧K'=K∧Below w.heap.size w w1):=⟨d8z k1 (by simp),k2.unique HKK.out,a2z (a2z HB1.out (a6z _)) k3⟩;clear k1 k2 k3 ck y1)
 all_goals
  obtain rfl:=H1.out.2.1
  obtain⟨kn,hkn⟩:∃kn,K'.length=kn:=⟨_,rfl⟩
  have HKN:=a0z hkn
  have hk9:kn<1000000:=by rw[← hkn];exact Nat.lt_of_le_of_lt (eRz HKK.out) HT.out.1.len
  have HM0:Hid (NmI w w1.heap.size (.slice pk kn ckk) K' (nmT T) (.slice none 0 0) 0 w1):=
   ⟨H1.out.2.2,by rw[← hkn];exact H1.out.1,by simp[strs];exact World.ownsRow_nil _ _ _ _,H1.out.2.2.size,Nat.le_refl _,λg hg=>by rw[← hkn]at hg;obtain⟨cs,hc,_⟩:=H1.out.1.tag hg;exact block_lt hc⟩
  rw[hkn]
  clear hkn
  go_wp2_with fail
  go_loopw [7,8] (λvn ii wr=>∃(i:Nat) (pn:Option Addr) (cn:Nat),vn=.slice pn i cn∧ii=.int .i64 i∧i≤kn∧Hid (NmI w w1.heap.size (.slice pk kn ckk) K' (nmT T) vn i wr)) (λ_ ii _=>kn-(RowKit.intOf ii).toNat)
  case atStart=>exact⟨0,none,0,rfl,rfl,Nat.zero_le _,HM0⟩
  case round=>
   obtain⟨i,pn,cn,rfl,rfl,hi,HI⟩:=hrel
   rename World=>wo
   by_cases hlt:i<kn
   ·have hltI:(i:Int)<(kn:Int):=by omega
    obtain⟨q,hq⟩:∃q,K'[i]? =some q:=⟨_,List.getElem?_eq_getElem (by rw[HKN.out];exact hlt)⟩
    obtain⟨j,o,hj,hf,hnm⟩:=kQz HT.out.2.1.wf HKK.out (List.mem_of_getElem? hq)
    have hjl:j<T.length:=(List.getElem?_eq_some_iff.1 hj).1
    obtain⟨p1,c1,e1,hc1⟩:=bcz HI.out.row
    rw[HKN.out]at e1
    cases e1
    obtain⟨g1,rfl,_,_⟩:=hc1 i q hq
    obtain⟨pt,ct,hgc,hT0⟩:=HT.out.1.view
    obtain⟨gl,rfl,hTc⟩:∃gl,pt=some ⟨gl,0,none⟩∧w.cell? ⟨gl,j*6+4,none⟩=some (.string o.nm):=by
     rcases hT0 with e|⟨gl,e,hc⟩
     ·rw[e]at hj;simp at hj
     ·exact⟨gl,e,(hc j o hj).2.2.2.2.1⟩
    have HQ:=a0z (agz hq hnm)
    have hvc:w.cell? ⟨vv,1,none⟩=some (.pointer (some ⟨g,0,none⟩)):=cellOf HT.out.2.2 1
    have hgc0:w.cell? ⟨g,0,none⟩=some (.slice (some ⟨gl,0,none⟩) T.length ct):=cellOf hgc 0
    have hrow0:=HI.out.row
    rw[← HKN.out]at hrow0
    clear hnm hgc hT0
    go_wp2_with fail
    refine na6 (by kernel_rfl) (λW=>Below w.heap.size w W∧RowI W w.heap.size (.slice (some ⟨g1,0,none⟩) kn ckk) K'∧w1.heap.size≤W.heap.size) vv g gl g1 w1.heap.size T.length ct kn ckk i cn i j pn (strs ((K'.take i).map (nmT T))) q.1 q.2 o.nm wo rfl rfl rfl rfl rfl hltI (by omega) (by omega)
     ⟨a2z HI.out.bel (a6z _),HI.out.row.below (a6z _),HI.out.b1r⟩ (Sh.own_below HI.out.own (a6z _)) (λW hW=>hW.2.2) (λW W' hW hb=>⟨a2z hW.1 hb,hW.2.1.below hb,Nat.le_trans hW.2.2 hb.size⟩)
     (λW W' hW ho hg=>⟨Sh.grown_low hW.1 ho hg HI.out.b1w,dgz hW.2.1 HI.out.off ho hg,Nat.le_trans hW.2.2 hg.size⟩)
     (λW hW=>a5z hvc hW.1) (λW hW=>a5z hgc0 hW.1) (λW hW=>a5z hTc hW.1)
     (λW hW=>by
      have h2:=hW.2.1
      rw[← HKN.out]at h2
      obtain⟨p2,c2,e2,hc2⟩:=bcz h2
      cases e2
      obtain⟨g2,e3,z0,z1⟩:=hc2 i q HQ.out.1
      cases e3
      exact⟨z0,z1⟩)
     (λW hW=>by
      have:=c3z base g s T q.1 q.2 W (HT.out.1.below hW.1)
      rw[show dyz T q.1 q.2=(j:Int) by unfold dyz;rw[hf]]at this
      exact this) ?_
    intro gg w7 hJ7 hp7 ho7
    obtain⟨p7,c7,e7⟩:=hp7
    have H7:Hid (NmI w w1.heap.size (.slice (some ⟨g1,0,none⟩) kn ckk) K' (nmT T) (.slice p7 (i+1) c7) (i+1) w7):=by
     refine⟨hJ7.1,hJ7.2.1, ?_,HI.out.b1w,hJ7.2.2,HI.out.off⟩
     rw[e7,HQ.out.2]at ho7
     have e:strs ((K'.take (i+1)).map (nmT T))=strs ((K'.take i).map (nmT T))++[.string (bas (nmT T q))]:=by
      rw[List.take_add_one,HQ.out.1,Option.toList_some,List.map_append]
      simp[Sh.strs]
     rw[e]
     exact ho7
    simp only[abz,sA,sB,sC,e7]
    clear hJ7 ho7 e7 hf hj hrow0 hc1
    go_wp2_with fail
    exact⟨⟨i+1,p7,c7,rfl,by simp,by omega,H7.out⟩,by simp[RowKit.intOf];omega⟩
   ·obtain rfl:i=kn:=by omega
    have hap:Sh.AP K' (K'.map (nmT T)):=dTz HT.out.2.1 HKK.out
    have hnl:(K'.map (nmT T)).length=i:=by rw[List.length_map,HKN.out]
    have hown:=HI.out.own
    rw[List.take_of_length_le (show K'.length≤i by rw[HKN.out];exact Nat.le_refl _)]at hown
    have cS:∀W,Below wo.heap.size wo W→Calls Tryz.prog 87 #[.slice pk i ckk,.slice pn i cn] W λe w'=>∃p c,e=.returned (.slice p i c)∧Hid (Nms w' p (Sh.shownL K' (K'.map (nmT T)) i)∧Below wo.heap.size wo w'):=λW hW=>by
     obtain⟨q1,d1,f1,hc1⟩:=Cs.of_own (Sh.own_below HI.out.row hW)
     obtain⟨q2,d2,f2,hc2⟩:=Cs.of_own (Sh.own_below hown hW)
     rw[HKN.out]at f1
     cases f1;cases f2
     have:=Sh.rshown_core K' (K'.map (nmT T)) pk pn i i i ckk cn W (Sh.ids_of_cs (by rw[← fAz];exact hc1)) (Sh.nms_of_cs hc2) (by rw[HKN.out];exact Nat.le_refl _) (by rw[hnl];exact Nat.le_refl _) (.inr ⟨Nat.lt_irrefl _,rfl⟩) (by omega) hap.ins hap.lens
     refine this.mono ?_
     rintro e w' ⟨p,c,rfl,hn⟩
     exact⟨p,c,rfl,hn.out.1,a2z hW hn.out.2⟩
    clear hap hown HM0
    go_wp2_with (go_at_call 87;refine(cS _ (by first|exact Below.refl _ _|exact a6z _)).mono ?_;rintro e w3 ⟨p3,c3,rfl,H3⟩)
    go_ret2
    exact⟨pk,ckk,p3,c3,by rw[HKN.out];rfl,by rw[HKN.out];exact Sh.own_below HI.out.row H3.out.2,by rw[HKN.out];exact H3.out.1,a2z HI.out.bel H3.out.2⟩
end Go.Proofs.YthhakekbffembaaGreatDoor.Ck.Y.W
