import Derived.Test.YthhakekbffembaaGreatDoorKEwa
import Derived.Deep.RegionWith
set_option maxRecDepth 8000
set_option maxHeartbeats 8000000

namespace Go.Proofs.YthhakekbffembaaGreatDoor.Ck.Y.W
open Go.RowKit Go.Maps Go.Lib
open L (a2z a6z anz a5z)
open Sh (bas Ids Nms strs bIz InI Cs)
theorem hVz (w:World):Calls Tryz.prog 45 #[] w λe w'=>e=.returned (.agg #[.int .i64 0,.int .i64 0])∧Below w.heap.size w w':=by
 go_enter Tryz.func45,Tryz.ntmps45
 go_wp2
 refine bodyPost_ret (v:=.agg #[.int .i64 0,.int .i64 0]) (by simp[results,Tryz.results45,go_sem]) rfl ?_
 exact⟨rfl,(a3z w _).out⟩
theorem nhz {w w':World} {p:Option Addr} {l:List (List UInt8)} {ab:Nat} {a b:Int} {t:TypeId} (h:Nms w p l) (hb:w.heap[ab]? =some (.cells #[.int .i64 a,.int .i64 b] t (0,0))) (ho:Only (· =ab) w w'):Nms w' p l:=λj x hx=>by
 obtain⟨g,o,e,hc⟩:=h j x hx
 refine⟨g,o,e, ?_⟩
 have hne:g≠ab:=λe2=>by
  rw[e2,cellOf hb]at hc
  match o+j,hc with
  |0,hc|1,hc=>simp at hc
  |k+2,hc=>simp at hc
 rw[← hc]
 simp only[World.cell?,ho.block g (a4z hc) hne]
theorem k3z {K:List PI} {f:PI→List UInt8} {x:List UInt8} {k:Nat} {y:PI} (h:∀(k':Nat) (z:PI),k'<k→K[k']? =some z→shQ K f z≠x) (hy:K[k]? =some y) (e:shQ K f y=x):bAz K f x=some y:=by
 have hk:k<K.length:=(List.getElem?_eq_some_iff.1 hy).1
 have hd:K=K.take k++y::K.drop (k+1):=by
  have:=(List.take_append_drop k K).symm
  rw[List.drop_eq_getElem_cons hk,(List.getElem?_eq_some_iff.1 hy).2]at this
  exact this
 unfold bAz
 have hn:(K.take k).find? (λz=>decide (shQ K f z=x))=none:=by
  rw[List.find?_eq_none]
  intro z hz
  obtain⟨k',hk',e'⟩:=List.getElem_of_mem hz
  rw[List.length_take]at hk'
  have:=h k' z (by omega) (by rw[← e',List.getElem_take];exact List.getElem?_eq_getElem (by omega))
  simpa using this
 generalize hP:(λz=>decide (shQ K f z=x))=P at hn⊢
 have hPy:P y=true:=by rw[← hP];exact decide_eq_true e
 rw[hd,List.find?_append,hn,List.find?_cons,hPy]
 rfl
theorem hQz {K:List PI} {f:PI→List UInt8} {x:List UInt8} (h:∀(k':Nat) (z:PI),k'<K.length→K[k']? =some z→shQ K f z≠x):bAz K f x=none:=by
 unfold bAz
 rw[List.find?_eq_none]
 intro z hz
 obtain⟨k',hk',e'⟩:=List.getElem_of_mem hz
 have:=h k' z hk' (by rw[← e'];exact List.getElem?_eq_getElem hk')
 simpa using this
structure DkI (w:World) (K:List PI) (f:PI→List UInt8) (x:List UInt8) (ab rb b6:Nat) (vk:Value) (pn:Option Addr) (q:PI) (fd:Bool) (k:Nat) (wr:World):Prop where
 bel:Below w.heap.size w wr
 row:RowI wr b6 vk K
 nms:Nms wr pn (K.map (shQ K f))
 at_:∃q':PI,wr.heap[ab]? =some (.cells #[.int .i64 q'.1,.int .i64 q'.2] 28 (0,0))∧((fd=false∧q'=q∧∀(k':Nat) (z:PI),k'<k→K[k']? =some z→shQ K f z≠x)∨(fd=true∧bAz K f x=some q'))
 res:wr.heap[rb]? =some (.cells #[.int .i64 0,.int .i64 0] 28 (0,0))
 off:∀g,vk.ownBlock=some g→b6≤g
structure DwI (w:World) (T:List OB) (names:List (List UInt8)) (rb ab:Nat) (q:PI) (i:Nat) (wr:World):Prop where
 bel:Below w.heap.size w wr
 at_:wr.heap[ab]? =some (.cells #[.int .i64 q.1,.int .i64 q.2] 28 (0,0))
 res:wr.heap[rb]? =some (.cells #[.int .i64 0,.int .i64 0] 28 (0,0))
 is:aHz T (0,0) names=aHz T q (names.drop i)
theorem jHz (base g s vv:Nat) (vo:Value) {ls:List OG} {s0:Nat} (T:List OB) (w:World) (h:TreeY w base g T s) (hT:TOk ls T s0) (hv:∃ty,w.heap[vv]? =some (.cells #[vo,.pointer (some ⟨g,0,none⟩)] ty (0,0))) (p:Option Addr) (c:Nat) (names:List (List UInt8)) (hl:names.length≤1000000) (hN:Nms w p names):
  Calls Tryz.prog 19 #[.pointer (some ⟨vv,0,none⟩),.slice p names.length c] w λe w'=>e=.returned (.tuple #[.agg #[.int .i64 (aHz T (0,0) names).1.1,.int .i64 (aHz T (0,0) names).1.2],.int .i64 (aHz T (0,0) names).2])∧Below w.heap.size w w':=by
 obtain⟨ty,hv⟩:=hv
 have HT:=a0z (agz h (agz hT (agz hv hN)))
 have HD:Hid (∀W,Below w.heap.size w W→∀a b:Int,Calls Tryz.prog 37 #[.pointer (some ⟨g,0,none⟩),.agg #[.int .i64 a,.int .i64 b]] W λe w'=>e=.returned (.bool (aAz T a b))∧Below W.heap.size W w'):=λW hW a b=>f6z base g s T a b W (h.below hW)
 have HNm:Hid (∀W,Below w.heap.size w W→∀q:PI,Calls Tryz.prog 46 #[.pointer (some ⟨vv,0,none⟩),.agg #[.int .i64 q.1,.int .i64 q.2]] W λe w'=>∃pk ck p c,e=.returned (.tuple #[.slice pk (bDz T q).length ck,.slice p (bDz T q).length c])∧RowI w' W.heap.size (.slice pk (bDz T q).length ck) (bDz T q)∧Nms w' p (Sh.shownL (bDz T q) ((bDz T q).map (nmT T)) (bDz T q).length)∧Below W.heap.size W w'):=λW hW q=>
  iEz base g s vv vo T q.1 q.2 W (h.below hW) hT ⟨ty,(hW.block _ (block_lt hv)).trans hv⟩ (dEz hT.wf q)
 have HB1':=heap_alloc_new w (.cells #[.int .i64 0,.int .i64 0] 28)
 have HR1:=a0z HB1'
 have hvc:w.cell? ⟨vv,1,none⟩=some (.pointer (some ⟨g,0,none⟩)):=cellOf hv 1
 have HVC:=a0z hvc
 clear h hT hN hv HB1' hvc
 go_enter Tryz.func19,Tryz.ntmps19
 go_wp2_with (go_at_call 45;refine acz (hVz _) ?_;intro w1 HB1)
 have HS0:Hid (∃q:PI,DwI w T names w.heap.size w1.heap.size q 0 (w1.alloc (.cells #[.int .i64 0,.int .i64 0] 28))):=by
  have b1:=a2z (a3z w (.cells #[.int .i64 0,.int .i64 0] 28)).out HB1.out
  have k1:=(HB1.out.block _ (block_lt HR1.out)).trans HR1.out
  exact⟨(0,0),a2z b1 (a3z w1 _).out,heap_alloc_new w1 _,((a3z w1 (.cells #[.int .i64 0,.int .i64 0] 28)).out.block _ (block_lt k1)).trans k1,rfl⟩
 have HW1:Hid (w.heap.size<w1.heap.size):=by have:=HB1.out.size;simp at this;show _<_;omega
 go_loopw [7] (λii wr=>∃(i:Nat),ii=.int .i64 i∧i≤names.length∧Hid (∃q:PI,DwI w T names w.heap.size w1.heap.size q i wr)) (λii _=>names.length-(RowKit.intOf ii).toNat)
 case atStart=>exact⟨0,rfl,Nat.zero_le _,HS0.out⟩
 case round=>
  obtain⟨i,rfl,hi,HI⟩:=hrel
  rename World=>wo
  obtain⟨q,HI⟩:∃q:PI,Hid (DwI w T names w.heap.size w1.heap.size q i wo):=HI.out
  by_cases hlt:i<names.length
  ·have hltI:(i:Int)<(names.length:Int):=by omega
   obtain⟨x,hx⟩:∃x,names[i]? =some x:=⟨_,List.getElem?_eq_getElem hlt⟩
   have hdr:names.drop i=x::names.drop (i+1):=by rw[List.drop_eq_getElem_cons hlt];congr 1;exact(List.getElem?_eq_some_iff.1 hx).2
   have HX:=a0z (agz hx hdr)
   have y0:wo.cell? ⟨w1.heap.size,0,none⟩=some (.int .i64 q.1):=cellOf HI.out.at_ 0
   have y1:wo.cell? ⟨w1.heap.size,1,none⟩=some (.int .i64 q.2):=cellOf HI.out.at_ 1
   have yv:wo.cell? ⟨vv,1,none⟩=some (.pointer (some ⟨g,0,none⟩)):=a5z HVC.out HI.out.bel
   have cD:=HD.out wo.drew (a2z HI.out.bel (a6z _)) q.1 q.2
   clear hx hdr
   cases hd:aAz T q.1 q.2 with
   |false=>
    have HR:Hid (aHz T (0,0) names=((0,0),20)):=by show _=_;rw[HI.out.is,HX.out.2,aHz,hd];rfl
    rw[hd]at cD
    clear hd
    go_wp2_with fail
    go_region_with (go_at_call 37;refine cD.mono ?_;rintro e w5 ⟨rfl,h5⟩;have H5:Hid (Below wo.heap.size wo w5):=a2z (a6z _) h5;clear h5)
    all_goals
     have HBX:Hid (w5.heap[w.heap.size]? =some (.cells #[.int .i64 0,.int .i64 0] 28 (0,0))):=(H5.out.block _ (block_lt HI.out.res)).trans HI.out.res
     clear y0 y1 yv
     go_wp2_with (refine asz rfl 28 _ _ rfl w.heap.size (#[.int .i64 0,.int .i64 0]) rfl rfl 28 _ HBX aWz rfl (aNz _ _) ?_;intro w6 H6;have r0:w6.cell? ⟨w.heap.size,0,none⟩=some (.int .i64 0):=cellOf H6.out.1 0;have r1:w6.cell? ⟨w.heap.size,1,none⟩=some (.int .i64 0):=cellOf H6.out.1 1)
     refine bodyPost_ret (v:=.tuple #[.agg #[.int .i64 0,.int .i64 0],.int .i64 20]) (by simp[results,Tryz.results19,go_sem,r0,r1]) rfl ?_
     have hb5:=a2z HI.out.bel H5.out
     exact⟨by rw[HR.out],hb5.trans (H6.out.2.1.below hb5.size λb e=>by have:b=w.heap.size:=e;omega)⟩
   |true=>
    have HDd:=a0z hd
    rw[hd]at cD
    clear hd
    go_wp2_with fail
    go_region_with (go_at_call 37;refine cD.mono ?_;rintro e w5 ⟨rfl,h5⟩;have H5:Hid (Below wo.heap.size wo w5):=a2z (a6z _) h5;clear h5)
    all_goals
     clear y0 y1 yv
     have ha5:=(H5.out.block _ (block_lt HI.out.at_)).trans HI.out.at_
     have y0:w5.cell? ⟨w1.heap.size,0,none⟩=some (.int .i64 q.1):=cellOf ha5 0
     have y1:w5.cell? ⟨w1.heap.size,1,none⟩=some (.int .i64 q.2):=cellOf ha5 1
     have HA5:Hid (w5.heap[w1.heap.size]? =some (.cells #[.int .i64 q.1,.int .i64 q.2] 28 (0,0))∧Below w.heap.size w w5):=⟨ha5,a2z HI.out.bel H5.out⟩
     have cN:=HNm.out w5 HA5.out.2 q
     clear ha5
     go_wp2_with (go_at_call 46;refine cN.mono ?_;rintro e w6 ⟨pk,ckk,pn,cn,rfl,k1,k2,k3⟩;have H6:=a0z (agz k1 (agz k2 k3));clear k1 k2 k3 cN y0 y1)
     obtain⟨K,hKe⟩:∃K,bDz T q=K:=⟨_,rfl⟩
     have hKi:IsKids T q.1 q.2 K:=by rw[← hKe];exact dEz HT.out.2.1.wf q
     have HKw:Hid (aHz T (0,0) names=match bAz K (nmT T) x with|some q'=>aHz T q' (names.drop (i+1))|none=>((0,0),2)):=by show _=_;rw[HI.out.is,HX.out.2,aHz,HDd.out,hKe];rfl
     have hnd:K.Nodup:=(dTz HT.out.2.1 hKi).dif
     rw[hKe]at H6⊢
     rw[fUz hnd]at H6
     obtain⟨kn,hkn⟩:∃kn,K.length=kn:=⟨_,rfl⟩
     have HKN:=a0z hkn
     have hk9:kn<1000000:=by rw[← hkn];exact Nat.lt_of_le_of_lt (eRz hKi) HT.out.1.len
     rw[hkn]at H6⊢
     have HS6:Hid (DkI w K (nmT T) x w1.heap.size w.heap.size w5.heap.size (.slice pk kn ckk) pn q false 0 w6):=
      ⟨a2z HA5.out.2 H6.out.2.2,H6.out.1,H6.out.2.1,⟨q,(H6.out.2.2.block _ (block_lt HA5.out.1)).trans HA5.out.1,.inl ⟨rfl,rfl,λk' z hk=>by omega⟩⟩,(H6.out.2.2.block _ (block_lt ((H5.out.block _ (block_lt HI.out.res)).trans HI.out.res))).trans ((H5.out.block _ (block_lt HI.out.res)).trans HI.out.res),λg hg=>by obtain⟨cs,_,hb⟩:=H6.out.1.tag hg;exact hb⟩
     clear hKe hKi hnd hkn
     go_loopw [10,11] (λff kk wr=>∃(fd:Bool) (k:Nat),ff=.bool fd∧kk=.int .i64 k∧k≤kn∧Hid (DkI w K (nmT T) x w1.heap.size w.heap.size w5.heap.size (.slice pk kn ckk) pn q fd k wr)) (λ_ kk _=>kn-(RowKit.intOf kk).toNat)
     case atStart=>exact⟨false,0,rfl,rfl,Nat.zero_le _,HS6⟩
     case round=>as_aux_lemma=>
      obtain⟨fd,k,rfl,rfl,hk,HK⟩:=hrel
      rename World=>wk
      cases fd with
      |true=>
       obtain⟨q',ha',hcase⟩:=HK.out.at_
       have hkb:bAz K (nmT T) x=some q':=by
        rcases hcase with⟨e,_⟩|⟨_,e⟩
        ·cases e
        ·exact e
       have HW2:Hid (aHz T (0,0) names=aHz T q' (names.drop (i+1))):=by show _=_;rw[HKw.out,hkb]
       have HN2:Hid (DwI w T names w.heap.size w1.heap.size q' (i+1) wk):=⟨HK.out.bel,ha',HK.out.res,HW2.out⟩
       clear ha' hcase hkb
       by_cases hlk:k<kn
       ·have hlkI:(k:Int)<(kn:Int):=by omega
        go_wp2_with fail
        exact⟨⟨i+1,by simp,by omega,q',HN2.out⟩,by simp[RowKit.intOf];omega⟩
       ·have hlkI:¬(k:Int)<(kn:Int):=by omega
        go_wp2_with fail
        exact⟨⟨i+1,by simp,by omega,q',HN2.out⟩,by simp[RowKit.intOf];omega⟩
      |false=>
       obtain⟨q',ha',hcase⟩:=HK.out.at_
       obtain⟨rfl,hbef⟩:q'=q∧∀(k':Nat) (z:PI),k'<k→K[k']? =some z→shQ K (nmT T) z≠x:=by
        rcases hcase with⟨_,e,h⟩|⟨e,_⟩
        ·exact⟨e,h⟩
        ·cases e
       have HAT:Hid (wk.heap[w1.heap.size]? =some (.cells #[.int .i64 q'.1,.int .i64 q'.2] 28 (0,0))∧∀(k':Nat) (z:PI),k'<k→K[k']? =some z→shQ K (nmT T) z≠x):=⟨ha',hbef⟩
       clear ha' hcase hbef
       by_cases hlk:k<kn
       ·have hlkI:(k:Int)<(kn:Int):=by omega
        obtain⟨y,hy⟩:∃y,K[k]? =some y:=⟨_,List.getElem?_eq_getElem (by rw[HKN.out];exact hlk)⟩
        have HY:=a0z hy
        obtain⟨gp,op,rfl,hcp⟩:=HT.out.2.2.2 i x HX.out.1
        obtain⟨gn,on,rfl,hcn⟩:=HK.out.nms k (shQ K (nmT T) y) (by rw[List.getElem?_map,hy];rfl)
        have hcp':=a5z hcp HK.out.bel
        obtain⟨p1,c1,e1,hc1⟩:=bcz HK.out.row
        rw[HKN.out]at e1
        cases e1
        obtain⟨g1,rfl,x0,x1⟩:=hc1 k y hy
        obtain⟨ny,hny⟩:∃ny,shQ K (nmT T) y=ny:=⟨_,rfl⟩
        have HNY:=a0z hny
        rw[hny]at hcn
        have hqq:=Sh.bas_beq ny x
        clear hc1 hy hcp hny
        by_cases hxx:ny=x
        ·have hq':((bas ny).toList==(bas x).toList)=true:=by rw[hqq];exact decide_eq_true hxx
         have HXX:=a0z hxx
         clear hqq hxx
         go_wp2_with fail
         go_region
         all_goals
          have HBX:Hid (wk.drew.heap[w1.heap.size]? =some (.cells #[.int .i64 q'.1,.int .i64 q'.2] 28 (0,0))):=HAT.out.1
          go_wp2_with (refine asz rfl 28 _ _ rfl w1.heap.size (#[.int .i64 y.1,.int .i64 y.2]) rfl rfl 28 _ HBX aWz rfl (aNz _ _) ?_;intro w7 H7)
          have hon:Only (· =w1.heap.size) wk w7:=(Below.only (a6z wk) _).next H7.out.2.1
          have hw5:w1.heap.size<w5.heap.size:=block_lt HA5.out.1
          refine⟨⟨true,k+1,rfl,by simp,by omega,HK.out.bel.trans (hon.below HK.out.bel.size λb e=>by have:b=w1.heap.size:=e;have:=HW1.out;omega),fJz HK.out.row hon (λz hz=>by have:=HK.out.off z hz;omega),nhz HK.out.nms HAT.out.1 hon,⟨y,H7.out.1,.inr ⟨rfl,k3z HAT.out.2 HY.out (HNY.out.trans HXX.out)⟩⟩,(hon.block _ (block_lt HK.out.res) (λe=>by have:=HW1.out;omega)).trans HK.out.res,HK.out.off⟩,by simp[RowKit.intOf];omega⟩
        ·have hq':((bas ny).toList==(bas x).toList)=false:=by rw[hqq];exact decide_eq_false hxx
         have HXX:=a0z hxx
         clear hqq hxx
         go_wp2_with fail
         go_region
         all_goals
          go_wp2_with fail
          refine⟨⟨false,k+1,rfl,by simp,by omega,a2z HK.out.bel (a6z _),HK.out.row.below (a6z _),HK.out.nms.below (a6z _),⟨q',HAT.out.1,.inl ⟨rfl,rfl,λk' z hk' hz=> ?_⟩⟩,HK.out.res,HK.out.off⟩,by simp[RowKit.intOf];omega⟩
          by_cases e:k'=k
          ·subst e
           rw[HY.out]at hz
           cases hz
           rw[HNY.out]
           exact HXX.out
          ·exact HAT.out.2 k' z (by omega) hz
       ·obtain rfl:k=kn:=by omega
        have hkb:bAz K (nmT T) x=none:=hQz λk' z hk' hz=>HAT.out.2 k' z (by rw[← HKN.out];exact hk') hz
        have HR2:Hid (aHz T (0,0) names=((0,0),2)):=by show _=_;rw[HKw.out,hkb]
        have HBX:Hid (wk.heap[w.heap.size]? =some (.cells #[.int .i64 0,.int .i64 0] 28 (0,0))):=HK.out.res
        clear hkb
        go_wp2_with (refine asz rfl 28 _ _ rfl w.heap.size (#[.int .i64 0,.int .i64 0]) rfl rfl 28 _ HBX aWz rfl (aNz _ _) ?_;intro w7 H7;have r0:w7.cell? ⟨w.heap.size,0,none⟩=some (.int .i64 0):=cellOf H7.out.1 0;have r1:w7.cell? ⟨w.heap.size,1,none⟩=some (.int .i64 0):=cellOf H7.out.1 1)
        refine bodyPost_ret (v:=.tuple #[.agg #[.int .i64 0,.int .i64 0],.int .i64 2]) (by simp[results,Tryz.results19,go_sem,r0,r1]) rfl ?_
        exact⟨by rw[HR2.out],HK.out.bel.trans (H7.out.2.1.below HK.out.bel.size λb e=>by have:b=w.heap.size:=e;omega)⟩
  ·obtain rfl:i=names.length:=by omega
   have HR:Hid (aHz T (0,0) names=(q,0)):=by show _=_;rw[HI.out.is,List.drop_length];rfl
   have y0:wo.cell? ⟨w1.heap.size,0,none⟩=some (.int .i64 q.1):=cellOf HI.out.at_ 0
   have y1:wo.cell? ⟨w1.heap.size,1,none⟩=some (.int .i64 q.2):=cellOf HI.out.at_ 1
   have HBX:Hid (wo.heap[w.heap.size]? =some (.cells #[.int .i64 0,.int .i64 0] 28 (0,0))):=HI.out.res
   go_wp2_with (refine asz rfl 28 _ _ rfl w.heap.size (#[.int .i64 q.1,.int .i64 q.2]) rfl rfl 28 _ HBX aWz rfl (aNz _ _) ?_;intro w6 H6;have r0:w6.cell? ⟨w.heap.size,0,none⟩=some (.int .i64 q.1):=cellOf H6.out.1 0;have r1:w6.cell? ⟨w.heap.size,1,none⟩=some (.int .i64 q.2):=cellOf H6.out.1 1)
   refine bodyPost_ret (v:=.tuple #[.agg #[.int .i64 q.1,.int .i64 q.2],.int .i64 0]) (by simp[results,Tryz.results19,go_sem,r0,r1]) rfl ?_
   exact⟨by rw[HR.out],HI.out.bel.trans (H6.out.2.1.below HI.out.bel.size λb e=>by have:b=w.heap.size:=e;omega)⟩
end Go.Proofs.YthhakekbffembaaGreatDoor.Ck.Y.W

namespace Go.Proofs.YthhakekbffembaaGreatDoor.Ck.Y.W
open Go.RowKit Go.Maps Go.Lib
open L (a2z a6z anz a5z)
theorem m3z (base:Nat) (v:Value) (l:List OG) (w:World) (h:RowG w base v l) (hr:ghz l) (hl:l.length≤1000) (h0:∀o∈l,¬o.ot=0):
  Calls Tryz.prog 10 #[v] w λe w'=>∃vv g m T s,e=.returned (.pointer (some ⟨vv,0,none⟩))∧(∃ty,w'.heap[vv]? =some (.cells #[v,.pointer (some ⟨g,0,none⟩)] ty (0,0)))∧bMz l m∧FoldT [] 0 m T s∧WfT T∧TreeY w' w.heap.size g T s∧Below w.heap.size w w':=by
 have cF:=jBz base v l w h hr hl h0
 obtain⟨vp,vc,rfl⟩:=h.slice
 clear h hr hl h0
 go_enter Tryz.func10,Tryz.ntmps10
 go_wp2_with (go_at_call 29;refine cF.mono ?_;rintro e w1 ⟨g,m,T,s,rfl,h1,h2,h3,h4,h5⟩;have H1:=a0z (agz h1 (agz h2 (agz h3 (agz h4 h5))));clear h1 h2 h3 h4 h5 cF)
 go_ret
 exact⟨_,g,m,T,s,rfl,⟨_,heap_alloc_new w1 _⟩,H1.out.1,H1.out.2.1,H1.out.2.2.1,H1.out.2.2.2.1.below (a3z w1 _).out,a2z H1.out.2.2.2.2 (a3z w1 _).out⟩
end Go.Proofs.YthhakekbffembaaGreatDoor.Ck.Y.W

namespace Go.Proofs.YthhakekbffembaaGreatDoor.Ck.Y.W
open Go.RowKit Go.Maps Go.Lib
open L (a2z a6z anz a5z Con)
open Sh (bas Ids Nms strs bIz InI Cs)
theorem mGz {o:OG} {ns:List Int} (h:L.mayW o ns=true):Rng o.t o.n:=by
 unfold L.mayW Cd.mayO at h
 simp only[Bool.and_eq_true]at h
 have:=Ck.validB_true.1 h.1.1
 unfold Rng B63
 omega
theorem jnz {u:World} {nsf:OG→List Int} {bsf:OG→List (BitVec 8)} {l:List OG} (h:Con u nsf bsf l):ghz l:=λx hx=>mGz (h.each x hx).2
theorem i3z {l m s:List OG} (hap:m.Pairwise λa b=>(a.t,a.n)≠(b.t,b.n)) (hr:ghz m) (hl:m.length<1000000) (h:Srt l m) (hs:bMz m s):s=l:=by
 obtain⟨P,rfl,hp,hrise⟩:=hs
 have hperm:(P.map a8z).Perm m:=by have:=hp.map a8z;rwa [cVz]at this
 have hapP:P.Pairwise λa b=>(a.o.t,a.o.n)≠(b.o.t,b.o.n):=by
  have h1:(P.map a8z).Pairwise λa b=>(a.t,a.n)≠(b.t,b.n):=(hperm.pairwise_iff (λh e=>h e.symm)).2 hap
  rw[List.pairwise_map]at h1
  exact h1
 have hok:∀a∈P,a.ok:=λa ha=>gZz hr hl a (hp.mem_iff.1 ha)
 refine dsz ?_ h.rise λx=>hperm.mem_iff.trans h.perm.mem_iff.symm
 rw[List.pairwise_map]
 refine List.Pairwise.imp_of_mem (λ{a b} ha hb h=> ?_) (List.Pairwise.and (show P.Pairwise _ from hrise) hapP)
 rcases(gnz (hok a ha) (hok b hb)).1 h.1 with h1|⟨h1,_⟩
 ·exact h1
 ·have h2:¬(a.o.t=b.o.t∧a.o.n=b.o.n):=λe=>h.2 (Prod.ext e.1 e.2)
  have h3:¬lessB b.o.t b.o.n a.o.t a.o.n=true:=by rw[h1];exact Bool.false_ne_true
  show lessB a.o.t a.o.n b.o.t b.o.n=true
  rw[lessB_true]at h3⊢
  omega
structure VG (w:World) (F:Nat→Prop) (vb:Nat) (nsf:OG→List Int) (bsf:OG→List (BitVec 8)) (m ls:List OG) (W:World):Prop where
 vw:VW F W vb nsf bsf m ls
 lo:∀b,F b→w.heap.size≤b
 bel:Below w.heap.size w W
section
variable {w W W':World} {F F':Nat→Prop} {vb:Nat} {nsf:OG→List Int} {bsf:OG→List (BitVec 8)} {m ls m' ls':List OG} {i:Nat}
theorem VG.nx (h:VG w F vb nsf bsf m ls W) (hj:VJ W F vb nsf bsf m' ls' W'):∃F',VG w F' vb nsf bsf m' ls' W'∧(∀b,F' b→F b∨W.heap.size≤b)∧Only F W W':=by
 obtain⟨F1,k1,k2,k3,k4⟩:=hj
 have hs:=h.bel.size
 refine⟨F1,⟨k1,λb hb=> ?_,h.bel.trans (k3.below hs h.lo)⟩,k2,k3⟩
 rcases k2 b hb with e|e
 ·exact h.lo b e
 ·omega
theorem VG.apply {l:List OG} (h:VG w F vb nsf bsf (l.take i) ls W) (hc:Con w nsf bsf l) (hl:l.length≤700) {x:OG} (hx:l[i]? =some x):
  Calls Tryz.prog 9 #[.pointer (some ⟨vb,0,none⟩),b2z x] W λe W'=>e=.returned (.int .i64 0)∧Hid (∃ls' F',VG w F' vb nsf bsf (l.take (i+1)) ls' W'∧(∀b,F' b→F b∨W.heap.size≤b)∧Only F W W'∧Sft W W'):=by
 have hm:=hc.each x (List.mem_of_getElem? hx)
 have hst:Stays F W x (nsf x) (bsf x):=λW' ho=>hm.1.below (h.bel.trans (ho.below h.bel.size h.lo))
 refine(h.vw.apply hst hm.2 (L.pairwise_at hc.apart hx) (by rw[List.length_take];omega)).mono ?_
 rintro e W' ⟨rfl,ls',hj⟩
 have hs:=hj.sft
 rw[show l.take i++[x]=l.take (i+1) by rw[List.take_add_one,hx,Option.toList_some]]at hj
 obtain⟨F',k1,k2,k3⟩:=h.nx hj
 exact⟨rfl,ls',F',k1,k2,k3,hs⟩
end
variable {w W':World} {b4:Nat} {l:List OG} {vr:Value}
structure WkI (w:World) (vb b4:Nat) (nsf:OG→List Int) (bsf:OG→List (BitVec 8)) (l:List OG) (vr:Value) (i:Nat) (wr:World):Prop where
 vg:∃F ls,VG w F vb nsf bsf (l.take i) ls wr
 row:RowG wr b4 vr l
theorem njz {W:World} {F:Nat→Prop} {vb i:Nat} {nsf:OG→List Int} {bsf:OG→List (BitVec 8)} (hr:RowG W b4 vr l) (h:Hid (∃ls' F',VG w F' vb nsf bsf (l.take (i+1)) ls' W'∧(∀b,F' b→F b∨W.heap.size≤b)∧Only F W W'∧Sft W W')):WkI w vb b4 nsf bsf l vr (i+1) W':=by
 obtain⟨ls',F',k1,_,_,k4⟩:=h.out
 exact⟨⟨F',ls',k1⟩,czz hr k4 (by decide)⟩
def WkS (w:World) (b4:Nat) (l:List OG) (vr:Value) (W:World):Prop:=Below w.heap.size w W∧RowG W b4 vr l
theorem WkS.below {W:World} (h:WkS w b4 l vr W) (hb:Below W.heap.size W W'):WkS w b4 l vr W':=⟨a2z h.1 hb,RowG.below h.2 hb⟩
theorem WkS.put {W:World} (h:WkS w b4 l vr W) {cs:Array Value} {t:TypeId} (ho:Only (· =W.heap.size) (W.alloc (.cells cs t)) W'):WkS w b4 l vr W':=
 h.below ((a3z W (.cells cs t)).out.trans (ho.below (by simp) λb e=>Nat.le_of_eq (show W.heap.size=b from(show b=W.heap.size from e).symm)))
structure WkT (w:World) (vb b4:Nat) (l:List OG) (vr:Value) (T:List OB) (wo:World):Prop where
 st:WkS w b4 l vr wo
 walk:∀(p:Option Addr) (NN:List (List UInt8)) (cc:Nat),Nms w p NN→(∀x∈NN,x.length<4294967281)→NN.length≤1000000→Calls Tryz.prog 18 #[.pointer (some ⟨vb,0,none⟩),.slice p NN.length cc] wo λe w'=>e=.returned (.tuple #[.agg #[.int .i64 (aHz T (0,0) NN).1.1,.int .i64 (aHz T (0,0) NN).1.2],.int .i64 (aHz T (0,0) NN).2])∧WkS w b4 l vr w'
 see:∀W,WkS w b4 l vr W→Calls Tryz.prog 10 #[vr] W λe w'=>∃vv,e=.returned (.pointer (some ⟨vv,0,none⟩))∧Below W.heap.size W w'∧∀(p:Option Addr) (NN:List (List UInt8)) (cc:Nat),Nms w p NN→NN.length≤1000000→Calls Tryz.prog 19 #[.pointer (some ⟨vv,0,none⟩),.slice p NN.length cc] w' λe w''=>e=.returned (.tuple #[.agg #[.int .i64 (aHz T (0,0) NN).1.1,.int .i64 (aHz T (0,0) NN).1.2],.int .i64 (aHz T (0,0) NN).2])∧Below w'.heap.size w' w''
theorem nNz {wo:World} {vb:Nat} {nsf:OG→List Int} {bsf:OG→List (BitVec 8)} (h:WkI w vb b4 nsf bsf l vr l.length wo) (hc:Con w nsf bsf l) (hl:l.length≤700) (hLb:Sh.Lb w):∃T,WkT w vb b4 l vr T wo:=by
 obtain⟨⟨F,ls,hvg⟩,hrow⟩:=h
 rw[List.take_length]at hvg
 have hsr:=hvg.vw.srt
 obtain⟨T,s,hf⟩:=FoldT.total ls [] 0
 have hT:TOk ls T s:=l8z (λo ho=>⟨_,(hc.each o (hsr.perm.mem_iff.1 ho)).2⟩) hf
 have hbel:∀W,Only F wo W→Below w.heap.size w W:=λW ho=>hvg.bel.trans (ho.below hvg.bel.size hvg.lo)
 refine⟨T,⟨hvg.bel,hrow⟩,λp NN cc hn hx hnl=> ?_,λW hW=> ?_⟩
 ·refine(hvg.vw.walk hT p cc NN hx hnl (λW ho=>hLb.below (hbel W ho)) (λW ho=>hn.below (hbel W ho))).mono ?_
  rintro e w' ⟨he,hj⟩
  exact⟨he,hbel w' hj.only,czz hrow hj.sft (by decide)⟩
 ·refine(m3z b4 vr l W hW.2 (jnz hc) (by omega) (λo ho=>by have:=(d4z (hc.each o ho).2).2.1;omega)).mono ?_
  rintro e w' ⟨vv,g,m,T2,s2,rfl,hv,hso,hf2,hw2,hty,hb⟩
  obtain rfl:m=ls:=i3z hc.apart (jnz hc) (by omega) hsr hso
  obtain⟨rfl,rfl⟩:=FoldT.unique hf hf2
  exact⟨vv,rfl,hb,λp NN cc hn hnl=>jHz W.heap.size g s vv vr T w' hty hT hv p cc NN hnl (hn.below (a2z hW.1 hb))⟩
theorem j9z {w7 w9 w10:World} {a:Nat} {x y:Int} {cs cs0:Array Value} (h:WkS w b4 l vr w7) (ha:w7.heap[a]? =some (.cells cs 28 (0,0))) (hb:Below w7.heap.size w7 w9) (h10:w10.heap[w9.heap.size]? =some (.cells #[.int .i64 x,.int .i64 y] 28 (0,0))∧Only (· =w9.heap.size) (w9.alloc (.cells cs0 28)) w10∧w10.heap.size=(w9.alloc (.cells cs0 28)).heap.size):
  WkS w b4 l vr w10∧w10.heap[a]? =some (.cells cs 28 (0,0))∧w10.heap[w9.heap.size]? =some (.cells #[.int .i64 x,.int .i64 y] 28 (0,0)):=by
 have k9:=(hb.block _ (block_lt ha)).trans ha
 have l9:=block_lt k9
 exact⟨(h.below hb).put h10.2.1,(h10.2.1.block _ (by simp;omega) (by omega)).trans (((a3z w9 (.cells cs0 28)).out.block _ l9).trans k9),h10.1⟩
theorem fQz (t n:Int) (w:World):Calls Tryz.prog 15 #[.agg #[.int .i64 t,.int .i64 n],.agg #[.int .i64 t,.int .i64 n]] w λe w'=>e=.returned (.bool true)∧Below w.heap.size w w':=by
 have:=bTz t n t n w
 rw[show azz t n t n=true from sameB_iff.2 ⟨rfl,rfl⟩]at this
 exact this
theorem vwalk_law (p1:Option Addr) (OS:List OG) (c1:Nat) (p2:Option Addr) (N:List (List UInt8)) (c2:Nat) (w:World) (hp:L.OpsL w p1 OS) (hL:OS.length≤maxLen) (hn:Nms w p2 N) (hx:∀x∈N,x.length<4294967281) (hc2:N.length≤c2) (hLb:Sh.Lb w):
  Calls Tryz.prog 4 #[.slice p1 OS.length c1,.slice p2 N.length c2] w λe w'=>e=.returned (.bool true)∧Below w.heap.size w w':=by
 have HP:=a0z (agz hp (agz hL (agz hn (agz hx hLb))))
 have cb:=ilz w hLb
 clear hp hL hn hx hLb
 go_enter Tryz.func4,Tryz.ntmps4
 go_wp2_with (first
  |(go_at_call 6;refine cb.mono ?_;clear cb;rintro e w1 ⟨rfl,h1⟩;have H1:=a0z h1;clear h1)
  |(go_at_call 7;refine(hIz w1).mono ?_;rintro e w2 ⟨rfl,h2⟩;have H2:Hid (Below w.heap.size w w2∧w.heap.size≤w1.heap.size∧∀nsf bsf,VW (· =w1.heap.size) w2 w1.heap.size nsf bsf [] []):=⟨a2z H1.out h2.out.1,H1.out.size,h2.out.2⟩;clear h2)
  |(go_at_call 8;refine(L.some_any p1 OS c1 20 w w2 H2.out.1 HP.out.1 HP.out.2.1 (by decide)).mono ?_;rintro e w4 ⟨v,l,rfl,hr4,ht4,hl4,hb4⟩;have H4:=a0z (agz hr4 (agz ht4 (agz hl4 hb4)));clear hr4 ht4 hl4 hb4))
 obtain⟨vb,hvb⟩:∃vb,w1.heap.size=vb:=⟨_,rfl⟩
 rw[hvb]at H2⊢
 obtain⟨q,d,rfl⟩:=H4.out.1.slice
 obtain⟨nsf,bsf,hcon⟩:=H4.out.2.1.con
 have HC:Hid (Con w nsf bsf l∧l.length≤700):=⟨hcon,by have:=H4.out.2.2.1;omega⟩
 have HO:Hid (WkI w vb w2.heap.size nsf bsf l (.slice q l.length d) 0 w4):=
  ⟨⟨_,[],(H2.out.2.2 nsf bsf).below H4.out.2.2.2,(λb hb=>by have:b=vb:=hb;have:=H2.out.2.1;omega),a2z H2.out.1 H4.out.2.2.2⟩,H4.out.1⟩
 clear hcon
 go_loopw [8] (λii wr=>∃i:Nat,ii=.int .i64 i∧i≤l.length∧Hid (WkI w vb w2.heap.size nsf bsf l (.slice q l.length d) i wr)) (λii _=>l.length-(RowKit.intOf ii).toNat)
 case atStart=>exact⟨0,rfl,Nat.zero_le _,HO⟩
 case round=>
  obtain⟨i,rfl,hi,HI⟩:=hrel
  rename World=>wo
  have hl9:l.length≤700:=HC.out.2
  by_cases hlt:i<l.length
  ·have hltI:(i:Int)<(l.length:Int):=by omega
   obtain⟨x,hx⟩:∃x,l[i]? =some x:=⟨_,List.getElem?_eq_getElem hlt⟩
   obtain⟨F,ls,hvg⟩:=HI.out.vg
   have cA:=hvg.apply HC.out.1 HC.out.2 hx
   obtain⟨p3,c3,e3,h3⟩:=L.RowG.caps HI.out.row
   cases e3
   obtain⟨g,rfl,a0,a1,a2,a3,a4,a5,a6,a7,a8,a9,a10⟩:=h3 i x hx
   simp only[b2z]at cA
   clear h3 hx hvg
   go_wp2_with (go_at_call 9;refine cA.mono ?_;clear cA;rintro e w5 ⟨rfl,h5⟩;have H5:Hid (WkI w vb w2.heap.size nsf bsf l (.slice (some ⟨g,0,none⟩) l.length d) (i+1) w5):=njz HI.out.row h5;clear h5)
   exact⟨⟨i+1,by simp,by omega,H5.out⟩,by simp[RowKit.intOf];omega⟩
  ·obtain rfl:i=l.length:=by omega
   obtain⟨T,hend⟩:=nNz HI.out HC.out.1 HC.out.2 HP.out.2.2.2.2
   have HE:=a0z hend
   clear hend HO HI
   by_cases h10:10<N.length
   ·have h10I:(10:Int)<(N.length:Int):=by omega
    obtain⟨gp,op,rfl,_⟩:=HP.out.2.2.1 0 N[0] (List.getElem?_eq_getElem (by omega))
    have hc10:10≤c2:=by omega
    obtain⟨NN,hNN⟩:∃NN,NN=N.take 10:=⟨_,rfl⟩
    have hNL:NN.length=10:=by rw[hNN,List.length_take];omega
    have hNm:Nms w (some ⟨gp,op,none⟩) NN:=by
     rw[hNN]
     intro j x hx
     rw[List.getElem?_take]at hx
     split at hx
     ·exact HP.out.2.2.1 j x hx
     ·cases hx
    have hNx:∀x∈NN,x.length<4294967281:=by rw[hNN];exact λx hx=>HP.out.2.2.2.1 x (List.mem_of_mem_take hx)
    have cW:=HE.out.walk (some ⟨gp,op,none⟩) NN c2 hNm hNx (by omega)
    clear hNN
    obtain⟨rt,rn,rz,hr⟩:∃rt rn rz,aHz T (0,0) NN=((rt,rn),rz):=⟨_,_,_,rfl⟩
    have HSee:Hid (∀W,WkS w w2.heap.size l (.slice q l.length d) W→Calls Tryz.prog 10 #[.slice q l.length d] W λe w'=>∃vv,e=.returned (.pointer (some ⟨vv,0,none⟩))∧Hid (Below W.heap.size W w'∧Calls Tryz.prog 19 #[.pointer (some ⟨vv,0,none⟩),.slice (some ⟨gp,op,none⟩) 10 c2] w' λe w''=>e=.returned (.tuple #[.agg #[.int .i64 rt,.int .i64 rn],.int .i64 rz])∧Below w'.heap.size w' w'')):=λW hW=>by
     refine(HE.out.see W hW).mono ?_
     rintro e w' ⟨vv,rfl,hb,hd⟩
     have:=hd (some ⟨gp,op,none⟩) NN c2 hNm (by omega)
     rw[hNL,hr]at this
     exact⟨vv,rfl,hb,this⟩
    rw[hNL,hr]at cW
    have HNB:=a0z hr
    clear hr hNm hNx hNL
    go_wp2_with (first
     |(go_at_call 18;refine cW.mono ?_;clear cW;rintro e w6 ⟨rfl,h6⟩;have H6:=a0z h6;clear h6)
     |(refine asz rfl 28 _ _ rfl w6.heap.size (#[.int .i64 rt,.int .i64 rn]) rfl rfl 28 _ (heap_alloc_new w6 _) aWz rfl (aNz _ _) ?_;intro w7 H7;have H7b:Hid (WkS w w2.heap.size l (.slice q l.length d) w7∧w7.heap[w6.heap.size]? =some (.cells #[.int .i64 rt,.int .i64 rn] 28 (0,0))):=⟨H6.out.put H7.out.2.1,H7.out.1⟩;clear H7)
     |(go_at_call 10;refine(HSee.out w7 H7b.out.1).mono ?_;rintro e w8 ⟨vv,rfl,h8⟩;have H8:=h8;clear h8;have cD:=H8.out.2)
     |(go_at_call 19;refine cD.mono ?_;clear cD;rintro e w9 ⟨rfl,h9⟩;have H9:Hid (Below w7.heap.size w7 w9):=a2z H8.out.1 h9;clear h9)
     |(refine asz rfl 28 _ _ rfl w9.heap.size (#[.int .i64 rt,.int .i64 rn]) rfl rfl 28 _ (heap_alloc_new w9 _) aWz rfl (aNz _ _) ?_;intro w10 H10;have HA:Hid (WkS w w2.heap.size l (.slice q l.length d) w10∧w10.heap[w6.heap.size]? =some (.cells #[.int .i64 rt,.int .i64 rn] 28 (0,0))∧w10.heap[w9.heap.size]? =some (.cells #[.int .i64 rt,.int .i64 rn] 28 (0,0))):=j9z H7b.out.1 H7b.out.2 H9.out H10.out;clear H10;have y0:w10.cell? ⟨w6.heap.size,0,none⟩=some (.int .i64 rt):=cellOf HA.out.2.1 0;have y1:w10.cell? ⟨w6.heap.size,1,none⟩=some (.int .i64 rn):=cellOf HA.out.2.1 1;have z0:w10.cell? ⟨w9.heap.size,0,none⟩=some (.int .i64 rt):=cellOf HA.out.2.2 0;have z1:w10.cell? ⟨w9.heap.size,1,none⟩=some (.int .i64 rn):=cellOf HA.out.2.2 1)
     |(go_at_call 15;refine(fQz rt rn w10).mono ?_;rintro e w11 ⟨rfl,h11⟩;have H11:=a0z h11;clear h11))
    go_ret
    exact⟨by first|rfl|(simp;done),a2z HA.out.1.1 H11.out⟩
   ·have h10I:¬(10:Int)<(N.length:Int):=by omega
    obtain⟨NN,hNN⟩:∃NN,NN=N:=⟨_,rfl⟩
    have hNL:NN.length=N.length:=by rw[hNN]
    have hNm:Nms w p2 NN:=by rw[hNN];exact HP.out.2.2.1
    have hNx:∀x∈NN,x.length<4294967281:=by rw[hNN];exact HP.out.2.2.2.1
    have cW:=HE.out.walk p2 NN c2 hNm hNx (by omega)
    clear hNN
    obtain⟨rt,rn,rz,hr⟩:∃rt rn rz,aHz T (0,0) NN=((rt,rn),rz):=⟨_,_,_,rfl⟩
    have HSee:Hid (∀W,WkS w w2.heap.size l (.slice q l.length d) W→Calls Tryz.prog 10 #[.slice q l.length d] W λe w'=>∃vv,e=.returned (.pointer (some ⟨vv,0,none⟩))∧Hid (Below W.heap.size W w'∧Calls Tryz.prog 19 #[.pointer (some ⟨vv,0,none⟩),.slice p2 N.length c2] w' λe w''=>e=.returned (.tuple #[.agg #[.int .i64 rt,.int .i64 rn],.int .i64 rz])∧Below w'.heap.size w' w'')):=λW hW=>by
     refine(HE.out.see W hW).mono ?_
     rintro e w' ⟨vv,rfl,hb,hd⟩
     have:=hd p2 NN c2 hNm (by omega)
     rw[hNL,hr]at this
     exact⟨vv,rfl,hb,this⟩
    rw[hNL,hr]at cW
    have HNB:=a0z hr
    clear hr hNm hNx hNL
    go_wp2_with (first
     |(go_at_call 18;refine cW.mono ?_;clear cW;rintro e w6 ⟨rfl,h6⟩;have H6:=a0z h6;clear h6)
     |(refine asz rfl 28 _ _ rfl w6.heap.size (#[.int .i64 rt,.int .i64 rn]) rfl rfl 28 _ (heap_alloc_new w6 _) aWz rfl (aNz _ _) ?_;intro w7 H7;have H7b:Hid (WkS w w2.heap.size l (.slice q l.length d) w7∧w7.heap[w6.heap.size]? =some (.cells #[.int .i64 rt,.int .i64 rn] 28 (0,0))):=⟨H6.out.put H7.out.2.1,H7.out.1⟩;clear H7)
     |(go_at_call 10;refine(HSee.out w7 H7b.out.1).mono ?_;rintro e w8 ⟨vv,rfl,h8⟩;have H8:=h8;clear h8;have cD:=H8.out.2)
     |(go_at_call 19;refine cD.mono ?_;clear cD;rintro e w9 ⟨rfl,h9⟩;have H9:Hid (Below w7.heap.size w7 w9):=a2z H8.out.1 h9;clear h9)
     |(refine asz rfl 28 _ _ rfl w9.heap.size (#[.int .i64 rt,.int .i64 rn]) rfl rfl 28 _ (heap_alloc_new w9 _) aWz rfl (aNz _ _) ?_;intro w10 H10;have HA:Hid (WkS w w2.heap.size l (.slice q l.length d) w10∧w10.heap[w6.heap.size]? =some (.cells #[.int .i64 rt,.int .i64 rn] 28 (0,0))∧w10.heap[w9.heap.size]? =some (.cells #[.int .i64 rt,.int .i64 rn] 28 (0,0))):=j9z H7b.out.1 H7b.out.2 H9.out H10.out;clear H10;have y0:w10.cell? ⟨w6.heap.size,0,none⟩=some (.int .i64 rt):=cellOf HA.out.2.1 0;have y1:w10.cell? ⟨w6.heap.size,1,none⟩=some (.int .i64 rn):=cellOf HA.out.2.1 1;have z0:w10.cell? ⟨w9.heap.size,0,none⟩=some (.int .i64 rt):=cellOf HA.out.2.2 0;have z1:w10.cell? ⟨w9.heap.size,1,none⟩=some (.int .i64 rn):=cellOf HA.out.2.2 1)
     |(go_at_call 15;refine(fQz rt rn w10).mono ?_;rintro e w11 ⟨rfl,h11⟩;have H11:=a0z h11;clear h11))
    go_ret
    exact⟨by first|rfl|(simp;done),a2z HA.out.1.1 H11.out⟩
end Go.Proofs.YthhakekbffembaaGreatDoor.Ck.Y.W
