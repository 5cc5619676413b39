import Derived.Test.YthhakekbffembaaGreatDoorQEvg
import Derived.Test.YthhakekbffembaaGreatDoorKEshelf
set_option maxRecDepth 8000
set_option maxHeartbeats 4000000

namespace Go.Proofs.YthhakekbffembaaGreatDoor.Ck.Y.W
open Go.RowKit Go.Maps Go.Lib
open L (a2z a6z anz a5z)
open Sh (bas Ids Nms strs bIz InI Cs bfz splitV)
def idI (L:List (List UInt8)) (x:List UInt8):Int:=match L.findIdx? (λy=>decide (y=x))with
 |some k=>(k:Nat)
 |none=> -1
theorem nIz (L:List (List UInt8)) (x:List UInt8):Lib.idxBy (λa b:List UInt8=>decide (a=b)) L x=idI L x:=by
 unfold idI
 cases h:L.findIdx? (λy=>decide (y=x))with
 |none=>
  have:=Lib.idxBy_miss (λa b:List UInt8=>decide (a=b)) L L.length x (λj hj=>by
   have:=(List.findIdx?_eq_none_iff.1 h) L[j]! (by simp[hj])
   simp at this⊢
   exact λe=>this e.symm)
  rwa [List.take_length]at this
 |some k=>
  obtain⟨hk,h1,h2⟩:=List.findIdx?_eq_some_iff_getElem.1 h
  have:=Lib.idxBy_hit (λa b:List UInt8=>decide (a=b)) L L.length k x hk (Nat.le_refl _) (by simp[hk]at h1⊢;exact h1.symm) (λj hj=>by
   have h3:=h2 j hj
   have hjl:j<L.length:=by omega
   simp[hjl]at h3⊢
   exact λe=>h3 e.symm)
  rwa [List.take_length]at this
theorem boz (L:List (List UInt8)) (p:Option Addr) (c:Nat) (x:List UInt8) (w:World) (hL:Nms w p L) (hl:L.length≤1000000):
  Calls Tryz.prog 85 #[.slice p L.length c,.string (bas x)] w λe w'=>e=.returned (.int .i64 (idI L x))∧w'=w:=by
 by_cases h0:L.length=0
 ·have:L=[]:=List.eq_nil_of_length_eq_zero h0
  subst this
  exact AnyE.slices_Index_empty Tryz.idxS p c (.string (bas x)) w
 ·obtain⟨b,off,rfl,_⟩:=hL 0 _ (List.getElem?_eq_getElem (by omega))
  have heq:EqlAt Tryz.prog (Tryz.idxS_ren.t 23) (λl:List UInt8=>Value.string (bas l)) (λa b=>decide (a=b)):=
   ⟨λa b w=>by rw[(EqlAt.string Tryz.prog _).1];exact congrArg (λz=>Result.ok (Value.bool z) w) (Sh.bas_beq a b),λop a b x y w=>(EqlAt.string Tryz.prog _).2 op a b _ _ w⟩
  have:=AnyE.slices_Index Tryz.idxS (λl:List UInt8=>Value.string (bas l)) (λa b=>decide (a=b)) heq b off L.length c L x w (Nat.le_refl _) (by omega) (λj hj=>by
   obtain⟨g,o,e,hc⟩:=hL j _ (List.getElem?_eq_getElem hj)
   cases e
   rw[hc]
   simp[hj])
  rw[List.take_length,nIz]at this
  exact this
theorem kEz {I:List PI} {g:PI→List UInt8} {s:List UInt8}:(I.find? (λq=>decide (g q=s))=none∧idI (I.map g) s= -1)∨∃(k:Nat) (q:PI),I.find? (λq=>decide (g q=s))=some q∧idI (I.map g) s=(k:Nat)∧I[k]? =some q:=by
 have e:(I.map g).findIdx? (λy=>decide (y=s))=I.findIdx? (λq=>decide (g q=s)):=by rw[List.findIdx?_map];rfl
 unfold idI
 rw[e]
 cases h:I.findIdx? (λq=>decide (g q=s))with
 |none=>
  left
  refine⟨?_,rfl⟩
  rw[List.find?_eq_none]
  intro x hx
  have:=(List.findIdx?_eq_none_iff.1 h) x hx
  simpa using this
 |some k=>
  right
  obtain⟨hk,h1,h2⟩:=List.findIdx?_eq_some_iff_getElem.1 h
  refine⟨k,I[k], ?_,rfl,List.getElem?_eq_getElem hk⟩
  rw[List.find?_eq_some_iff_getElem]
  exact⟨h1,k,hk,rfl,λj hj=>by have:=h2 j hj;simpa using this⟩
def kdz:Option PI→Value
 |some q=>.tuple #[.agg #[.int .i64 q.1,.int .i64 q.2],.bool true]
 |none=>.tuple #[.agg #[.int .i64 0,.int .i64 0],.bool false]
theorem iwz (s:List UInt8):∃(a b:Int) (c:Bool),splitV s (bfz s)=.tuple #[.string (bas (c4z s)),.agg #[.int .i64 a,.int .i64 b],.bool c]:=by
 unfold c4z Sh.splitV
 cases bfz s with
 |none=>exact⟨_,_,_,rfl⟩
 |some x=>obtain⟨nm,t,n⟩:=x;exact⟨_,_,_,rfl⟩
theorem VW.kid {F:Nat→Prop} {w:World} {vb s:Nat} {nsf:OG→List Int} {bsf:OG→List (BitVec 8)} {m ls:List OG} {T:List OB} (h:VW F w vb nsf bsf m ls) (hT:TOk ls T s) (t n:Int) (x:List UInt8) (hx:x.length<4294967281) (hL:∀W,Only F w W→Sh.Lb W) {K:List PI} (hK:IsKids T t n K) (hK9:K.length≤900):
  Calls Tryz.prog 44 #[.pointer (some ⟨vb,0,none⟩),idv t n,.string (bas x)] w λe w'=>e=.returned (kdz (bAz K (nmT T) x))∧VJ w F vb nsf bsf m ls w':=by
 obtain⟨A,hA⟩:∃A,A=(w.alloc (.cells #[.int .i64 t,.int .i64 n] 28)).alloc (.cells #[.int .i64 0,.int .i64 0] 28):=⟨_,rfl⟩
 have HB:Hid (Below w.heap.size w A):=by rw[hA];exact a2z (a3z w _).out (a3z _ _).out
 have hi:A.heap[w.heap.size]? =some (.cells #[.int .i64 t,.int .i64 n] 28 (0,0)):=by rw[hA,Below.heap_alloc _ _ _ (by simp)];exact heap_alloc_new w _
 have hr:A.heap[w.heap.size+1]? =some (.cells #[.int .i64 0,.int .i64 0] 28 (0,0)):=by
  have:=heap_alloc_new (w.alloc (.cells #[.int .i64 t,.int .i64 n] 28)) (.cells #[.int .i64 0,.int .i64 0] 28)
  rw[← hA]at this
  rwa [show(w.alloc (.cells #[.int .i64 t,.int .i64 n] 28)).heap.size=w.heap.size+1 by simp]at this
 have HI:=a0z (agz hi hr)
 have cP:=Sh.split_any x hx A (hL _ (Below.only HB.out F))
 obtain⟨va,vc,vd,hsv⟩:=iwz x
 rw[hsv]at cP
 have HS:Hid (∀W,Below w.heap.size w W→Calls Tryz.prog 84 #[.pointer (some ⟨vb,0,none⟩),idv t n,.string (bas (c4z x))] W λe w'=>(∃p1 c1 p2 c2,e=.returned (.tuple #[.slice p1 (aEz T (c4z x) K).length c1,.slice p2 (aEz T (c4z x) K).length c2])∧Ids w' p1 (aEz T (c4z x) K)∧Nms w' p2 ((aEz T (c4z x) K).map (shQ (aEz T (c4z x) K) (nmT T))))∧VJ w F vb nsf bsf m ls w'∧Sft W w'):=λW hW=>
  ((h.below hW).sakes hT t n (c4z x) (λW' hW'=>hL W' ((Below.only hW F).next hW')) hK).mono λe w' k=>⟨k.1,k.2.of_below hW,k.2.sft⟩
 have HK:Hid (bAz K (nmT T) x=(aEz T (c4z x) K).find? (λq=>decide (shQ (aEz T (c4z x) K) (nmT T) q=x))∧(aEz T (c4z x) K).length≤900):=⟨(hcz (dTz hT hK) x).symm,Nat.le_trans (List.length_filter_le _ _) hK9⟩
 generalize aEz T (c4z x) K=I at HS HK
 generalize c4z x=ow at*
 have HA:=a0z hA
 have y0:A.cell? ⟨w.heap.size,0,none⟩=some (.int .i64 t):=cellOf hi 0
 have y1:A.cell? ⟨w.heap.size,1,none⟩=some (.int .i64 n):=cellOf hi 1
 rw[hA]at cP
 clear h hT hL hK hsv hx hi hr hA
 go_enter Tryz.func44,Tryz.ntmps44
 go_wp2_with (first
  |(go_at_call 83;refine cP.mono ?_;rintro e w1 ⟨rfl,hb1⟩;have H1:Hid (Below A.heap.size A w1):=(by rw[HA.out];exact hb1);clear hb1 cP;have z0:=a5z y0 H1.out;have z1:=a5z y1 H1.out;have hl1:w.heap.size<w1.heap.size:=a4z z0;have hr1:w1.heap[w.heap.size+1]? =some (.cells #[.int .i64 0,.int .i64 0] 28 (0,0)):=(H1.out.block _ (block_lt HI.out.2)).trans HI.out.2;have HR1:=(show Hid _ from hr1);clear y0 y1 hr1)
  |(go_at_call 84;refine(HS.out _ (a2z (a2z HB.out H1.out) (a3z w1 _).out)).mono ?_;rintro e w2 ⟨⟨p1,c1,p2,c2,rfl,hI,hN⟩,hv,hs⟩;have H2:Hid (Ids w2 p1 I∧Nms w2 p2 (I.map (shQ I (nmT T)))∧VJ w F vb nsf bsf m ls w2∧w2.heap[w.heap.size+1]? =some (.cells #[.int .i64 0,.int .i64 0] 28 (0,0))):=⟨hI,hN,hv,hs.at (((a3z w1 (.cells #[.int .i64 va,.int .i64 vc] 28)).out.block _ (block_lt HR1.out)).trans HR1.out) (by decide)⟩;clear hI hN hv hs z0 z1 hl1)
  |(go_at_call 85;have cI:=boz (I.map (shQ I (nmT T))) p2 c2 x w2 H2.out.2.1 (by rw[List.length_map];have:=HK.out.2;omega);rw[List.length_map]at cI;refine cI.mono ?_;clear cI;rintro e w3 ⟨rfl,rfl⟩;refine Stp.out ?_))
 refine Stp.mk ?_
 have HBX:Hid (w3.heap[w.heap.size+1]? =some (.cells #[.int .i64 0,.int .i64 0] 28 (0,0))):=H2.out.2.2.2
 have hw3:w.heap.size≤w.heap.size+1:=by omega
 rcases kEz (I:=I) (g:=shQ I (nmT T)) (s:=x)with⟨hf,hi⟩|⟨k,q,hf,hi,hq⟩
 ·have HR:Hid (kdz (bAz K (nmT T) x)=.tuple #[.agg #[.int .i64 0,.int .i64 0],.bool false]):=by show _=_;rw[HK.out.1,hf];rfl
  rw[hi]
  clear hf hi
  go_wp2_with (refine asz rfl 28 _ _ rfl (w.heap.size+1) (#[.int .i64 0,.int .i64 0]) rfl rfl 28 _ HBX aWz rfl (aNz _ _) ?_;intro w4 H4;have r0:w4.cell? ⟨w.heap.size+1,0,none⟩=some (.int .i64 0):=cellOf H4.out.1 0;have r1:w4.cell? ⟨w.heap.size+1,1,none⟩=some (.int .i64 0):=cellOf H4.out.1 1)
  refine bodyPost_ret (v:=.tuple #[.agg #[.int .i64 0,.int .i64 0],.bool false]) (by simp[results,Tryz.results44,go_sem,r0,r1]) rfl ?_
  exact⟨by rw[HR.out],H2.out.2.2.1.put HBX.out (by decide) (by decide) hw3 H4.out.2.1⟩
 ·have HR:Hid (kdz (bAz K (nmT T) x)=.tuple #[.agg #[.int .i64 q.1,.int .i64 q.2],.bool true]):=by show _=_;rw[HK.out.1,hf];rfl
  rw[hi]
  have hkl:k<I.length:=(List.getElem?_eq_some_iff.1 hq).1
  have hkI:(k:Int)<(I.length:Int):=by omega
  have hI9:I.length≤900:=HK.out.2
  obtain⟨g,o,rfl,c0,c1'⟩:=H2.out.1 k q hq
  clear hf hi hq
  go_wp2_with (refine asz rfl 28 _ _ rfl (w.heap.size+1) (#[.int .i64 q.1,.int .i64 q.2]) rfl rfl 28 _ HBX aWz rfl (aNz _ _) ?_;intro w4 H4;have r0:w4.cell? ⟨w.heap.size+1,0,none⟩=some (.int .i64 q.1):=cellOf H4.out.1 0;have r1:w4.cell? ⟨w.heap.size+1,1,none⟩=some (.int .i64 q.2):=cellOf H4.out.1 1)
  refine bodyPost_ret (v:=.tuple #[.agg #[.int .i64 q.1,.int .i64 q.2],.bool true]) (by simp[results,Tryz.results44,go_sem,r0,r1]) rfl ?_
  exact⟨by rw[HR.out],H2.out.2.2.1.put HBX.out (by decide) (by decide) hw3 H4.out.2.1⟩
end Go.Proofs.YthhakekbffembaaGreatDoor.Ck.Y.W

namespace Go.Proofs.YthhakekbffembaaGreatDoor.Ck.Y.W
open Go.RowKit Go.Maps Go.Lib
open L (a2z a6z anz a5z)
open Sh (bas Ids Nms strs bIz InI Cs bfz splitV)
variable {ls:List OG} {T:List OB} {s:Nat}
theorem VJ.callO {u w:World} {F0:Nat→Prop} {vb:Nat} {nsf:OG→List Int} {bsf:OG→List (BitVec 8)} {m m' ls':List OG} {f:FuncId} {args:Array Value} {R:Ending→World→Prop} (h:VJ u F0 vb nsf bsf m ls w) (hc:∀F,VW F w vb nsf bsf m ls→(∀W,Only F w W→Only F0 u W)→Calls Tryz.prog f args w λe w'=>R e w'∧VJ w F vb nsf bsf m' ls' w'):
  Calls Tryz.prog f args w λe w'=>R e w'∧VJ u F0 vb nsf bsf m' ls' w'∧Sft w w':=by
 obtain⟨F,h1,h2,h3,h4⟩:=h
 refine(hc F h1 λW hW=>h3.trans hW h2).mono ?_
 rintro e w' ⟨hR,F',k1,k2,k3,k4⟩
 refine⟨hR,⟨F',k1,λb hb=> ?_,h3.trans k3 h2,h4.trans k4⟩,k4⟩
 rcases k2 b hb with hb|hb
 ·exact h2 b hb
 ·have:=h3.size;exact .inr (by omega)
theorem lfz {T0:List OB} {s0:Nat} (h:FoldT T0 s0 ls T s):T.length≤T0.length+ls.length:=by
 induction h with
 |nil=>simp
 | @cons T T1 T2 s s1 s2 o l h1 _ ih=>
  have:T1.length≤T.length+1:=by
   cases h1 with
   |make=>simp
   |made=>omega
   |move=>simp
   |moved=>omega
   |other=>omega
  simp only[List.length_cons]
  omega
def leP (a b:PI):Bool:=decide (a.1<b.1∨(a.1=b.1∧a.2≤b.2))
def bDz (T:List OB) (q:PI):List PI:=(bvz T q.1 q.2).mergeSort leP
theorem hnz (h:WfT T) (t n:Int):(bvz T t n).Nodup:=by
 have hn:(T.map idp).Nodup:=(apartT_ids.1 h.apart).imp λ{a b} hab e=>hab ⟨congrArg Prod.fst e,congrArg Prod.snd e⟩
 unfold bvz
 exact List.Nodup.sublist (List.Sublist.map idp List.filter_sublist) hn
theorem dEz (h:WfT T) (q:PI):IsKids T q.1 q.2 (bDz T q):=by
 have hp:(bDz T q).Perm (bvz T q.1 q.2):=List.mergeSort_perm _ _
 refine⟨hp, ?_⟩
 have h1:(bDz T q).Pairwise λa b=>leP a b=true:=List.pairwise_mergeSort (λa b c h1 h2=>by
  unfold leP at*
  simp only[decide_eq_true_eq]at*
  omega) (λa b=>by
  unfold leP
  simp only[Bool.or_eq_true,decide_eq_true_eq]
  omega) _
 have h2:(bDz T q).Nodup:=hp.nodup_iff.2 (hnz h _ _)
 refine(h1.and h2).imp λ{a b} hab=>(d1z a b).2 ?_
 have h3:=hab.1
 have h4:=hab.2
 unfold leP at h3
 simp only[decide_eq_true_eq]at h3
 rcases h3 with h3|⟨h3,h5⟩
 ·exact .inl h3
 ·refine .inr ⟨h3, ?_⟩
  have:¬a.2=b.2:=λe=>h4 (Prod.ext h3 e)
  omega
theorem kiz (h:FoldT [] 0 ls T s) (hl:ls.length≤800) (q:PI):(bDz T q).length≤900:=by
 have h1:(bDz T q).length=(bvz T q.1 q.2).length:=(List.mergeSort_perm _ _).length_eq
 have h2:(bvz T q.1 q.2).length≤T.length:=by unfold bvz;rw[List.length_map];exact List.length_filter_le _ _
 have:=lfz h
 simp at this
 omega
def aHz (T:List OB):PI→List (List UInt8)→PI×Int
 |q,[]=>(q,0)
 |q,x::r=>if aAz T q.1 q.2=true then(match bAz (bDz T q) (nmT T) x with
  |some q'=>aHz T q' r
  |none=>((0,0),2))else((0,0),20)
theorem VW.walk {F:Nat→Prop} {w:World} {vb:Nat} {nsf:OG→List Int} {bsf:OG→List (BitVec 8)} {m:List OG} (h:VW F w vb nsf bsf m ls) (hT:TOk ls T s) (p:Option Addr) (c:Nat) (names:List (List UInt8)) (hx:∀x∈names,x.length<4294967281) (hl:names.length≤1000000) (hL:∀W,Only F w W→Sh.Lb W) (hN:∀W,Only F w W→Nms W p names):
  Calls Tryz.prog 18 #[.pointer (some ⟨vb,0,none⟩),.slice p names.length c] w λe w'=>e=.returned (.tuple #[.agg #[.int .i64 (aHz T (0,0) names).1.1,.int .i64 (aHz T (0,0) names).1.2],.int .i64 (aHz T (0,0) names).2])∧VJ w F vb nsf bsf m ls w':=by
 have hl8:ls.length≤800:=by rw[h.srt.len];exact h.len
 have HH:=a0z (agz h (agz hT (agz hL (agz hN (agz hl8 hx)))))
 have HC:Hid (∀W,VJ w F vb nsf bsf m ls W→∀a b:Int,Calls Tryz.prog 43 #[.pointer (some ⟨vb,0,none⟩),.agg #[.int .i64 a,.int .i64 b]] W λe w'=>e=.returned (.bool (aAz T a b))∧VJ w F vb nsf bsf m ls w'∧Sft W w'):=λW hW a b=>hW.call λF' hF'=>hF'.dir hT.fold a b
 have HKid:Hid (∀W,VJ w F vb nsf bsf m ls W→∀(a b:Int) (x:List UInt8),x.length<4294967281→Calls Tryz.prog 44 #[.pointer (some ⟨vb,0,none⟩),.agg #[.int .i64 a,.int .i64 b],.string (bas x)] W λe w'=>e=.returned (kdz (bAz (bDz T (a,b)) (nmT T) x))∧VJ w F vb nsf bsf m ls w'∧Sft W w'):=λW hW a b x hx=>
  hW.callO λF' hF' hO=>hF'.kid hT a b x hx (λW' hW'=>hL W' (hO W' hW')) (dEz hT.wf (a,b)) (kiz hT.fold hl8 (a,b))
 have HB0:Hid (VJ w F vb nsf bsf m ls w):=VJ.start h
 have hrb:=heap_alloc_new w (.cells #[.int .i64 0,.int .i64 0] 28)
 have HB1':=a0z hrb
 clear h hT hL hN hl8 hx hrb
 go_enter Tryz.func18,Tryz.ntmps18
 go_wp2_with (go_at_call 42;refine acz (Cd.root_any _) ?_;intro w1 HB1)
 have HS0:Hid (∃q:PI,VJ w F vb nsf bsf m ls (w1.alloc (.cells #[.int .i64 0,.int .i64 0] 28))∧(w1.alloc (.cells #[.int .i64 0,.int .i64 0] 28)).heap[w1.heap.size]? =some (.cells #[.int .i64 q.1,.int .i64 q.2] 28 (0,0))∧(w1.alloc (.cells #[.int .i64 0,.int .i64 0] 28)).heap[w.heap.size]? =some (.cells #[.int .i64 0,.int .i64 0] 28 (0,0))∧aHz T (0,0) names=aHz T q (names.drop 0)):=by
  have b1:=a2z (a3z w (.cells #[.int .i64 0,.int .i64 0] 28)).out HB1.out
  have k1:=(HB1.out.block _ (block_lt HB1'.out)).trans HB1'.out
  exact⟨(0,0),HB0.out.below (a2z b1 (a3z w1 _).out),heap_alloc_new w1 _,((a3z w1 (.cells #[.int .i64 0,.int .i64 0] 28)).out.block _ (block_lt k1)).trans k1,rfl⟩
 have HW1:Hid (w.heap.size<w1.heap.size):=by have:=HB1.out.size;simp at this;show _<_;omega
 go_loopw [17] (λii wr=>∃(i:Nat),ii=.int .i64 i∧i≤names.length∧Hid (∃q:PI,VJ w F vb nsf bsf m ls wr∧wr.heap[w1.heap.size]? =some (.cells #[.int .i64 q.1,.int .i64 q.2] 28 (0,0))∧wr.heap[w.heap.size]? =some (.cells #[.int .i64 0,.int .i64 0] 28 (0,0))∧aHz T (0,0) names=aHz T q (names.drop i))) (λii _=>names.length-(RowKit.intOf ii).toNat)
 case atStart=>exact⟨0,rfl,Nat.zero_le _,HS0.out⟩
 case round=>
  obtain⟨i,rfl,hi,HI⟩:=hrel
  rename World=>wo
  obtain⟨q,HI⟩:∃q:PI,Hid (VJ w F vb nsf bsf m ls wo∧wo.heap[w1.heap.size]? =some (.cells #[.int .i64 q.1,.int .i64 q.2] 28 (0,0))∧wo.heap[w.heap.size]? =some (.cells #[.int .i64 0,.int .i64 0] 28 (0,0))∧aHz T (0,0) names=aHz T q (names.drop i)):=HI.out
  by_cases hlt:i<names.length
  ·have hltI:(i:Int)<(names.length:Int):=by omega
   obtain⟨x,hx⟩:∃x,names[i]? =some x:=⟨_,List.getElem?_eq_getElem hlt⟩
   obtain⟨g,o,rfl,cn⟩:=HH.out.2.2.2.1 wo HI.out.1.only i x hx
   have hdr:names.drop i=x::names.drop (i+1):=by rw[List.drop_eq_getElem_cons hlt];congr 1;exact(List.getElem?_eq_some_iff.1 hx).2
   have HX:Hid (x.length<4294967281∧names.drop i=x::names.drop (i+1)):=⟨HH.out.2.2.2.2.2 x (List.mem_of_getElem? hx),hdr⟩
   have y0:wo.cell? ⟨w1.heap.size,0,none⟩=some (.int .i64 q.1):=cellOf HI.out.2.1 0
   have y1:wo.cell? ⟨w1.heap.size,1,none⟩=some (.int .i64 q.2):=cellOf HI.out.2.1 1
   clear hx hdr
   cases hd:aAz T q.1 q.2 with
   |false=>
    have HR:Hid (aHz T (0,0) names=((0,0),20)):=by show _=_;rw[HI.out.2.2.2,HX.out.2,aHz,hd];rfl
    have cD:=HC.out wo.drew (HI.out.1.below (a6z _)) q.1 q.2
    rw[hd]at cD
    clear hd
    go_wp2_with fail
    go_region_with (go_at_call 43;refine cD.mono ?_;rintro e w5 ⟨rfl,h5,s5⟩;have H5:Hid (VJ w F vb nsf bsf m ls w5∧w5.heap[w.heap.size]? =some (.cells #[.int .i64 0,.int .i64 0] 28 (0,0))):=⟨h5,s5.at (show wo.drew.heap[w.heap.size]? =_ from HI.out.2.2.1) (by decide)⟩;clear h5 s5)
    all_goals
     have HBX:=(show Hid (w5.heap[w.heap.size]? =some (.cells #[.int .i64 0,.int .i64 0] 28 (0,0)))from H5.out.2)
     clear y0 y1
     go_wp2_with (refine asz rfl 28 _ _ rfl w.heap.size (#[.int .i64 0,.int .i64 0]) rfl rfl 28 _ HBX aWz rfl (aNz _ _) ?_;intro w6 H6;have r0:w6.cell? ⟨w.heap.size,0,none⟩=some (.int .i64 0):=cellOf H6.out.1 0;have r1:w6.cell? ⟨w.heap.size,1,none⟩=some (.int .i64 0):=cellOf H6.out.1 1)
     refine bodyPost_ret (v:=.tuple #[.agg #[.int .i64 0,.int .i64 0],.int .i64 20]) (by simp[results,Tryz.results18,go_sem,r0,r1]) rfl ?_
     exact⟨by rw[HR.out],H5.out.1.put HBX.out (by decide) (by decide) (Nat.le_refl _) H6.out.2.1⟩
   |true=>
    have HR:Hid (aHz T (0,0) names=match bAz (bDz T q) (nmT T) x with|some q'=>aHz T q' (names.drop (i+1))|none=>((0,0),2)):=by show _=_;rw[HI.out.2.2.2,HX.out.2,aHz,hd];rfl
    have cD:=HC.out wo.drew (HI.out.1.below (a6z _)) q.1 q.2
    rw[hd]at cD
    clear hd
    go_wp2_with fail
    go_region_with (go_at_call 43;refine cD.mono ?_;rintro e w5 ⟨rfl,h5,s5⟩;have H5:Hid (VJ w F vb nsf bsf m ls w5∧w5.heap[w.heap.size]? =some (.cells #[.int .i64 0,.int .i64 0] 28 (0,0))∧w5.heap[w1.heap.size]? =some (.cells #[.int .i64 q.1,.int .i64 q.2] 28 (0,0))):=⟨h5,s5.at (show wo.drew.heap[w.heap.size]? =_ from HI.out.2.2.1) (by decide),s5.at (show wo.drew.heap[w1.heap.size]? =_ from HI.out.2.1) (by decide)⟩;clear h5 s5)
    all_goals
     clear y0 y1
     have z0:w5.cell? ⟨w1.heap.size,0,none⟩=some (.int .i64 q.1):=cellOf H5.out.2.2 0
     have z1:w5.cell? ⟨w1.heap.size,1,none⟩=some (.int .i64 q.2):=cellOf H5.out.2.2 1
     have cK:=HKid.out w5 H5.out.1 q.1 q.2 x HX.out.1
     cases hk:bAz (bDz T q) (nmT T) x with
     |none=>
      have HR2:Hid (aHz T (0,0) names=((0,0),2)):=by show _=_;rw[HR.out,hk]
      rw[show((q.1,q.2):PI)=q from rfl,hk]at cK
      simp only[kdz]at cK
      clear hk
      go_wp2_with (first
       |(go_at_call 44;refine cK.mono ?_;rintro e w6 ⟨rfl,h6,s6⟩;have H6:Hid (VJ w F vb nsf bsf m ls w6∧w6.heap[w.heap.size]? =some (.cells #[.int .i64 0,.int .i64 0] 28 (0,0))):=⟨h6,s6.at H5.out.2.1 (by decide)⟩;have hl6:=block_lt H6.out.2;have HBX:Hid ((w6.alloc (.cells #[.int .i64 0,.int .i64 0] 28)).heap[w.heap.size]? =some (.cells #[.int .i64 0,.int .i64 0] 28 (0,0))):=((a3z w6 (.cells #[.int .i64 0,.int .i64 0] 28)).out.block _ hl6).trans H6.out.2;clear h6 s6 z0 z1 cK)
       |(refine asz rfl 28 _ _ rfl w.heap.size (#[.int .i64 0,.int .i64 0]) rfl rfl 28 _ HBX aWz rfl (aNz _ _) ?_;intro w7 H7;have r0:w7.cell? ⟨w.heap.size,0,none⟩=some (.int .i64 0):=cellOf H7.out.1 0;have r1:w7.cell? ⟨w.heap.size,1,none⟩=some (.int .i64 0):=cellOf H7.out.1 1))
      refine bodyPost_ret (v:=.tuple #[.agg #[.int .i64 0,.int .i64 0],.int .i64 2]) (by simp[results,Tryz.results18,go_sem,r0,r1]) rfl ?_
      exact⟨by rw[HR2.out],(H6.out.1.below (a3z w6 (.cells #[.int .i64 0,.int .i64 0] 28)).out).put HBX.out (by decide) (by decide) (Nat.le_refl _) H7.out.2.1⟩
     |some q'=>
      have HR2:Hid (aHz T (0,0) names=aHz T q' (names.drop (i+1))):=by show _=_;rw[HR.out,hk]
      rw[show((q.1,q.2):PI)=q from rfl,hk]at cK
      simp only[kdz]at cK
      clear hk
      go_wp2_with (first
       |(go_at_call 44;refine cK.mono ?_;rintro e w6 ⟨rfl,h6,s6⟩;have H6:Hid (VJ w F vb nsf bsf m ls w6∧w6.heap[w.heap.size]? =some (.cells #[.int .i64 0,.int .i64 0] 28 (0,0))∧w6.heap[w1.heap.size]? =some (.cells #[.int .i64 q.1,.int .i64 q.2] 28 (0,0))):=⟨h6,s6.at H5.out.2.1 (by decide),s6.at H5.out.2.2 (by decide)⟩;have HBX:Hid ((w6.alloc (.cells #[.int .i64 q'.1,.int .i64 q'.2] 28)).heap[w1.heap.size]? =some (.cells #[.int .i64 q.1,.int .i64 q.2] 28 (0,0))):=((a3z w6 (.cells #[.int .i64 q'.1,.int .i64 q'.2] 28)).out.block _ (block_lt H6.out.2.2)).trans H6.out.2.2;clear h6 s6 z0 z1 cK)
       |(refine asz rfl 28 _ _ rfl w1.heap.size (#[.int .i64 q'.1,.int .i64 q'.2]) rfl rfl 28 _ HBX aWz rfl (aNz _ _) ?_;intro w7 H7;refine Stp.out ?_))
      refine Stp.mk ?_
      have HN7:Hid (VJ w F vb nsf bsf m ls w7∧w7.heap[w1.heap.size]? =some (.cells #[.int .i64 q'.1,.int .i64 q'.2] 28 (0,0))∧w7.heap[w.heap.size]? =some (.cells #[.int .i64 0,.int .i64 0] 28 (0,0))):=by
       have hl6:=block_lt H6.out.2.1
       have hne:=HW1.out
       refine⟨(H6.out.1.below (a3z w6 (.cells #[.int .i64 q'.1,.int .i64 q'.2] 28)).out).put HBX.out (by decide) (by decide) (by omega) H7.out.2.1,H7.out.1, ?_⟩
       refine(H7.out.2.1.block _ (by simp;omega) (by omega)).trans (((a3z w6 (.cells #[.int .i64 q'.1,.int .i64 q'.2] 28)).out.block _ hl6).trans H6.out.2.1)
      clear H7
      go_wp2_with fail
      exact⟨⟨i+1,by simp,by omega,q',HN7.out.1,HN7.out.2.1,HN7.out.2.2,HR2.out⟩,by simp[RowKit.intOf];omega⟩
  ·obtain rfl:i=names.length:=by omega
   have HR:Hid (aHz T (0,0) names=(q,0)):=by show _=_;rw[HI.out.2.2.2,List.drop_length];rfl
   have y0:wo.cell? ⟨w1.heap.size,0,none⟩=some (.int .i64 q.1):=cellOf HI.out.2.1 0
   have y1:wo.cell? ⟨w1.heap.size,1,none⟩=some (.int .i64 q.2):=cellOf HI.out.2.1 1
   have HBX:=(show Hid (wo.heap[w.heap.size]? =some (.cells #[.int .i64 0,.int .i64 0] 28 (0,0)))from HI.out.2.2.1)
   go_wp2_with (refine asz rfl 28 _ _ rfl w.heap.size (#[.int .i64 q.1,.int .i64 q.2]) rfl rfl 28 _ HBX aWz rfl (aNz _ _) ?_;intro w6 H6;have r0:w6.cell? ⟨w.heap.size,0,none⟩=some (.int .i64 q.1):=cellOf H6.out.1 0;have r1:w6.cell? ⟨w.heap.size,1,none⟩=some (.int .i64 q.2):=cellOf H6.out.1 1)
   refine bodyPost_ret (v:=.tuple #[.agg #[.int .i64 q.1,.int .i64 q.2],.int .i64 0]) (by simp[results,Tryz.results18,go_sem,r0,r1]) rfl ?_
   exact⟨by rw[HR.out],HI.out.1.put HBX.out (by decide) (by decide) (Nat.le_refl _) H6.out.2.1⟩
end Go.Proofs.YthhakekbffembaaGreatDoor.Ck.Y.W
