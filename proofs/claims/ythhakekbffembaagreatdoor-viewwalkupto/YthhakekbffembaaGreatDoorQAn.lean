import Derived.Test.YthhakekbffembaaGreatDoorQAi
import Derived.Deep.CutRange
set_option maxRecDepth 8000
set_option maxHeartbeats 4000000

namespace Go.Proofs.YthhakekbffembaaGreatDoor.Ck.Sh
open Go.RowKit Go.Lib Go.Maps
attribute [local go_sem] Oper.semAt_some
variable {ids:List (Int×Int)} {names:List (List UInt8)} {i n:Nat}
def NoBef (ids:List (Int×Int)) (names:List (List UInt8)) (j i:Nat):Prop:=∀k,k<j→¬evz ids names k i=true
theorem NoBef.step {j:Nat} (h:NoBef ids names j i) (hb:evz ids names j i=false):NoBef ids names (j+1) i:=λk hk=>by
 by_cases hkj:k=j
 ·subst hkj;rw[hb];decide
 ·exact h k (by omega)
theorem NoBef.shown (h:NoBef ids names n i):shownAt ids names n i=nmA names i:=by
 unfold shownAt
 rw[if_pos (kept_iff.2 h)]
theorem krz {j:Nat} (hj:j<n) (h:evz ids names j i=true):shownAt ids names n i=nmA names i++bbz (idA ids i).1 (idA ids i).2:=by
 unfold shownAt
 rw[if_neg (λe=>kept_iff.1 e j hj h)]
def strs (l:List (List UInt8)):List Value:=l.map λx=>Value.string (bas x)
theorem nms_of_cs {w:World} {p:Option Addr} {l:List (List UInt8)} (h:Cs w p (strs l)):Nms w p l:=λj x hx=>h j _ (by unfold strs;rw[List.getElem?_map,hx];rfl)
theorem happ {W:World} {base:Nat} {p:Option Addr} {c:Nat} {xs:List Value} (s:ByteArray) (h:W.ownsRow base 9 1 (.slice p i c) i xs) (hb:base≤W.heap.size) (hi:i<1000000000000):
  Hid ((W.alloc (.cells #[.string s] 9)).ownsRow base 9 1 (.slice p i c) i xs∧Cs (W.alloc (.cells #[.string s] 9)) (some ⟨W.heap.size,0,none⟩) [.string s]∧[Value.string s].length=1*1∧(∀u∈[Value.string s],u.oneCell'=true)∧(i+1)*16≤140737488355328∧i+1≤140737488355328∧base≤(W.alloc (.cells #[.string s] 9)).heap.size):=by
 refine⟨own_below h (a3z W _).out,λj u hu=>⟨W.heap.size,0,rfl, ?_⟩,rfl,λu hu=>by rw[List.mem_singleton.1 hu];rfl,by omega,by omega,by simp;omega⟩
 rw[Nat.zero_add,cellOf (heap_alloc_new W _) j]
 simpa using hu
theorem shown_len (ids:List (Int×Int)) (names:List (List UInt8)) (n:Nat):(shownL ids names n).length=n:=by simp[shownL]
theorem shown_at (ids:List (Int×Int)) (names:List (List UInt8)) (h:i<n):(shownL ids names n)[i]? =some (shownAt ids names n i):=by
 unfold shownL
 rw[List.getElem?_map,List.getElem?_range h];rfl
theorem fWz (ids:List (Int×Int)) (names:List (List UInt8)) (h:i<n):strs ((shownL ids names n).take i)++[.string (bas (shownAt ids names n i))]=strs ((shownL ids names n).take (i+1)):=by
 rw[List.take_add_one,shown_at ids names h]
 simp[strs]
theorem rshown_core (ids:List (Int×Int)) (names:List (List UInt8)) (p1 p2:Option Addr) (L1 L2 n c1 c2:Nat) (w:World) (h1:Ids w p1 ids) (h2:Nms w p2 names) (hl1:n≤ids.length) (hl2:n≤names.length) (hn:(L2<L1∧n=L2)∨(¬L2<L1∧n=L1)) (hnn:n<1000000000000) (hid:∀x∈ids,InI x.1∧InI x.2) (hnm:∀x∈names,x.length≤150000000000000):
  Calls Tryz.prog 87 #[.slice p1 L1 c1,.slice p2 L2 c2] w λe w'=>∃p c,e=.returned (.slice p n c)∧Hid (Nms w' p (shownL ids names n)∧Below w.heap.size w w'):=by
 have H1:=Lib.hid h1
 have H2:=Lib.hid h2
 have HID:=Lib.hid hid
 have HNM:=Lib.hid hnm
 have HL1:=Lib.hid hl1
 have HL2:=Lib.hid hl2
 clear h1 h2 hid hnm hl1 hl2
 have hn':((L2:Int)<(L1:Int)∧n=L2)∨(¬(L2:Int)<(L1:Int)∧n=L1):=by omega
 have hB1:(n:Int)≤(L1:Int):=by omega
 have hB2:(n:Int)≤(L2:Int):=by omega
 clear hn
 rcases hn' with⟨hA,rfl⟩|⟨hA,rfl⟩
 all_goals
  go_enter Tryz.func87,Tryz.ntmps87
  go_wp2_with fail
  go_loopw [6,7] (λll ii wr=>∃(i:Nat) (p:Option Addr) (c:Nat),ii=.int .i64 i∧i≤n∧ll=.slice p i c∧Hid (wr.ownsRow w.heap.size 9 1 ll i (strs ((shownL ids names n).take i))∧Below w.heap.size w wr)) (λ_ ii _=>n-(RowKit.intOf ii).toNat)
  case atStart=>exact⟨0,none,0,rfl,Nat.zero_le _,rfl,⟨rfl,.inl ⟨rfl,rfl⟩⟩,Below.refl _ _⟩
  case round=>
   obtain⟨i,p,c,rfl,hi,rfl,HI⟩:=hrel
   rename World=>wo
   by_cases hlt:i<n
   ·have hltI:(i:Int)<(n:Int):=by omega
    have hlt1:=Int.lt_of_lt_of_le hltI hB1
    have hlt2:=Int.lt_of_lt_of_le hltI hB2
    obtain⟨g2,o2,rfl,hcn⟩:=(H2.out.below HI.out.2) i _ (dlz (by have:=HL2.out;omega))
    obtain⟨g1,o1,rfl,hq1,hq2⟩:=(H1.out.below HI.out.2) i _ (dnz (by have:=HL1.out;omega))
    have HC:Hid (∀j,j<n→wo.cell? ⟨g2,o2+j,none⟩=some (.string (bas (nmA names j)))∧wo.cell? ⟨g1,o1+j*2,none⟩=some (.int .i64 (idA ids j).1)∧wo.cell? ⟨g1,o1+j*2+1,none⟩=some (.int .i64 (idA ids j).2)):=λj hj=>by
     obtain⟨g,o,e,k1⟩:=(H2.out.below HI.out.2) j _ (dlz (by have:=HL2.out;omega))
     cases e
     obtain⟨g',o',e',k2,k3⟩:=(H1.out.below HI.out.2) j _ (dnz (by have:=HL1.out;omega))
     cases e'
     exact⟨k1,k2,k3⟩
    have HID':=Lib.hid (HID.out _ (List.mem_of_getElem? (dnz (i:=i) (by have:=HL1.out;omega))))
    have hlen:=Lib.hid (HNM.out _ (List.mem_of_getElem? (dlz (i:=i) (by have:=HL2.out;omega))))
    have HQ:=Lib.hid (And.intro hcn (And.intro hq1 hq2))
    clear hq1 hq2
    go_wp2_with fail
    go_loopw [8,9] (λss kk wr=>∃(j:Nat),ss=.string (bas (nmA names i))∧kk=.int .i64 j∧j≤n∧Hid (NoBef ids names j i∧Below wo.heap.size wo wr)) (λ_ kk _=>n-(RowKit.intOf kk).toNat)
    case atStart=>exact⟨0,rfl,rfl,Nat.zero_le _,λk hk=>by omega,Below.refl _ _⟩
    case round=>
     obtain⟨j,rfl,rfl,hj,HJ⟩:=hrel
     rename World=>wk
     by_cases hjn:j<n
     ·have hjI:(j:Int)<(n:Int):=by omega
      have hj1:=Int.lt_of_lt_of_le hjI hB1
      have hj2:=Int.lt_of_lt_of_le hjI hB2
      obtain⟨k1,k2,k3⟩:=HC.out j hjn
      have a1:=cell_kept k1 HJ.out.2
      have a2:=cell_kept HQ.out.1 HJ.out.2
      have a3:=cell_kept k2 HJ.out.2
      have a4:=cell_kept k3 HJ.out.2
      have a5:=cell_kept HQ.out.2.1 HJ.out.2
      have a6:=cell_kept HQ.out.2.2 HJ.out.2
      clear k1 k2 k3
      have hbf:evz ids names j i=(decide (nmA names j=nmA names i)&&(lsA (idA ids j) (idA ids i)||(decide (j<i)&&decide (idA ids j=idA ids i)))):=rfl
      have HBF:=Lib.hid hbf
      have hqq:=bas_beq (nmA names j) (nmA names i)
      have cl:=λW=>rless_any (idA ids j).1 (idA ids j).2 (idA ids i).1 (idA ids i).2 W
      have HLE:lessB (idA ids j).1 (idA ids j).2 (idA ids i).1 (idA ids i).2=lsA (idA ids j) (idA ids i):=rfl
      rw[HLE]at cl
      have cm:=λW=>bTz (idA ids j).1 (idA ids j).2 (idA ids i).1 (idA ids i).2 W
      have HSM:azz (idA ids j).1 (idA ids j).2 (idA ids i).1 (idA ids i).2=decide (idA ids j=idA ids i):=by
       unfold azz
       by_cases e:idA ids j=idA ids i
       ·rw[e];simp
       ·rw[decide_eq_false e]
        by_cases e1:(idA ids j).1=(idA ids i).1
        ·have:¬(idA ids j).2=(idA ids i).2:=λe2=>e (Prod.ext e1 e2)
         simp[this]
        ·simp[e1]
      rw[HSM]at cm
      clear HLE HSM hbf
      obtain⟨t,ht⟩:∃t,(idA ids j).1=t:=⟨_,rfl⟩
      obtain⟨u,hu⟩:∃u,(idA ids j).2=u:=⟨_,rfl⟩
      obtain⟨t',ht'⟩:∃t',(idA ids i).1=t':=⟨_,rfl⟩
      obtain⟨u',hu'⟩:∃u',(idA ids i).2=u':=⟨_,rfl⟩
      obtain⟨nj,hnj⟩:∃nj,nmA names j=nj:=⟨_,rfl⟩
      obtain⟨ni,hni⟩:∃ni,nmA names i=ni:=⟨_,rfl⟩
      rw[ht,hu,ht',hu']at cl cm
      rw[ht]at a3
      rw[hu]at a4
      rw[ht']at a5
      rw[hu']at a6
      rw[hnj]at a1
      rw[hni]at a2
      rw[hnj,hni]at hqq
      have HNI:=Lib.hid (And.intro hnj (And.intro hni (And.intro ht' hu')))
      clear ht hu ht' hu' hnj
      rw[hni]
      clear hni
      obtain⟨qv,hqv⟩:∃qv,((bas nj).toList==(bas ni).toList)=qv:=⟨_,rfl⟩
      have HB2:Hid (evz ids names j i=(qv&&(lsA (idA ids j) (idA ids i)||(decide ((j:Int)<(i:Int))&&decide (idA ids j=idA ids i))))):=by
       show _=_
       rw[HBF.out,HNI.out.1,HNI.out.2.1,← hqq,hqv]
       congr 4
       exact propext ⟨λh=>by omega,λh=>by omega⟩
      generalize lsA (idA ids j) (idA ids i)=lv at cl HB2
      generalize decide (idA ids j=idA ids i)=sv at cm HB2
      obtain⟨bv,hbv⟩:∃bv,evz ids names j i=bv:=⟨_,rfl⟩
      have HV:=a0z hbv
      clear hqq HBF hbv
      go_upto_region 12 with fail
      go_cut [67]from 27 to 77 (λv wc=>v=.bool bv∧Hid (Below wk.heap.size wk wc))
      case first=>
       have key:qv=false∨(qv=true∧lv=true)∨(qv=true∧lv=false∧¬(j:Int)<(i:Int))∨(qv=true∧lv=false∧(j:Int)<(i:Int)∧(sv=true∨sv=false)):=by
        cases qv<;>cases lv<;>cases sv<;>simp<;>omega
       rcases key with rfl|⟨rfl,rfl⟩|⟨rfl,rfl,hC⟩|⟨rfl,rfl,hC,rfl|rfl⟩
       all_goals go_wp2_with fail
       refine nOz (by kernel_rfl) g2 o2 _ _ j i nj ni _ rfl rfl rfl rfl (by omega) (by omega) a1 a2 hqv ?_
       rotate_left
       refine ohz (by kernel_rfl) g1 g2 o1 o2 _ _ _ _ j i nj ni t u t' u' _ rfl rfl rfl rfl rfl (by omega) (by omega) (by omega) (by omega) a1 a2 hqv a3 a4 a5 a6 (λW _=>cl W) ?_
       rotate_left
       refine n4z (by kernel_rfl) g1 g2 o1 o2 _ _ _ _ j i nj ni t u t' u' _ rfl rfl rfl rfl rfl (by omega) (by omega) (by omega) (by omega) a1 a2 hqv a3 a4 a5 a6 (λW _=>cl W) (by omega) ?_
       rotate_left
       refine mBz (by kernel_rfl) g1 g2 o1 o2 _ _ _ _ j i nj ni t u t' u' _ rfl rfl rfl rfl rfl (by omega) (by omega) (by omega) (by omega) a1 a2 hqv a3 a4 a5 a6 (λW _=>cl W) (by omega) (λW _=>cm W) ?_
       rotate_left
       refine nlz (by kernel_rfl) g1 g2 o1 o2 _ _ _ _ j i nj ni t u t' u' _ rfl rfl rfl rfl rfl (by omega) (by omega) (by omega) (by omega) a1 a2 hqv a3 a4 a5 a6 (λW _=>cl W) (by omega) (λW _=>cm W) ?_
       rotate_left
       all_goals
        intro w5 hS5
        have HW:=Lib.hid hS5
        clear hS5
        simp only[abz,sA,sB,sC]
        go_wp2_with fail
        go_meet
        case rel=>exact⟨by rw[← HV.out,HB2.out];first|(simp;done)|(rw[decide_eq_true hC];simp;done)|(rw[decide_eq_false (by omega)];simp;done),HW⟩
      case rest=>
       obtain⟨rfl,HW⟩:=hcut
       rename World=>w5
       clear cl cm HB2 hqv
       cases bv
       ·go_wp2_with fail
        exact⟨⟨j+1,rfl,by simp,by omega,HJ.out.1.step HV.out,afz HJ.out.2 HW.out⟩,by simp[RowKit.intOf];omega⟩
       ·have a0:True:=trivial
        have HFI:Hid (shownAt ids names n i=ni++bbz t' u'):=by
         have e:=krz (n:=n) hjn HV.out
         rw[HNI.out.2.1,HNI.out.2.2.1,HNI.out.2.2.2]at e
         exact e
        have hin:InI t'∧InI u':=by have e:=HID'.out;rw[HNI.out.2.2.1,HNI.out.2.2.2]at e;exact e
        have cs:=λW=>gPz t' u' hin.1 hin.2 W
        have ls:(bbz t' u').length≤100:=by
         have x1:=Lib.itoa_length_le t' hin.1.1 hin.1.2
         have x2:=Lib.itoa_length_le u' hin.2.1 hin.2.2
         unfold bbz
         simp
         omega
        have hln:ni.length≤150000000000000:=by have e:=hlen.out;rw[HNI.out.2.1]at e;exact e
        generalize bbz t' u'=sf at cs ls HFI
        obtain⟨fi,hfi⟩:∃fi,fi=ni++sf:=⟨_,rfl⟩
        have az:∀W,(Op.stringOp .add (bas ni) (bas sf)).run Tryz.prog W=.ok (.string (bas fi)) W:=λW=>by rw[hfi];exact bPz ni sf W (by omega)
        rw[← hfi]at HFI
        have b2:=cell_kept a2 HW.out
        have b5:=cell_kept a5 HW.out
        have b6:=cell_kept a6 HW.out
        clear hfi ls hln hin a1 a2 a3 a4 a5 a6
        have HF:∀W,(W.cell? ⟨g2,o2+i,none⟩=some (.string (bas ni))∧W.cell? ⟨g1,o1+i*2,none⟩=some (.int .i64 t')∧W.cell? ⟨g1,o1+i*2+1,none⟩=some (.int .i64 u')∧Hid (Below w5.heap.size w5 W))→Below w5.heap.size w5 W:=λW hW=>hW.2.2.2.out
        have HK:∀W,Below w5.heap.size w5 W→W.cell? ⟨g2,o2+i,none⟩=some (.string (bas ni))∧W.cell? ⟨g1,o1+i*2,none⟩=some (.int .i64 t')∧W.cell? ⟨g1,o1+i*2+1,none⟩=some (.int .i64 u')∧Hid (Below w5.heap.size w5 W):=λW hb=>⟨cell_kept b2 hb,cell_kept b5 hb,cell_kept b6 hb,hb⟩
        have HS:=λW W' h1 (h2:Hid (Below W.heap.size W W'))=>HK W' (afz (HF W h1) h2.out)
        have S1:=HK _ (below_drewN w5 1);have S2:=HK _ (Below.refl _ _)
        go_wp2_with fail
        go_region_held3 (λW=>W.cell? ⟨g2,o2+i,none⟩=some (.string (bas ni))∧W.cell? ⟨g1,o1+i*2,none⟩=some (.int .i64 t')∧W.cell? ⟨g1,o1+i*2+1,none⟩=some (.int .i64 u')∧Hid (Below w5.heap.size w5 W))
         (first|exact S1|exact S2|assumption|exact HS _ _ (by assumption) (by assumption))
         (first|(go_at_call 123;refine acz (cs _) ?_;intro w7 HB7))
        have HBX:=Lib.hid (afz (afz HJ.out.2 HW.out) (HF w7 (by assumption)))
        have HA:=happ (bas fi) (own_below HI.out.1 HBX.out) (Nat.le_trans HI.out.2.size HBX.out.size) (by omega)
        go_wp2_with (at_builtin;refine wpList_appG rfl _ _ rfl Tryz.underlying53 ti_str w.heap.size (.slice p i c) i 1 (strs ((shownL ids names n).take i)) [.string (bas fi)] (some ⟨w7.heap.size,0,none⟩) 1 rfl rfl HA ?_;intro p' c' w8 H8)
        exact⟨⟨i+1,p',c',by simp,by omega,rfl,by rw[← fWz ids names hlt,HFI.out];exact H8.out.1,grown_low (afz HI.out.2 (afz HBX.out (a3z _ _).out)) HA.out.1 H8.out.2 (Nat.le_refl _)⟩,by simp[RowKit.intOf];omega⟩
     ·obtain rfl:n=j:=by omega
      have HFI:Hid (shownAt ids names n i=nmA names i):=HJ.out.1.shown
      have HBX:=Lib.hid HJ.out.2
      generalize nmA names i=ni at*
      have HA:=happ (bas ni) (own_below HI.out.1 HBX.out) (Nat.le_trans HI.out.2.size HBX.out.size) (by omega)
      go_wp2_with (at_builtin;refine wpList_appG rfl _ _ rfl Tryz.underlying53 ti_str w.heap.size (.slice p i c) i 1 (strs ((shownL ids names n).take i)) [.string (bas ni)] (some ⟨wk.heap.size,0,none⟩) 1 rfl rfl HA ?_;intro p' c' w8 H8)
      exact⟨⟨i+1,p',c',by simp,by omega,rfl,by rw[← fWz ids names hlt,HFI.out];exact H8.out.1,grown_low (afz HI.out.2 (afz HBX.out (a3z _ _).out)) HA.out.1 H8.out.2 (Nat.le_refl _)⟩,by simp[RowKit.intOf];omega⟩
   ·obtain rfl:i=n:=by omega
    go_wp2_with fail
    go_ret
    refine⟨p,c,rfl, ?_,HI.out.2⟩
    obtain⟨p',c',e,hcs⟩:=Cs.of_own HI.out.1
    injection e with ea eb ec
    subst ea
    rw[List.take_of_length_le (by rw[shown_len];omega)]at hcs
    exact nms_of_cs hcs
end Go.Proofs.YthhakekbffembaaGreatDoor.Ck.Sh

namespace Go.Proofs.YthhakekbffembaaGreatDoor.Ck.Sh
open Go.RowKit Go.Lib Go.Maps
variable {a:List (Int×Int)} {b:List (List UInt8)} {i:Nat}
structure AP (a:List (Int×Int)) (b:List (List UInt8)):Prop where
 len:a.length=b.length
 val:∀x∈a,validB x.1 x.2=true
 nam:∀x∈b,nameN x=0
 dif:a.Nodup
theorem AP.valAt (h:AP a b) (hi:i<a.length):validB (idA a i).1 (idA a i).2=true:=h.val _ (List.mem_of_getElem? (dnz hi))
theorem AP.namAt (h:AP a b) (hi:i<a.length):nameN (nmA b i)=0:=h.nam _ (List.mem_of_getElem? (dlz (by rw[← h.len];exact hi)))
theorem name_len {l:List UInt8} (h:nameN l=0):l.length≤64:=by
 unfold nameN b3z at h
 split at h
 ·cases h
 ·split at h
  ·cases h
  ·split at h
   ·cases h
   ·split at h
    ·cases h
    ·omega
theorem shown_kept {n:Nat} (h:coz a b n i=true):shownAt a b n i=nmA b i:=by unfold shownAt;rw[if_pos h]
theorem jLz {n:Nat} (h:coz a b n i=false):shownAt a b n i=nmA b i++bbz (idA a i).1 (idA a i).2:=by unfold shownAt;rw[if_neg (by rw[h];decide)]
theorem AP.split_kept (h:AP a b) (hi:i<a.length) (hk:coz a b a.length i=true):bfz (shownAt a b a.length i)=none:=by
 rw[shown_kept hk]
 exact(fOz _).unique (h7z (e0z (h.namAt hi)))
theorem AP.split_not (h:AP a b) (hi:i<a.length) (hk:coz a b a.length i=false):bfz (shownAt a b a.length i)=some (nmA b i,(idA a i).1,(idA a i).2):=by
 rw[jLz hk]
 exact(fOz _).unique ⟨h.namAt hi,h.valAt hi,rfl⟩
theorem AP.ins (h:AP a b):∀x∈a,InI x.1∧InI x.2:=λx hx=>by
 have:=bEz (h.val x hx)
 exact⟨⟨by omega,by omega⟩,⟨by omega,by omega⟩⟩
theorem AP.lens (h:AP a b):∀x∈b,x.length≤150000000000000:=λx hx=>by
 have:=name_len (h.nam x hx)
 omega
def bIz:List (Int×Int)→List Value
 |[]=>[]
 |x::l=>.int .i64 x.1:: .int .i64 x.2::bIz l
theorem idsC_append:∀l m:List (Int×Int),bIz (l++m)=bIz l++bIz m
 |[],_=>rfl
 |_::l,m=>by simp only[List.cons_append,bIz,idsC_append l m]
theorem jkz:∀(l:List (Int×Int)) (j:Nat) (x:Int×Int),l[j]? =some x→(bIz l)[j*2]? =some (.int .i64 x.1)∧(bIz l)[j*2+1]? =some (.int .i64 x.2)
 |[],j,x,h=>by simp at h
 |y::l,0,x,h=>by
  simp only[List.getElem?_cons_zero,Option.some.injEq]at h
  subst h
  exact⟨rfl,rfl⟩
 |y::l,j+1,x,h=>by
  have:=jkz l j x (by simpa using h)
  rw[show(j+1)*2=j*2+1+1 by omega]
  simp only[bIz,List.getElem?_cons_succ]
  exact this
theorem ids_of_cs {w:World} {p:Option Addr} {l:List (Int×Int)} (h:Cs w p (bIz l)):Ids w p l:=λj x hx=>by
 obtain⟨e1,e2⟩:=jkz l j x hx
 obtain⟨g,o,e,h1⟩:=h _ _ e1
 obtain⟨g',o',e',h2⟩:=h _ _ e2
 cases e
 cases e'
 exact⟨g,o,rfl,h1,by rw[Nat.add_assoc];exact h2⟩
theorem happI {W:World} {base:Nat} {p:Option Addr} {c:Nat} {xs:List Value} (t u:Int) (h:W.ownsRow base 28 2 (.slice p i c) i xs) (hb:base≤W.heap.size) (hi:i<1000000000000):
  Hid ((W.alloc (.cells #[.int .i64 t,.int .i64 u] 28)).ownsRow base 28 2 (.slice p i c) i xs∧Cs (W.alloc (.cells #[.int .i64 t,.int .i64 u] 28)) (some ⟨W.heap.size,0,none⟩) [.int .i64 t,.int .i64 u]∧[Value.int .i64 t,Value.int .i64 u].length=1*2∧(∀x∈[Value.int .i64 t,Value.int .i64 u],x.oneCell'=true)∧(i+1)*16≤140737488355328∧i+1≤140737488355328∧base≤(W.alloc (.cells #[.int .i64 t,.int .i64 u] 28)).heap.size):=by
 refine⟨own_below h (a3z W _).out,λj v hv=>⟨W.heap.size,0,rfl, ?_⟩,rfl,λx hx=> ?_,by omega,by omega,by simp;omega⟩
 ·rw[Nat.zero_add,cellOf (heap_alloc_new W _) j]
  simpa using hv
 ·rcases List.mem_cons.1 hx with rfl|hx
  ·rfl
  ·rw[List.mem_singleton.1 hx];rfl
theorem own_other {w w':World} {b1 b2:Nat} {e1 e2:TypeId} {s1 s2 n1 n2:Nat} {v1 v2:Value} {x1 x2:List Value} (h1:w.ownsRow b1 e1 s1 v1 n1 x1) (h2:w.ownsRow b2 e2 s2 v2 n2 x2) (hne:e1≠e2) (hg:w.grownBy w' v2.ownBlock):w'.ownsRow b1 e1 s1 v1 n1 x1:=by
 obtain⟨hl,h|⟨g,cap,cur,rfl,k1,hb,k2⟩⟩:=h1
 ·exact⟨hl,.inl h⟩
 ·refine⟨hl,.inr ⟨g,cap,cur,rfl,k1,(hg.block g (block_lt hb) ?_).trans hb,k2⟩⟩
  intro e
  rcases h2.2 with⟨rfl,_⟩|⟨g',cap',cur',rfl,_,hb',_⟩
  ·cases e
  ·injection e with e
   have e:g=g':=e
   subst e
   rw[hb]at hb'
   injection hb' with hb'
   injection hb' with _ e2
   exact hne e2
end Go.Proofs.YthhakekbffembaaGreatDoor.Ck.Sh
