import Derived.Test.YthhakekbffembaaGreatDoorQAe
set_option maxRecDepth 8000
set_option maxHeartbeats 4000000

namespace Go.Proofs.YthhakekbffembaaGreatDoor.Ck.Sh
open Go.RowKit Go.Lib Go.Maps
attribute [local go_sem] Oper.semAt_some
def Ids (w:World) (p:Option Addr) (ids:List (Int×Int)):Prop:=∀(j:Nat) (x:Int×Int),ids[j]? =some x→∃g o,p=some ⟨g,o,none⟩∧w.cell? ⟨g,o+j*2,none⟩=some (.int .i64 x.1)∧w.cell? ⟨g,o+j*2+1,none⟩=some (.int .i64 x.2)
def Nms (w:World) (p:Option Addr) (names:List (List UInt8)):Prop:=∀(j:Nat) (x:List UInt8),names[j]? =some x→∃g o,p=some ⟨g,o,none⟩∧w.cell? ⟨g,o+j,none⟩=some (.string (bas x))
theorem Ids.below {w w':World} {p:Option Addr} {ids:List (Int×Int)} (h:Ids w p ids) (hb:Below w.heap.size w w'):Ids w' p ids:=λj x hx=>by
 obtain⟨g,o,e,h1,h2⟩:=h j x hx
 exact⟨g,o,e,cell_kept h1 hb,cell_kept h2 hb⟩
theorem Nms.below {w w':World} {p:Option Addr} {names:List (List UInt8)} (h:Nms w p names) (hb:Below w.heap.size w w'):Nms w' p names:=λj x hx=>by
 obtain⟨g,o,e,h1⟩:=h j x hx
 exact⟨g,o,e,cell_kept h1 hb⟩
theorem dnz {ids:List (Int×Int)} {i:Nat} (h:i<ids.length):ids[i]? =some (idA ids i):=by
 unfold idA
 rw[List.getD,List.getElem?_eq_getElem h];rfl
theorem dlz {names:List (List UInt8)} {i:Nat} (h:i<names.length):names[i]? =some (nmA names i):=by
 unfold nmA
 rw[List.getD,List.getElem?_eq_getElem h];rfl
theorem n5z (w:World):MapS (w.alloc (.map #[] 0)) w.heap.size []:=⟨#[],0,heap_alloc_new w _,rfl⟩
theorem eVz {w0 w w':World} {b:Nat} (h:Below w0.heap.size w0 w) (ho:Only (· =b) w w') (hb:w0.heap.size≤b):Below w0.heap.size w0 w':=
 ⟨ho.os.trans h.os,ho.tape.trans h.tape,ho.output.trans h.output,Nat.le_trans h.size ho.size,λi hi=>(ho.block i (Nat.lt_of_lt_of_le hi h.size) (by omega)).trans (h.block i hi)⟩
theorem emz {w:World} {ops:Array Oper} {rest:List Oper} {o:Oper} {a:Act} {Q:Exit→Act→World→Prop} (hgd:o.guard=none) (m x y:Operand) (ho:o.op=.mapUpdate 174 m x y)
  (mb j:Nat) (q:List UInt8) (E:List (List UInt8×Nat)) (hm:a.eval m=.map (some mb)) (hx:a.eval x=.string (bas q)) (hy:a.eval y=.int .i64 (j:Nat)) (h:Hid (MapS w mb E)) (hK:∀w' E',Hid (MapS w' mb E'∧(∀x,atS E' x=if x=q then some j else atS E x)∧Only (· =mb) w w')→wpList Tryz.prog ops Q rest (a.put o.dst undef) w'):wpList Tryz.prog ops Q (o::rest) a w:=by
 obtain⟨W,E',hr,h1,h2,h3,_⟩:=oAz h.out q j
 refine wpList_plain hgd λK hK'=> ?_
 unfold Oper.wp execOp
 simp only[ho,hm,hx,hy,Sem.run_bind,Sem.run_pure,Result.andThen_ok,hr]
 exact hK' _ _ (hK W E' ⟨h1,h2,h3⟩)
theorem jIz (ids:List (Int×Int)) (names:List (List UInt8)) (p1 p2:Option Addr) (n c1 c2:Nat) (w:World) (h1:Ids w p1 ids) (h2:Nms w p2 names) (hn1:n≤ids.length) (hn2:n≤names.length) (hn:n<1000000000000000):
  Calls Tryz.prog 124 #[.slice p1 n c1,.slice p2 n c2] w λe w'=>∃E,e=.returned (.map (some w.heap.size))∧Hid (MapS w' w.heap.size E∧FirstI ids names n E∧Below w.heap.size w w'):=by
 have hmm:= @run_makeMap Tryz.prog
 have H1:=Lib.hid h1
 have H2:=Lib.hid h2
 clear h1 h2
 go_enter Tryz.func124,Tryz.ntmps124
 go_wp2_with fail
 go_loopw [13] (λii wr=>∃(i:Nat) (E:List (List UInt8×Nat)),ii=.int .i64 i∧i≤n∧Hid (MapS wr w.heap.size E∧FirstI ids names i E∧Below w.heap.size w wr)) (λii _=>n-(RowKit.intOf ii).toNat)
 case atStart=>exact⟨0,[],rfl,Nat.zero_le _,n5z w,FirstI.nil _ _,(a3z w _).out⟩
 case round=>
  obtain⟨i,E,rfl,hi,HI⟩:=hrel
  by_cases hlt:i<n
  ·have hltI:(i:Int)<(n:Int):=by omega
   obtain⟨g2,o2,rfl,hc2⟩:=(H2.out.below HI.out.2.2) i _ (dlz (by omega))
   obtain⟨g1,o1,rfl,hc1,hc1'⟩:=(H1.out.below HI.out.2.2) i _ (dnz (by omega))
   have HP:Hid (∀p,p<n→wr.cell? ⟨g1,o1+p*2,none⟩=some (.int .i64 (idA ids p).1)∧wr.cell? ⟨g1,o1+p*2+1,none⟩=some (.int .i64 (idA ids p).2)):=λp hp=>by
    obtain⟨g,o,e,h1,h2⟩:=(H1.out.below HI.out.2.2) p _ (dnz (by omega))
    cases e
    exact⟨h1,h2⟩
   have hlk:=look_ok HI.out.1 (nmA names i)
   cases hq:atS E (nmA names i)with
   |none=>
    rw[hq]at hlk
    have hlk':(Instr.lookup 174 (.map (some w.heap.size)) (.string (bas (nmA names i))) true).run Tryz.prog wr=.ok (.tuple #[.int .i64 0,.bool false]) wr:=hlk
    have HQ:=Lib.hid hq
    clear hlk hq
    go_wp2_with fail
    go_quiet (fail)
    go_wp2_with (refine emz rfl _ _ _ rfl w.heap.size i (nmA names i) E rfl rfl rfl (Lib.hid HI.out.1) ?_;intro w4 E' H4)
    exact⟨⟨i+1,E',by simp,by omega,H4.out.1,HI.out.2.1.put H4.out.2.1 (λp hp=>by rw[HQ.out]at hp;cases hp),eVz (afz HI.out.2.2 (below_drewN wr _)) H4.out.2.2 (Nat.le_refl _)⟩,by simp[RowKit.intOf];omega⟩
   |some p=>
    rw[hq]at hlk
    have hlk':(Instr.lookup 174 (.map (some w.heap.size)) (.string (bas (nmA names i))) true).run Tryz.prog wr=.ok (.tuple #[.int .i64 (p:Nat),.bool true]) wr:=hlk
    have hpn:p<n:=by
     have:=HI.out.2.1 (nmA names i)
     rw[hq]at this
     have:=this.1
     omega
    have hpI:(p:Int)<(n:Int):=by omega
    obtain⟨hcp,hcp'⟩:=HP.out p hpn
    have cl:=λW=>less_any (idA ids i).1 (idA ids i).2 (idA ids p).1 (idA ids p).2 W
    have HLE:Hid (lessB (idA ids i).1 (idA ids i).2 (idA ids p).1 (idA ids p).2=lsA (idA ids i) (idA ids p)):=rfl
    have HQ:=Lib.hid hq
    rw[HLE.out]at cl
    clear hlk hq HP
    obtain⟨t,ht⟩:∃t,(idA ids i).1=t:=⟨_,rfl⟩
    obtain⟨u,hu⟩:∃u,(idA ids i).2=u:=⟨_,rfl⟩
    obtain⟨t',ht'⟩:∃t',(idA ids p).1=t':=⟨_,rfl⟩
    obtain⟨u',hu'⟩:∃u',(idA ids p).2=u':=⟨_,rfl⟩
    rw[ht,hu,ht',hu']at cl
    rw[ht]at hc1
    rw[hu]at hc1'
    rw[ht']at hcp
    rw[hu']at hcp'
    clear ht hu ht' hu' HLE
    have HF:∀W,(W.cell? ⟨g1,o1+i*2,none⟩=some (.int .i64 t)∧W.cell? ⟨g1,o1+i*2+1,none⟩=some (.int .i64 u)∧W.cell? ⟨g1,o1+p*2,none⟩=some (.int .i64 t')∧W.cell? ⟨g1,o1+p*2+1,none⟩=some (.int .i64 u')∧Hid (Below wr.heap.size wr W))→Below wr.heap.size wr W:=λW hW=>hW.2.2.2.2.out
    have HK:∀W,Below wr.heap.size wr W→W.cell? ⟨g1,o1+i*2,none⟩=some (.int .i64 t)∧W.cell? ⟨g1,o1+i*2+1,none⟩=some (.int .i64 u)∧W.cell? ⟨g1,o1+p*2,none⟩=some (.int .i64 t')∧W.cell? ⟨g1,o1+p*2+1,none⟩=some (.int .i64 u')∧Hid (Below wr.heap.size wr W):=λW hb=>⟨cell_kept hc1 hb,cell_kept hc1' hb,cell_kept hcp hb,cell_kept hcp' hb,hb⟩
    have HS:=λW W' h1 (h2:Hid (Below W.heap.size W W'))=>HK W' (afz (HF W h1) h2.out)
    have S1:=HK _ (below_drewN wr 1);have S2:=HK _ (Below.refl _ _)
    cases hls:lsA (idA ids i) (idA ids p)with
    |true=>
     rw[hls]at cl
     have HLS:=Lib.hid hls
     clear hls
     go_wp2_with fail
     go_region_held3 (λW=>W.cell? ⟨g1,o1+i*2,none⟩=some (.int .i64 t)∧W.cell? ⟨g1,o1+i*2+1,none⟩=some (.int .i64 u)∧W.cell? ⟨g1,o1+p*2,none⟩=some (.int .i64 t')∧W.cell? ⟨g1,o1+p*2+1,none⟩=some (.int .i64 u')∧Hid (Below wr.heap.size wr W))
      (first|exact S1|exact S2|assumption|exact HS _ _ (by assumption) (by assumption))
      (first|(go_at_call 167;refine acz (cl _) ?_;intro w3 HB3))
     have HW:=Lib.hid (HF _ (by assumption))
     have HM:=Lib.hid (HI.out.1.below HW.out)
     go_wp2_with (refine emz rfl _ _ _ rfl w.heap.size i (nmA names i) E rfl rfl rfl HM ?_;intro w4 E' H4)
     exact⟨⟨i+1,E',by simp,by omega,H4.out.1,HI.out.2.1.put H4.out.2.1 (λp' hp'=>by rw[HQ.out]at hp';injection hp' with hp';subst hp';exact HLS.out),eVz (afz HI.out.2.2 HW.out) H4.out.2.2 (Nat.le_refl _)⟩,by simp[RowKit.intOf];omega⟩
    |false=>
     rw[hls]at cl
     have HLS:=Lib.hid hls
     clear hls
     go_wp2_with fail
     go_region_held3 (λW=>W.cell? ⟨g1,o1+i*2,none⟩=some (.int .i64 t)∧W.cell? ⟨g1,o1+i*2+1,none⟩=some (.int .i64 u)∧W.cell? ⟨g1,o1+p*2,none⟩=some (.int .i64 t')∧W.cell? ⟨g1,o1+p*2+1,none⟩=some (.int .i64 u')∧Hid (Below wr.heap.size wr W))
      (first|exact S1|exact S2|assumption|exact HS _ _ (by assumption) (by assumption))
      (first|(go_at_call 167;refine acz (cl _) ?_;intro w3 HB3))
     have HW:=Lib.hid (HF _ (by assumption))
     go_wp2_with fail
     exact⟨⟨i+1,E,by simp,by omega,HI.out.1.below HW.out,HI.out.2.1.stay HQ.out HLS.out,afz HI.out.2.2 HW.out⟩,by simp[RowKit.intOf];omega⟩
  ·obtain rfl:i=n:=by omega
   go_wp2_with fail
   go_ret
   exact⟨E,rfl,HI⟩
end Go.Proofs.YthhakekbffembaaGreatDoor.Ck.Sh

namespace Go.Proofs.YthhakekbffembaaGreatDoor.Ck.Sh
open Go.RowKit Go.Lib Go.Maps
attribute [local go_sem] Oper.semAt_some
variable {w:World} {gs n i:Nat} {f:Nat→List UInt8}
def ShI (w:World) (gs n i:Nat) (f:Nat→List UInt8):Prop:=∃cur,w.heap[gs]? =some (.cells cur 9 (0,0))∧cur.size=n∧∀j,j<i→cur[j]? =some (.string (bas (f j)))
theorem ShI.below {w':World} (h:ShI w gs n i f) (hb:Below w.heap.size w w'):ShI w' gs n i f:=by
 obtain⟨cur,h1,h2⟩:=h
 exact⟨cur,(hb.block gs (block_lt h1)).trans h1,h2⟩
theorem ShI.put (h:ShI w gs n i f) (hi:i<n):ShI (w.setCell ⟨gs,i,none⟩ (.string (bas (f i)))) gs n (i+1) f:=by
 obtain⟨cur,h1,h2,h3⟩:=h
 refine⟨_,a7z h1 _,by simp[h2],λj hj=> ?_⟩
 rw[Array.getElem?_setIfInBounds]
 by_cases hji:i=j
 ·subst hji;simp[h2,hi]
 ·rw[if_neg hji];exact h3 j (by omega)
theorem ShI.cell (h:ShI w gs n i f) {j:Nat} (hj:j<n):∃v,w.cell? ⟨gs,j,none⟩=some v:=by
 obtain⟨cur,h1,h2,h3⟩:=h
 exact⟨_,(cellOf h1 j).trans (Array.getElem?_eq_getElem (by omega))⟩
theorem ShI.fz (h:ShI w gs n i f) (j:Nat):w.frozen? ⟨gs,j,none⟩=false:=by
 obtain⟨cur,h1,h2,h3⟩:=h
 exact aez h1 j
theorem ShI.nms {ids:List (Int×Int)} {names:List (List UInt8)} (h:ShI w gs n n (shownAt ids names n)):Nms w (some ⟨gs,0,none⟩) (shownL ids names n):=λj x hx=>by
 obtain⟨cur,h1,h2,h3⟩:=h
 unfold shownL at hx
 rw[List.getElem?_map]at hx
 have hj:j<n:=by
  by_cases hj:j<n
  ·exact hj
  ·rw[List.getElem?_eq_none (by simp;omega)]at hx;cases hx
 rw[List.getElem?_range hj]at hx
 simp only[Option.map_some,Option.some.injEq]at hx
 refine⟨gs,0,rfl, ?_⟩
 rw[Nat.zero_add,cellOf h1 j,h3 j hj,hx]
theorem shown_row (ids:List (Int×Int)) (names:List (List UInt8)) (p1 p2:Option Addr) (c1 c2:Nat) (w:World) (hL:Lb w) (h1:Ids w p1 ids) (h2:Nms w p2 names) (hc1:ids.length≤c1) (hc2:names.length≤c2) (hn1:ids.length<1000000000000) (hid:∀x∈ids,InI x.1∧InI x.2) (hnm:∀x∈names,x.length≤150000000000000):
  Calls Tryz.prog 89 #[.slice p1 ids.length c1,.slice p2 names.length c2] w λe w'=>∃gs,e=.returned (.slice (some ⟨gs,0,none⟩) (min ids.length names.length) (min ids.length names.length))∧Hid (ShI w' gs (min ids.length names.length) (min ids.length names.length) (shownAt ids names (min ids.length names.length))∧w.heap.size≤gs∧Below w.heap.size w w'):=by
 obtain⟨n,hn⟩:∃n,min ids.length names.length=n:=⟨_,rfl⟩
 rw[hn]
 have l1:n≤ids.length:=by omega
 have l2:n≤names.length:=by omega
 have hnI:min (ids.length:Int) (names.length:Int)=(n:Int):=by omega
 have cf:=λW (hb:Below w.heap.size w W)=>jIz ids names p1 p2 n c1 c2 W (h1.below hb) (h2.below hb) l1 l2 (by omega)
 have HL:=Lib.hid hL
 have H1:=Lib.hid h1
 have H2:=Lib.hid h2
 clear hL h1 h2 hn
 have lI1:(n:Int)≤(ids.length:Int):=by omega
 have lI2:(n:Int)≤(names.length:Int):=by omega
 have k1:n≤c1:=by omega
 have k2:n≤c2:=by omega
 obtain⟨L1,hl1⟩:∃L1,ids.length=L1:=⟨_,rfl⟩
 obtain⟨L2,hl2⟩:∃L2,names.length=L2:=⟨_,rfl⟩
 have hnn:n<10000000000000:=by omega
 rw[hl1]at hnI lI1 l1⊢
 rw[hl2]at hnI lI2 l2⊢
 have HQ:=Lib.hid (And.intro hl1 hl2)
 clear hc1 hc2 hn1 hl1 hl2
 go_enter Tryz.func89,Tryz.ntmps89
 go_wp2_with fail
 have S1:Hid (Below w.heap.size w w.drew):=below_drewN w 1
 have S2:Hid (Below w.heap.size w w):=Below.refl _ _
 have HS:∀W,Hid (Below w.heap.size w W)→Hid (Below w.heap.size w W):=λ_ h=>h
 go_region_held3 (λW=>Hid (Below w.heap.size w W))
  (first|exact S1|exact S2|assumption|exact HX.out.2)
  (first|(go_at_call 124;refine(cf _ (Hid.out (by assumption))).mono ?_;rintro e w3 ⟨E,rfl,HE⟩;have HX:=Lib.hid (And.intro HE.out.1 (afz S1.out HE.out.2.2))))
 have HB3:=Lib.hid (afz S1.out HE.out.2.2)
 have HF:=Lib.hid HE.out.2.1
 have HM3:=Lib.hid HE.out.1
 clear HX HE HS cf S1 S2
 obtain⟨i0,hi0,hz0,hz1,hz2⟩:=ti_str.info
 obtain⟨M,hM⟩:∃M,M=madeCells (Value.string ⟨#[]⟩).cells (((n:Nat):Int).toNat*i0.size):=⟨_,rfl⟩
 have hMs:M.size=n:=by rw[hM,size_madeCells,hz1];simp
 have hmk:∀W:World,(Instr.makeSlice 53 (.int .i64 (n:Int)) (.int .i64 (n:Int))).run Tryz.prog W=.ok (.slice (some ⟨W.heap.size,0,none⟩) n n) (W.alloc (.cells M 9)):=λW=>by
  have h:=run_make (P:=Tryz.prog) W 53 9 i0 (.string ⟨#[]⟩) Tryz.underlying53 hi0 hz0 .i64 .i64 (n:Int) (n:Int) (by omega) (by omega) (by rw[hz2];omega) (by omega)
  rw[← hM]at h
  simpa using h
 obtain⟨gs,hgs⟩:∃gs,w3.heap.size=gs:=⟨_,rfl⟩
 have HM0:Hid (ShI (w3.alloc (.cells M 9)) gs n 0 (shownAt ids names n)):=⟨M,by rw[← hgs];exact heap_alloc_new w3 _,hMs,λj hj=>by omega⟩
 have hgs1:Hid (w.heap.size<gs):=by rw[← hgs];exact HM3.out.lt
 have HG:=Lib.hid hgs
 clear hM hMs hz0 hz1 hz2 hi0 hgs
 go_wp2_with fail
 rw[HG.out]
 go_loopw [28] (λii wr=>∃(i:Nat),ii=.int .i64 i∧i≤n∧Hid (ShI wr gs n i (shownAt ids names n)∧MapS wr w.heap.size E∧Below w.heap.size w wr)) (λii _=>n-(RowKit.intOf ii).toNat)
 case atStart=>exact⟨0,rfl,Nat.zero_le _,HM0.out,HM3.out.below (a3z w3 _).out,afz HB3.out (a3z w3 _).out⟩
 case round=>
  obtain⟨i,rfl,hi,HI⟩:=hrel
  by_cases hlt:i<n
  ·have hltI:(i:Int)<(n:Int):=by omega
   obtain⟨g2,o2,rfl,hcn⟩:=(H2.out.below HI.out.2.2) i _ (dlz (by rw[HQ.out.2];omega))
   have hlk:=ihz HI.out.2.1 (nmA names i)
   have hkp:=HF.out.keeps hlt
   obtain⟨v0,hv0⟩:=HI.out.1.cell hlt
   obtain⟨k,hk⟩:∃k,(atS E (nmA names i)).getD 0=k:=⟨_,rfl⟩
   rw[hk]at hlk hkp
   clear hk
   have hlen:(nmA names i).length≤150000000000000:=hnm _ (List.mem_of_getElem? (dlz (by rw[HQ.out.2];omega)))
   by_cases hki:k=i
   ·have hsh:shownAt ids names n i=nmA names i:=by
     unfold shownAt
     rw[if_pos]
     rw[← hkp];exact decide_eq_true hki
    have ck:=λW=>bsz (bas (nmA names i)) W (by rw[bas_size];omega)
    rw[← hsh]at ck hcn hlk
    have HSH:=Lib.hid hsh
    subst hki
    generalize nmA names k=nm at*
    clear hsh hkp hlen
    generalize hfi:shownAt ids names n k=fi at*
    go_wp2_with (go_at_call 106;refine(ck _).mono ?_;rintro e w4 ⟨rfl,hb4⟩;have q1:=HI.out.1.below hb4;obtain⟨v1,hv1⟩:=q1.cell hlt;have hf1:=q1.fz k;have HQ1:=Lib.hid q1;have HB4:=Lib.hid hb4;clear hb4 q1 ck)
    exact⟨⟨k+1,by simp,by omega,by rw[← hfi];exact HQ1.out.put hlt,(HI.out.2.1.below HB4.out).kept (Only.setCell (S:=(· =gs)) _ _ _ rfl) (by have:=hgs1.out;omega),aIz (afz HI.out.2.2 HB4.out) (by have:=hgs1.out;omega)⟩,by simp[RowKit.intOf];omega⟩
   ·have hkI:((k:Int)==(i:Int))=false:=by rw[beq_eq_false_iff_ne];omega
    have hkJ:¬(k:Int)=(i:Int):=by omega
    have hia:=dnz (ids:=ids) (i:=i) (by rw[HQ.out.1];omega)
    obtain⟨g1,o1,rfl,hq1,hq2⟩:=(H1.out.below HI.out.2.2) i _ hia
    have hid':=hid _ (List.mem_of_getElem? hia)
    have hsh:shownAt ids names n i=nmA names i++bbz (idA ids i).1 (idA ids i).2:=by
     unfold shownAt
     rw[if_neg]
     rw[← hkp,decide_eq_false hki];decide
    have cs:=λW (hW:Lb W)=>fjz (idA ids i).1 (idA ids i).2 hid'.1 hid'.2 W hW
    have ls:(bbz (idA ids i).1 (idA ids i).2).length≤100:=by
     have a1:=Lib.itoa_length_le (idA ids i).1 hid'.1.1 hid'.1.2
     have a2:=Lib.itoa_length_le (idA ids i).2 hid'.2.1 hid'.2.2
     unfold bbz
     simp
     omega
    generalize bbz (idA ids i).1 (idA ids i).2=sf at hsh cs ls
    generalize hfi:shownAt ids names n i=fi at*
    have az:∀W,(Op.stringOp .add (bas (nmA names i)) (bas sf)).run Tryz.prog W=.ok (.string (bas fi)) W:=λW=>by rw[hsh];exact bPz _ sf W (by omega)
    generalize nmA names i=nm at*
    obtain⟨t,ht⟩:∃t,(idA ids i).1=t:=⟨_,rfl⟩
    obtain⟨u,hu⟩:∃u,(idA ids i).2=u:=⟨_,rfl⟩
    rw[ht]at hq1 cs
    rw[hu]at hq2 cs
    clear hsh hkp hlen hki ht hu hid' hia ls hid hnm
    go_wp2_with (go_at_call 122;refine(cs _ (HL.out.below HI.out.2.2)).mono ?_;rintro e w4 ⟨rfl,hb4⟩;have q1:=HI.out.1.below hb4;obtain⟨v1,hv1⟩:=q1.cell hlt;have hf1:=q1.fz i;have HQ1:=Lib.hid q1;have HB4:=Lib.hid hb4;clear hb4 q1 cs)
    exact⟨⟨i+1,by simp,by omega,by rw[← hfi];exact HQ1.out.put hlt,(HI.out.2.1.below HB4.out).kept (Only.setCell (S:=(· =gs)) _ _ _ rfl) (by have:=hgs1.out;omega),aIz (afz HI.out.2.2 HB4.out) (by have:=hgs1.out;omega)⟩,by simp[RowKit.intOf];omega⟩
  ·obtain rfl:i=n:=by omega
   go_wp2_with fail
   go_ret
   exact⟨gs,rfl,HI.out.1,Nat.le_of_lt hgs1.out,HI.out.2.2⟩
theorem shown_any (ids:List (Int×Int)) (names:List (List UInt8)) (p1 p2:Option Addr) (c1 c2:Nat) (w:World) (hL:Lb w) (h1:Ids w p1 ids) (h2:Nms w p2 names) (hc1:ids.length≤c1) (hc2:names.length≤c2) (hn1:ids.length<1000000000000) (hid:∀x∈ids,InI x.1∧InI x.2) (hnm:∀x∈names,x.length≤150000000000000):
  Calls Tryz.prog 89 #[.slice p1 ids.length c1,.slice p2 names.length c2] w λe w'=>∃p,e=.returned (.slice p (min ids.length names.length) (min ids.length names.length))∧Hid (Nms w' p (shownL ids names (min ids.length names.length))∧Below w.heap.size w w'):=by
 refine(shown_row ids names p1 p2 c1 c2 w hL h1 h2 hc1 hc2 hn1 hid hnm).mono ?_
 rintro e w' ⟨gs,rfl,H⟩
 exact⟨_,rfl,H.out.1.nms,H.out.2.2⟩
end Go.Proofs.YthhakekbffembaaGreatDoor.Ck.Sh

namespace Go.Proofs.YthhakekbffembaaGreatDoor.Ck.Sh
open Go.RowKit Go.Lib Go.Maps
attribute [local go_sem] Oper.semAt_some
def azz (t n t' n':Int):Bool:=decide (t=t')&&decide (n=n')
theorem bTz (t n t' n':Int) (w:World):Calls Tryz.prog 15 #[idv t n,idv t' n'] w λe w'=>e=.returned (.bool (azz t n t' n'))∧Below w.heap.size w w':=by
 have HB:Hid (∀o o',Below w.heap.size w ((w.alloc o).alloc o')):=λo o'=>(b0z w o o').out
 by_cases h0:t=t'
 ·subst h0
  have HE:Hid (azz t n t n'=decide (n=n')):=by show _=_;simp[azz]
  go_enter Tryz.func15,Tryz.ntmps15
  go_wp2
  go_ret
  rw[HE.out]
  exact⟨by simp;rfl,HB.out _ _⟩
 ·have HE:Hid (azz t n t' n'=false):=by show _=_;simp[azz,h0]
  go_enter Tryz.func15,Tryz.ntmps15
  go_wp2
  go_ret
  rw[HE.out]
  exact⟨by simp,HB.out _ _⟩
end Go.Proofs.YthhakekbffembaaGreatDoor.Ck.Sh

namespace Go.Proofs.YthhakekbffembaaGreatDoor.Ck.Sh
open Go.RowKit Go.Lib Go.Maps
attribute [local go_sem] Oper.semAt_some
variable {Q:Exit→Act→World→Prop} {base:Array Value} {dd:List Deferred} {ops:Array Oper}
theorem nOz (hops:Tryz.f87.body.bind (alz 12)=some ops) (g2 O2 L2 c2 J K:Nat) (nj ni:List UInt8) (w9:World) (hsz:base.size=83) (b1:base.getD 1 undef=.slice (some ⟨g2,O2,none⟩) L2 c2) (b7:base.getD 7 undef=iV (K:Nat)) (b9:base.getD 9 undef=iV (J:Nat)) (hj2:J<L2) (hk2:K<L2) (hn1:w9.cell? ⟨g2,O2+J,none⟩=some (.string (bas nj))) (hn2:w9.cell? ⟨g2,O2+K,none⟩=some (.string (bas ni))) (hq:((bas nj).toList==(bas ni).toList)=false) (hQ:∀W,Below w9.heap.size w9 W→Q .normal ⟨abz base [(some 32,.slice (some ⟨g2,O2,none⟩) L2 c2),(some 33,iV (J:Nat)),(some 34,.pointer (some ⟨g2,O2+J,none⟩)),(some 35,.string (bas nj)),(some 36,.slice (some ⟨g2,O2,none⟩) L2 c2),(some 37,iV (K:Nat)),(some 38,.pointer (some ⟨g2,O2+K,none⟩)),(some 39,.string (bas ni)),(some 40,.bool false),(some 41,.bool false),(some 42,undef),(some 43,undef),(some 44,undef),(some 45,undef),(some 46,undef),(some 47,undef),(some 48,undef),(some 49,undef),(some 50,undef),(some 51,undef),(some 52,undef),(some 53,undef),(some 54,undef),(some 55,undef),(some 56,undef),(some 57,undef),(some 58,undef),(some 59,undef),(some 60,undef),(some 61,undef),(some 62,undef),(some 63,undef),(some 64,undef),(some 65,undef),(some 66,undef),(some 67,.bool false)],dd⟩ W):
  (Code.region 12 ops true).wp Tryz.prog Q ⟨base,dd⟩ w9:=by
 obtain rfl:=Option.some.inj ((show Tryz.f87.body.bind (alz 12)=some _ from rfl).symm.trans hops);clear hops
 refine rU (by kernel_rfl) 83 hsz (by kernel_rfl) rfl hQ λLL hLe b W Ii Oo a hS hcl ho hb hd ev kp yl=> ?_
 have vv6:aaz LL 6=.pointer (some ⟨g2,O2+K,none⟩):=vL hLe rfl
 have vv7:aaz LL 7=.string (bas ni):=vL hLe rfl
 have vv9:aaz LL 9=.bool false:=vL hLe rfl
 have vv19:aaz LL 19=undef:=vL hLe rfl
 have vv23:aaz LL 23=undef:=vL hLe rfl
 have Vv:=aV hLe;have Ee:=aE hLe rfl ev
 have e1:=(kp 1 (by kernel_rfl)).trans b1
 have e9:=(kp 9 (by kernel_rfl)).trans b9
 have e7:=(kp 7 (by kernel_rfl)).trans b7
 have d9_0:=(hS.cell (p:=⟨g2,O2+J,none⟩) (a4z hn1)).trans hn1
 simp only[AV,AE,Nat.zero_add,Nat.reduceAdd,and_true]at Vv Ee
 match Ii with
 |0|1|2|3|4|5|6|8|9|35=>simp only[qq]at ho;subst ho;have hd:=aD hd;simp only[AD,and_true]at hd;simp only[Vv];exact dV (by simp[execOp,go_sem,Ee,d9_0,e1,e7,e9,hd,hj2,hk2,hq]) hS
 |7=>simp only[qq]at ho;subst ho;have e38:=eD ev hd 6 38 vv6;have d9_0:=(hS.cell (p:=⟨g2,O2+K,none⟩) (a4z hn2)).trans hn2;rw[vv7];exact dV (by simp[execOp,go_sem,e38,d9_0]) hS
 |10|11|12|13|14|15|16|17|18=>simp only[qq]at ho;subst ho;exact a1z rfl (yl 9 41 false rfl (hG hd 9) vv9) (by decide) (vL hLe rfl) (hS)
 |19=>simp only[qq]at ho;subst ho;exact a1z rfl (yl 9 41 false rfl (hG hd 9) vv9) (by decide) vv19 (hS)
 |20|21|22=>simp only[qq]at ho;subst ho;exact ahz rfl (akz (j:=19) (s:=51) rfl ((ev 19 51 rfl (hG hd 19)).trans vv19)) (vL hLe rfl) (hS)
 |23=>simp only[qq]at ho;subst ho;exact ahz rfl (akz (j:=19) (s:=51) rfl ((ev 19 51 rfl (hG hd 19)).trans vv19)) vv23 (hS)
 |24|25|26|27|28|29|30|31|32=>simp only[qq]at ho;subst ho;exact ahz rfl (akz (j:=23) (s:=55) rfl ((ev 23 55 rfl (hG hd 23)).trans vv23)) (vL hLe rfl) (hS)
 |33=>simp only[qq]at ho;subst ho;exact ahz rfl (akz (j:=19) (s:=51) rfl ((ev 19 51 rfl (hG hd 19)).trans vv19)) (vL hLe rfl) (hS)
 |34=>simp only[qq]at ho;subst ho;exact a1z rfl (yl 9 41 false rfl (hG hd 9) vv9) (by decide) (vL hLe rfl) (hS)
 |k+36=>simp at ho
theorem ohz (hops:Tryz.f87.body.bind (alz 12)=some ops) (g1 g2 O1 O2 L1 L2 c1 c2 J K:Nat) (nj ni:List UInt8) (t u t' u':Int) (w9:World) (hsz:base.size=83) (b0:base.getD 0 undef=.slice (some ⟨g1,O1,none⟩) L1 c1) (b1:base.getD 1 undef=.slice (some ⟨g2,O2,none⟩) L2 c2) (b7:base.getD 7 undef=iV (K:Nat)) (b9:base.getD 9 undef=iV (J:Nat)) (hj1:J<L1) (hk1:K<L1) (hj2:J<L2) (hk2:K<L2) (hn1:w9.cell? ⟨g2,O2+J,none⟩=some (.string (bas nj))) (hn2:w9.cell? ⟨g2,O2+K,none⟩=some (.string (bas ni))) (hq:((bas nj).toList==(bas ni).toList)=true) (hx0:w9.cell? ⟨g1,O1+J*2,none⟩=some (iV t)) (hx1:w9.cell? ⟨g1,O1+J*2+1,none⟩=some (iV u)) (hy0:w9.cell? ⟨g1,O1+K*2,none⟩=some (iV t')) (hy1:w9.cell? ⟨g1,O1+K*2+1,none⟩=some (iV u')) (cB:∀W,Below w9.heap.size w9 W→Calls Tryz.prog 97 #[idv t u,idv t' u'] W λe w'=>e=.returned (.bool true)∧Below W.heap.size W w') (hQ:∀W,Below w9.heap.size w9 W→Q .normal ⟨abz base [(some 32,.slice (some ⟨g2,O2,none⟩) L2 c2),(some 33,iV (J:Nat)),(some 34,.pointer (some ⟨g2,O2+J,none⟩)),(some 35,.string (bas nj)),(some 36,.slice (some ⟨g2,O2,none⟩) L2 c2),(some 37,iV (K:Nat)),(some 38,.pointer (some ⟨g2,O2+K,none⟩)),(some 39,.string (bas ni)),(some 40,.bool true),(some 41,.bool true),(some 42,.slice (some ⟨g1,O1,none⟩) L1 c1),(some 43,iV (J:Nat)),(some 44,.pointer (some ⟨g1,O1+J*2,none⟩)),(some 45,.agg #[iV t,iV u]),(some 46,.slice (some ⟨g1,O1,none⟩) L1 c1),(some 47,iV (K:Nat)),(some 48,.pointer (some ⟨g1,O1+K*2,none⟩)),(some 49,.agg #[iV t',iV u']),(some 50,.bool true),(some 51,.bool true),(some 52,undef),(some 53,undef),(some 54,undef),(some 55,undef),(some 56,undef),(some 57,undef),(some 58,undef),(some 59,undef),(some 60,undef),(some 61,undef),(some 62,undef),(some 63,undef),(some 64,undef),(some 65,undef),(some 66,.bool true),(some 67,.bool true)],dd⟩ W):
  (Code.region 12 ops true).wp Tryz.prog Q ⟨base,dd⟩ w9:=by
 obtain rfl:=Option.some.inj ((show Tryz.f87.body.bind (alz 12)=some _ from rfl).symm.trans hops);clear hops
 refine rU (by kernel_rfl) 83 hsz (by kernel_rfl) rfl hQ λLL hLe b W Ii Oo a hS hcl ho hb hd ev kp yl=> ?_
 have vv6:aaz LL 6=.pointer (some ⟨g2,O2+K,none⟩):=vL hLe rfl
 have vv7:aaz LL 7=.string (bas ni):=vL hLe rfl
 have vv9:aaz LL 9=.bool true:=vL hLe rfl
 have vv12:aaz LL 12=.pointer (some ⟨g1,O1+J*2,none⟩):=vL hLe rfl
 have vv13:aaz LL 13=.agg #[iV t,iV u]:=vL hLe rfl
 have vv16:aaz LL 16=.pointer (some ⟨g1,O1+K*2,none⟩):=vL hLe rfl
 have vv17:aaz LL 17=.agg #[iV t',iV u']:=vL hLe rfl
 have vv18:aaz LL 18=.bool true:=vL hLe rfl
 have vv19:aaz LL 19=.bool true:=vL hLe rfl
 have vv23:aaz LL 23=undef:=vL hLe rfl
 have Vv:=aV hLe;have Ee:=aE hLe rfl ev
 have e1:=(kp 1 (by kernel_rfl)).trans b1
 have e9:=(kp 9 (by kernel_rfl)).trans b9
 have e7:=(kp 7 (by kernel_rfl)).trans b7
 have e0:=(kp 0 (by kernel_rfl)).trans b0
 have d9_0:=(hS.cell (p:=⟨g2,O2+J,none⟩) (a4z hn1)).trans hn1
 simp only[AV,AE,Nat.zero_add,Nat.reduceAdd,and_true]at Vv Ee
 match Ii with
 |0|1|2|3|4|5|6|8|9|35=>simp only[qq]at ho;subst ho;have hd:=aD hd;simp only[AD,and_true]at hd;simp only[Vv];exact dV (by simp[execOp,go_sem,Ee,d9_0,e1,e7,e9,hd,hj2,hk2,hq]) hS
 |10|11|12|14|15|16|19|34=>simp only[qq]at ho;subst ho;have hy:=yl 9 41 true rfl (hG hd 9) (by simp only[Vv]);have hd:=aD hd;simp only[AD,and_true]at hd;simp only[Vv];exact dG hy (by simp[execOp,go_sem,Ee,e0,e7,e9,hd,hj1,hk1]) hS
 |7=>simp only[qq]at ho;subst ho;have e38:=eD ev hd 6 38 vv6;have d9_0:=(hS.cell (p:=⟨g2,O2+K,none⟩) (a4z hn2)).trans hn2;rw[vv7];exact dV (by simp[execOp,go_sem,e38,d9_0]) hS
 |13=>simp only[qq]at ho;subst ho;have e44:=eD ev hd 12 44 vv12;have d9_0:=(hS.cell (p:=⟨g1,O1+J*2,none⟩) (a4z hx0)).trans hx0;have d9_1:=(hS.cell (p:=⟨g1,O1+J*2+1,none⟩) (a4z hx1)).trans hx1;rw[vv13];exact dG (yl 9 41 true rfl (hG hd 9) vv9) (by simp[execOp,go_sem,e44,d9_0,d9_1]) hS
 |17=>simp only[qq]at ho;subst ho;have e48:=eD ev hd 16 48 vv16;have d9_0:=(hS.cell (p:=⟨g1,O1+K*2,none⟩) (a4z hy0)).trans hy0;have d9_1:=(hS.cell (p:=⟨g1,O1+K*2+1,none⟩) (a4z hy1)).trans hy1;rw[vv17];exact dG (yl 9 41 true rfl (hG hd 9) vv9) (by simp[execOp,go_sem,e48,d9_0,d9_1]) hS
 |18=>
  simp only[qq]at ho;subst ho;have e45:=eD ev hd 13 45 vv13;have e49:=eD ev hd 17 49 vv17;rw[vv18]
  refine apz rfl (yl 9 41 true rfl (hG hd 9) vv9) nofun (f:=97) (args:= #[.agg #[iV t,iV u],.agg #[iV t',iV u']]) ?_ ?_
  ·simp[go_sem,e45,e49]
  ·exact(cB W hS).mono (λe w' h=>⟨h.1,hS.trans (h.2.mono hS.size)⟩)
 |20|21|22=>simp only[qq]at ho;subst ho;exact a1z rfl (yl 19 51 true rfl (hG hd 19) vv19) (by decide) (vL hLe rfl) (hS)
 |23=>simp only[qq]at ho;subst ho;exact a1z rfl (yl 19 51 true rfl (hG hd 19) vv19) (by decide) vv23 (hS)
 |24|25|26|27|28|29|30|31|32=>simp only[qq]at ho;subst ho;exact ahz rfl (akz (j:=23) (s:=55) rfl ((ev 23 55 rfl (hG hd 23)).trans vv23)) (vL hLe rfl) (hS)
 |33=>simp only[qq]at ho;subst ho;exact a1z rfl (yl 19 51 true rfl (hG hd 19) vv19) (by decide) (vL hLe rfl) (hS)
 |k+36=>simp at ho
theorem n4z (hops:Tryz.f87.body.bind (alz 12)=some ops) (g1 g2 O1 O2 L1 L2 c1 c2 J K:Nat) (nj ni:List UInt8) (t u t' u':Int) (w9:World) (hsz:base.size=83) (b0:base.getD 0 undef=.slice (some ⟨g1,O1,none⟩) L1 c1) (b1:base.getD 1 undef=.slice (some ⟨g2,O2,none⟩) L2 c2) (b7:base.getD 7 undef=iV (K:Nat)) (b9:base.getD 9 undef=iV (J:Nat)) (hj1:J<L1) (hk1:K<L1) (hj2:J<L2) (hk2:K<L2) (hn1:w9.cell? ⟨g2,O2+J,none⟩=some (.string (bas nj))) (hn2:w9.cell? ⟨g2,O2+K,none⟩=some (.string (bas ni))) (hq:((bas nj).toList==(bas ni).toList)=true) (hx0:w9.cell? ⟨g1,O1+J*2,none⟩=some (iV t)) (hx1:w9.cell? ⟨g1,O1+J*2+1,none⟩=some (iV u)) (hy0:w9.cell? ⟨g1,O1+K*2,none⟩=some (iV t')) (hy1:w9.cell? ⟨g1,O1+K*2+1,none⟩=some (iV u')) (cB:∀W,Below w9.heap.size w9 W→Calls Tryz.prog 97 #[idv t u,idv t' u'] W λe w'=>e=.returned (.bool false)∧Below W.heap.size W w') (hC:¬J<K) (hQ:∀W,Below w9.heap.size w9 W→Q .normal ⟨abz base [(some 32,.slice (some ⟨g2,O2,none⟩) L2 c2),(some 33,iV (J:Nat)),(some 34,.pointer (some ⟨g2,O2+J,none⟩)),(some 35,.string (bas nj)),(some 36,.slice (some ⟨g2,O2,none⟩) L2 c2),(some 37,iV (K:Nat)),(some 38,.pointer (some ⟨g2,O2+K,none⟩)),(some 39,.string (bas ni)),(some 40,.bool true),(some 41,.bool true),(some 42,.slice (some ⟨g1,O1,none⟩) L1 c1),(some 43,iV (J:Nat)),(some 44,.pointer (some ⟨g1,O1+J*2,none⟩)),(some 45,.agg #[iV t,iV u]),(some 46,.slice (some ⟨g1,O1,none⟩) L1 c1),(some 47,iV (K:Nat)),(some 48,.pointer (some ⟨g1,O1+K*2,none⟩)),(some 49,.agg #[iV t',iV u']),(some 50,.bool false),(some 51,.bool false),(some 52,iV (J:Nat)),(some 53,iV (K:Nat)),(some 54,.bool false),(some 55,.bool false),(some 56,undef),(some 57,undef),(some 58,undef),(some 59,undef),(some 60,undef),(some 61,undef),(some 62,undef),(some 63,undef),(some 64,undef),(some 65,.bool false),(some 66,.bool false),(some 67,.bool false)],dd⟩ W):
  (Code.region 12 ops true).wp Tryz.prog Q ⟨base,dd⟩ w9:=by
 obtain rfl:=Option.some.inj ((show Tryz.f87.body.bind (alz 12)=some _ from rfl).symm.trans hops);clear hops
 refine rU (by kernel_rfl) 83 hsz (by kernel_rfl) rfl hQ λLL hLe b W Ii Oo a hS hcl ho hb hd ev kp yl=> ?_
 have vv6:aaz LL 6=.pointer (some ⟨g2,O2+K,none⟩):=vL hLe rfl
 have vv7:aaz LL 7=.string (bas ni):=vL hLe rfl
 have vv9:aaz LL 9=.bool true:=vL hLe rfl
 have vv12:aaz LL 12=.pointer (some ⟨g1,O1+J*2,none⟩):=vL hLe rfl
 have vv13:aaz LL 13=.agg #[iV t,iV u]:=vL hLe rfl
 have vv16:aaz LL 16=.pointer (some ⟨g1,O1+K*2,none⟩):=vL hLe rfl
 have vv17:aaz LL 17=.agg #[iV t',iV u']:=vL hLe rfl
 have vv18:aaz LL 18=.bool false:=vL hLe rfl
 have vv23:aaz LL 23=.bool false:=vL hLe rfl
 have Vv:=aV hLe;have Ee:=aE hLe rfl ev
 have e1:=(kp 1 (by kernel_rfl)).trans b1
 have e9:=(kp 9 (by kernel_rfl)).trans b9
 have e7:=(kp 7 (by kernel_rfl)).trans b7
 have e0:=(kp 0 (by kernel_rfl)).trans b0
 have d9_0:=(hS.cell (p:=⟨g2,O2+J,none⟩) (a4z hn1)).trans hn1
 simp only[AV,AE,Nat.zero_add,Nat.reduceAdd,and_true]at Vv Ee
 match Ii with
 |0|1|2|3|4|5|6|8|9|35=>simp only[qq]at ho;subst ho;have hd:=aD hd;simp only[AD,and_true]at hd;simp only[Vv];exact dV (by simp[execOp,go_sem,Ee,d9_0,e1,e7,e9,hd,hj2,hk2,hq]) hS
 |10|11|12|14|15|16|19|34=>simp only[qq]at ho;subst ho;have hy:=yl 9 41 true rfl (hG hd 9) (by simp only[Vv]);have hd:=aD hd;simp only[AD,and_true]at hd;simp only[Vv];exact dG hy (by simp[execOp,go_sem,Ee,e0,e7,e9,hd,hj1,hk1]) hS
 |20|21|22|23|33=>simp only[qq]at ho;subst ho;have hy:=yl 19 51 false rfl (hG hd 19) (by simp only[Vv]);have hd:=aD hd;simp only[AD,and_true]at hd;simp only[Vv];exact dG hy (by simp[execOp,go_sem,Ee,e7,e9,hC,hd]) hS
 |7=>simp only[qq]at ho;subst ho;have e38:=eD ev hd 6 38 vv6;have d9_0:=(hS.cell (p:=⟨g2,O2+K,none⟩) (a4z hn2)).trans hn2;rw[vv7];exact dV (by simp[execOp,go_sem,e38,d9_0]) hS
 |13=>simp only[qq]at ho;subst ho;have e44:=eD ev hd 12 44 vv12;have d9_0:=(hS.cell (p:=⟨g1,O1+J*2,none⟩) (a4z hx0)).trans hx0;have d9_1:=(hS.cell (p:=⟨g1,O1+J*2+1,none⟩) (a4z hx1)).trans hx1;rw[vv13];exact dG (yl 9 41 true rfl (hG hd 9) vv9) (by simp[execOp,go_sem,e44,d9_0,d9_1]) hS
 |17=>simp only[qq]at ho;subst ho;have e48:=eD ev hd 16 48 vv16;have d9_0:=(hS.cell (p:=⟨g1,O1+K*2,none⟩) (a4z hy0)).trans hy0;have d9_1:=(hS.cell (p:=⟨g1,O1+K*2+1,none⟩) (a4z hy1)).trans hy1;rw[vv17];exact dG (yl 9 41 true rfl (hG hd 9) vv9) (by simp[execOp,go_sem,e48,d9_0,d9_1]) hS
 |18=>
  simp only[qq]at ho;subst ho;have e45:=eD ev hd 13 45 vv13;have e49:=eD ev hd 17 49 vv17;rw[vv18]
  refine apz rfl (yl 9 41 true rfl (hG hd 9) vv9) nofun (f:=97) (args:= #[.agg #[iV t,iV u],.agg #[iV t',iV u']]) ?_ ?_
  ·simp[go_sem,e45,e49]
  ·exact(cB W hS).mono (λe w' h=>⟨h.1,hS.trans (h.2.mono hS.size)⟩)
 |24|25|26|27|28|29|30|31|32=>simp only[qq]at ho;subst ho;exact a1z rfl (yl 23 55 false rfl (hG hd 23) vv23) (by decide) (vL hLe rfl) (hS)
 |k+36=>simp at ho
theorem mBz (hops:Tryz.f87.body.bind (alz 12)=some ops) (g1 g2 O1 O2 L1 L2 c1 c2 J K:Nat) (nj ni:List UInt8) (t u t' u':Int) (w9:World) (hsz:base.size=83) (b0:base.getD 0 undef=.slice (some ⟨g1,O1,none⟩) L1 c1) (b1:base.getD 1 undef=.slice (some ⟨g2,O2,none⟩) L2 c2) (b7:base.getD 7 undef=iV (K:Nat)) (b9:base.getD 9 undef=iV (J:Nat)) (hj1:J<L1) (hk1:K<L1) (hj2:J<L2) (hk2:K<L2) (hn1:w9.cell? ⟨g2,O2+J,none⟩=some (.string (bas nj))) (hn2:w9.cell? ⟨g2,O2+K,none⟩=some (.string (bas ni))) (hq:((bas nj).toList==(bas ni).toList)=true) (hx0:w9.cell? ⟨g1,O1+J*2,none⟩=some (iV t)) (hx1:w9.cell? ⟨g1,O1+J*2+1,none⟩=some (iV u)) (hy0:w9.cell? ⟨g1,O1+K*2,none⟩=some (iV t')) (hy1:w9.cell? ⟨g1,O1+K*2+1,none⟩=some (iV u')) (cB:∀W,Below w9.heap.size w9 W→Calls Tryz.prog 97 #[idv t u,idv t' u'] W λe w'=>e=.returned (.bool false)∧Below W.heap.size W w') (hC:J<K) (cD:∀W,Below w9.heap.size w9 W→Calls Tryz.prog 15 #[idv t u,idv t' u'] W λe w'=>e=.returned (.bool true)∧Below W.heap.size W w') (hQ:∀W,Below w9.heap.size w9 W→Q .normal ⟨abz base [(some 32,.slice (some ⟨g2,O2,none⟩) L2 c2),(some 33,iV (J:Nat)),(some 34,.pointer (some ⟨g2,O2+J,none⟩)),(some 35,.string (bas nj)),(some 36,.slice (some ⟨g2,O2,none⟩) L2 c2),(some 37,iV (K:Nat)),(some 38,.pointer (some ⟨g2,O2+K,none⟩)),(some 39,.string (bas ni)),(some 40,.bool true),(some 41,.bool true),(some 42,.slice (some ⟨g1,O1,none⟩) L1 c1),(some 43,iV (J:Nat)),(some 44,.pointer (some ⟨g1,O1+J*2,none⟩)),(some 45,.agg #[iV t,iV u]),(some 46,.slice (some ⟨g1,O1,none⟩) L1 c1),(some 47,iV (K:Nat)),(some 48,.pointer (some ⟨g1,O1+K*2,none⟩)),(some 49,.agg #[iV t',iV u']),(some 50,.bool false),(some 51,.bool false),(some 52,iV (J:Nat)),(some 53,iV (K:Nat)),(some 54,.bool true),(some 55,.bool true),(some 56,.slice (some ⟨g1,O1,none⟩) L1 c1),(some 57,iV (J:Nat)),(some 58,.pointer (some ⟨g1,O1+J*2,none⟩)),(some 59,.agg #[iV t,iV u]),(some 60,.slice (some ⟨g1,O1,none⟩) L1 c1),(some 61,iV (K:Nat)),(some 62,.pointer (some ⟨g1,O1+K*2,none⟩)),(some 63,.agg #[iV t',iV u']),(some 64,.bool true),(some 65,.bool true),(some 66,.bool true),(some 67,.bool true)],dd⟩ W):
  (Code.region 12 ops true).wp Tryz.prog Q ⟨base,dd⟩ w9:=by
 obtain rfl:=Option.some.inj ((show Tryz.f87.body.bind (alz 12)=some _ from rfl).symm.trans hops);clear hops
 refine rU (by kernel_rfl) 83 hsz (by kernel_rfl) rfl hQ λLL hLe b W Ii Oo a hS hcl ho hb hd ev kp yl=> ?_
 have vv6:aaz LL 6=.pointer (some ⟨g2,O2+K,none⟩):=vL hLe rfl
 have vv7:aaz LL 7=.string (bas ni):=vL hLe rfl
 have vv9:aaz LL 9=.bool true:=vL hLe rfl
 have vv12:aaz LL 12=.pointer (some ⟨g1,O1+J*2,none⟩):=vL hLe rfl
 have vv13:aaz LL 13=.agg #[iV t,iV u]:=vL hLe rfl
 have vv16:aaz LL 16=.pointer (some ⟨g1,O1+K*2,none⟩):=vL hLe rfl
 have vv17:aaz LL 17=.agg #[iV t',iV u']:=vL hLe rfl
 have vv18:aaz LL 18=.bool false:=vL hLe rfl
 have vv23:aaz LL 23=.bool true:=vL hLe rfl
 have vv26:aaz LL 26=.pointer (some ⟨g1,O1+J*2,none⟩):=vL hLe rfl
 have vv27:aaz LL 27=.agg #[iV t,iV u]:=vL hLe rfl
 have vv30:aaz LL 30=.pointer (some ⟨g1,O1+K*2,none⟩):=vL hLe rfl
 have vv31:aaz LL 31=.agg #[iV t',iV u']:=vL hLe rfl
 have vv32:aaz LL 32=.bool true:=vL hLe rfl
 have Vv:=aV hLe;have Ee:=aE hLe rfl ev
 have e1:=(kp 1 (by kernel_rfl)).trans b1
 have e9:=(kp 9 (by kernel_rfl)).trans b9
 have e7:=(kp 7 (by kernel_rfl)).trans b7
 have e0:=(kp 0 (by kernel_rfl)).trans b0
 have d9_0:=(hS.cell (p:=⟨g2,O2+J,none⟩) (a4z hn1)).trans hn1
 simp only[AV,AE,Nat.zero_add,Nat.reduceAdd,and_true]at Vv Ee
 match Ii with
 |0|1|2|3|4|5|6|8|9|35=>simp only[qq]at ho;subst ho;have hd:=aD hd;simp only[AD,and_true]at hd;simp only[Vv];exact dV (by simp[execOp,go_sem,Ee,d9_0,e1,e7,e9,hd,hj2,hk2,hq]) hS
 |10|11|12|14|15|16|19|34=>simp only[qq]at ho;subst ho;have hy:=yl 9 41 true rfl (hG hd 9) (by simp only[Vv]);have hd:=aD hd;simp only[AD,and_true]at hd;simp only[Vv];exact dG hy (by simp[execOp,go_sem,Ee,e0,e7,e9,hd,hj1,hk1]) hS
 |20|21|22|23|33=>simp only[qq]at ho;subst ho;have hy:=yl 19 51 false rfl (hG hd 19) (by simp only[Vv]);have hd:=aD hd;simp only[AD,and_true]at hd;simp only[Vv];exact dG hy (by simp[execOp,go_sem,Ee,e7,e9,hC,hd]) hS
 |24|25|26|28|29|30=>simp only[qq]at ho;subst ho;have hy:=yl 23 55 true rfl (hG hd 23) (by simp only[Vv]);have hd:=aD hd;simp only[AD,and_true]at hd;simp only[Vv];exact dG hy (by simp[execOp,go_sem,Ee,e0,e7,e9,hd,hj1,hk1]) hS
 |7=>simp only[qq]at ho;subst ho;have e38:=eD ev hd 6 38 vv6;have d9_0:=(hS.cell (p:=⟨g2,O2+K,none⟩) (a4z hn2)).trans hn2;rw[vv7];exact dV (by simp[execOp,go_sem,e38,d9_0]) hS
 |13=>simp only[qq]at ho;subst ho;have e44:=eD ev hd 12 44 vv12;have d9_0:=(hS.cell (p:=⟨g1,O1+J*2,none⟩) (a4z hx0)).trans hx0;have d9_1:=(hS.cell (p:=⟨g1,O1+J*2+1,none⟩) (a4z hx1)).trans hx1;rw[vv13];exact dG (yl 9 41 true rfl (hG hd 9) vv9) (by simp[execOp,go_sem,e44,d9_0,d9_1]) hS
 |17=>simp only[qq]at ho;subst ho;have e48:=eD ev hd 16 48 vv16;have d9_0:=(hS.cell (p:=⟨g1,O1+K*2,none⟩) (a4z hy0)).trans hy0;have d9_1:=(hS.cell (p:=⟨g1,O1+K*2+1,none⟩) (a4z hy1)).trans hy1;rw[vv17];exact dG (yl 9 41 true rfl (hG hd 9) vv9) (by simp[execOp,go_sem,e48,d9_0,d9_1]) hS
 |18=>
  simp only[qq]at ho;subst ho;have e45:=eD ev hd 13 45 vv13;have e49:=eD ev hd 17 49 vv17;rw[vv18]
  refine apz rfl (yl 9 41 true rfl (hG hd 9) vv9) nofun (f:=97) (args:= #[.agg #[iV t,iV u],.agg #[iV t',iV u']]) ?_ ?_
  ·simp[go_sem,e45,e49]
  ·exact(cB W hS).mono (λe w' h=>⟨h.1,hS.trans (h.2.mono hS.size)⟩)
 |27=>simp only[qq]at ho;subst ho;have e58:=eD ev hd 26 58 vv26;have d9_0:=(hS.cell (p:=⟨g1,O1+J*2,none⟩) (a4z hx0)).trans hx0;have d9_1:=(hS.cell (p:=⟨g1,O1+J*2+1,none⟩) (a4z hx1)).trans hx1;rw[vv27];exact dG (yl 23 55 true rfl (hG hd 23) vv23) (by simp[execOp,go_sem,e58,d9_0,d9_1]) hS
 |31=>simp only[qq]at ho;subst ho;have e62:=eD ev hd 30 62 vv30;have d9_0:=(hS.cell (p:=⟨g1,O1+K*2,none⟩) (a4z hy0)).trans hy0;have d9_1:=(hS.cell (p:=⟨g1,O1+K*2+1,none⟩) (a4z hy1)).trans hy1;rw[vv31];exact dG (yl 23 55 true rfl (hG hd 23) vv23) (by simp[execOp,go_sem,e62,d9_0,d9_1]) hS
 |32=>
  simp only[qq]at ho;subst ho;have e59:=eD ev hd 27 59 vv27;have e63:=eD ev hd 31 63 vv31;rw[vv32]
  refine apz rfl (yl 23 55 true rfl (hG hd 23) vv23) nofun (f:=15) (args:= #[.agg #[iV t,iV u],.agg #[iV t',iV u']]) ?_ ?_
  ·simp[go_sem,e59,e63]
  ·exact(cD W hS).mono (λe w' h=>⟨h.1,hS.trans (h.2.mono hS.size)⟩)
 |k+36=>simp at ho
theorem nlz (hops:Tryz.f87.body.bind (alz 12)=some ops) (g1 g2 O1 O2 L1 L2 c1 c2 J K:Nat) (nj ni:List UInt8) (t u t' u':Int) (w9:World) (hsz:base.size=83) (b0:base.getD 0 undef=.slice (some ⟨g1,O1,none⟩) L1 c1) (b1:base.getD 1 undef=.slice (some ⟨g2,O2,none⟩) L2 c2) (b7:base.getD 7 undef=iV (K:Nat)) (b9:base.getD 9 undef=iV (J:Nat)) (hj1:J<L1) (hk1:K<L1) (hj2:J<L2) (hk2:K<L2) (hn1:w9.cell? ⟨g2,O2+J,none⟩=some (.string (bas nj))) (hn2:w9.cell? ⟨g2,O2+K,none⟩=some (.string (bas ni))) (hq:((bas nj).toList==(bas ni).toList)=true) (hx0:w9.cell? ⟨g1,O1+J*2,none⟩=some (iV t)) (hx1:w9.cell? ⟨g1,O1+J*2+1,none⟩=some (iV u)) (hy0:w9.cell? ⟨g1,O1+K*2,none⟩=some (iV t')) (hy1:w9.cell? ⟨g1,O1+K*2+1,none⟩=some (iV u')) (cB:∀W,Below w9.heap.size w9 W→Calls Tryz.prog 97 #[idv t u,idv t' u'] W λe w'=>e=.returned (.bool false)∧Below W.heap.size W w') (hC:J<K) (cD:∀W,Below w9.heap.size w9 W→Calls Tryz.prog 15 #[idv t u,idv t' u'] W λe w'=>e=.returned (.bool false)∧Below W.heap.size W w') (hQ:∀W,Below w9.heap.size w9 W→Q .normal ⟨abz base [(some 32,.slice (some ⟨g2,O2,none⟩) L2 c2),(some 33,iV (J:Nat)),(some 34,.pointer (some ⟨g2,O2+J,none⟩)),(some 35,.string (bas nj)),(some 36,.slice (some ⟨g2,O2,none⟩) L2 c2),(some 37,iV (K:Nat)),(some 38,.pointer (some ⟨g2,O2+K,none⟩)),(some 39,.string (bas ni)),(some 40,.bool true),(some 41,.bool true),(some 42,.slice (some ⟨g1,O1,none⟩) L1 c1),(some 43,iV (J:Nat)),(some 44,.pointer (some ⟨g1,O1+J*2,none⟩)),(some 45,.agg #[iV t,iV u]),(some 46,.slice (some ⟨g1,O1,none⟩) L1 c1),(some 47,iV (K:Nat)),(some 48,.pointer (some ⟨g1,O1+K*2,none⟩)),(some 49,.agg #[iV t',iV u']),(some 50,.bool false),(some 51,.bool false),(some 52,iV (J:Nat)),(some 53,iV (K:Nat)),(some 54,.bool true),(some 55,.bool true),(some 56,.slice (some ⟨g1,O1,none⟩) L1 c1),(some 57,iV (J:Nat)),(some 58,.pointer (some ⟨g1,O1+J*2,none⟩)),(some 59,.agg #[iV t,iV u]),(some 60,.slice (some ⟨g1,O1,none⟩) L1 c1),(some 61,iV (K:Nat)),(some 62,.pointer (some ⟨g1,O1+K*2,none⟩)),(some 63,.agg #[iV t',iV u']),(some 64,.bool false),(some 65,.bool false),(some 66,.bool false),(some 67,.bool false)],dd⟩ W):
  (Code.region 12 ops true).wp Tryz.prog Q ⟨base,dd⟩ w9:=by
 obtain rfl:=Option.some.inj ((show Tryz.f87.body.bind (alz 12)=some _ from rfl).symm.trans hops);clear hops
 refine rU (by kernel_rfl) 83 hsz (by kernel_rfl) rfl hQ λLL hLe b W Ii Oo a hS hcl ho hb hd ev kp yl=> ?_
 have vv6:aaz LL 6=.pointer (some ⟨g2,O2+K,none⟩):=vL hLe rfl
 have vv7:aaz LL 7=.string (bas ni):=vL hLe rfl
 have vv9:aaz LL 9=.bool true:=vL hLe rfl
 have vv12:aaz LL 12=.pointer (some ⟨g1,O1+J*2,none⟩):=vL hLe rfl
 have vv13:aaz LL 13=.agg #[iV t,iV u]:=vL hLe rfl
 have vv16:aaz LL 16=.pointer (some ⟨g1,O1+K*2,none⟩):=vL hLe rfl
 have vv17:aaz LL 17=.agg #[iV t',iV u']:=vL hLe rfl
 have vv18:aaz LL 18=.bool false:=vL hLe rfl
 have vv23:aaz LL 23=.bool true:=vL hLe rfl
 have vv26:aaz LL 26=.pointer (some ⟨g1,O1+J*2,none⟩):=vL hLe rfl
 have vv27:aaz LL 27=.agg #[iV t,iV u]:=vL hLe rfl
 have vv30:aaz LL 30=.pointer (some ⟨g1,O1+K*2,none⟩):=vL hLe rfl
 have vv31:aaz LL 31=.agg #[iV t',iV u']:=vL hLe rfl
 have vv32:aaz LL 32=.bool false:=vL hLe rfl
 have Vv:=aV hLe;have Ee:=aE hLe rfl ev
 have e1:=(kp 1 (by kernel_rfl)).trans b1
 have e9:=(kp 9 (by kernel_rfl)).trans b9
 have e7:=(kp 7 (by kernel_rfl)).trans b7
 have e0:=(kp 0 (by kernel_rfl)).trans b0
 have d9_0:=(hS.cell (p:=⟨g2,O2+J,none⟩) (a4z hn1)).trans hn1
 simp only[AV,AE,Nat.zero_add,Nat.reduceAdd,and_true]at Vv Ee
 match Ii with
 |0|1|2|3|4|5|6|8|9|35=>simp only[qq]at ho;subst ho;have hd:=aD hd;simp only[AD,and_true]at hd;simp only[Vv];exact dV (by simp[execOp,go_sem,Ee,d9_0,e1,e7,e9,hd,hj2,hk2,hq]) hS
 |10|11|12|14|15|16|19|34=>simp only[qq]at ho;subst ho;have hy:=yl 9 41 true rfl (hG hd 9) (by simp only[Vv]);have hd:=aD hd;simp only[AD,and_true]at hd;simp only[Vv];exact dG hy (by simp[execOp,go_sem,Ee,e0,e7,e9,hd,hj1,hk1]) hS
 |20|21|22|23|33=>simp only[qq]at ho;subst ho;have hy:=yl 19 51 false rfl (hG hd 19) (by simp only[Vv]);have hd:=aD hd;simp only[AD,and_true]at hd;simp only[Vv];exact dG hy (by simp[execOp,go_sem,Ee,e7,e9,hC,hd]) hS
 |24|25|26|28|29|30=>simp only[qq]at ho;subst ho;have hy:=yl 23 55 true rfl (hG hd 23) (by simp only[Vv]);have hd:=aD hd;simp only[AD,and_true]at hd;simp only[Vv];exact dG hy (by simp[execOp,go_sem,Ee,e0,e7,e9,hd,hj1,hk1]) hS
 |7=>simp only[qq]at ho;subst ho;have e38:=eD ev hd 6 38 vv6;have d9_0:=(hS.cell (p:=⟨g2,O2+K,none⟩) (a4z hn2)).trans hn2;rw[vv7];exact dV (by simp[execOp,go_sem,e38,d9_0]) hS
 |13=>simp only[qq]at ho;subst ho;have e44:=eD ev hd 12 44 vv12;have d9_0:=(hS.cell (p:=⟨g1,O1+J*2,none⟩) (a4z hx0)).trans hx0;have d9_1:=(hS.cell (p:=⟨g1,O1+J*2+1,none⟩) (a4z hx1)).trans hx1;rw[vv13];exact dG (yl 9 41 true rfl (hG hd 9) vv9) (by simp[execOp,go_sem,e44,d9_0,d9_1]) hS
 |17=>simp only[qq]at ho;subst ho;have e48:=eD ev hd 16 48 vv16;have d9_0:=(hS.cell (p:=⟨g1,O1+K*2,none⟩) (a4z hy0)).trans hy0;have d9_1:=(hS.cell (p:=⟨g1,O1+K*2+1,none⟩) (a4z hy1)).trans hy1;rw[vv17];exact dG (yl 9 41 true rfl (hG hd 9) vv9) (by simp[execOp,go_sem,e48,d9_0,d9_1]) hS
 |18=>
  simp only[qq]at ho;subst ho;have e45:=eD ev hd 13 45 vv13;have e49:=eD ev hd 17 49 vv17;rw[vv18]
  refine apz rfl (yl 9 41 true rfl (hG hd 9) vv9) nofun (f:=97) (args:= #[.agg #[iV t,iV u],.agg #[iV t',iV u']]) ?_ ?_
  ·simp[go_sem,e45,e49]
  ·exact(cB W hS).mono (λe w' h=>⟨h.1,hS.trans (h.2.mono hS.size)⟩)
 |27=>simp only[qq]at ho;subst ho;have e58:=eD ev hd 26 58 vv26;have d9_0:=(hS.cell (p:=⟨g1,O1+J*2,none⟩) (a4z hx0)).trans hx0;have d9_1:=(hS.cell (p:=⟨g1,O1+J*2+1,none⟩) (a4z hx1)).trans hx1;rw[vv27];exact dG (yl 23 55 true rfl (hG hd 23) vv23) (by simp[execOp,go_sem,e58,d9_0,d9_1]) hS
 |31=>simp only[qq]at ho;subst ho;have e62:=eD ev hd 30 62 vv30;have d9_0:=(hS.cell (p:=⟨g1,O1+K*2,none⟩) (a4z hy0)).trans hy0;have d9_1:=(hS.cell (p:=⟨g1,O1+K*2+1,none⟩) (a4z hy1)).trans hy1;rw[vv31];exact dG (yl 23 55 true rfl (hG hd 23) vv23) (by simp[execOp,go_sem,e62,d9_0,d9_1]) hS
 |32=>
  simp only[qq]at ho;subst ho;have e59:=eD ev hd 27 59 vv27;have e63:=eD ev hd 31 63 vv31;rw[vv32]
  refine apz rfl (yl 23 55 true rfl (hG hd 23) vv23) nofun (f:=15) (args:= #[.agg #[iV t,iV u],.agg #[iV t',iV u']]) ?_ ?_
  ·simp[go_sem,e59,e63]
  ·exact(cD W hS).mono (λe w' h=>⟨h.1,hS.trans (h.2.mono hS.size)⟩)
 |k+36=>simp at ho
end Go.Proofs.YthhakekbffembaaGreatDoor.Ck.Sh
