import Derived.Test.YthhakekbffembaaGreatDoorQEvb
set_option maxRecDepth 8000
set_option maxHeartbeats 4000000

namespace Go.Proofs.YthhakekbffembaaGreatDoor.Ck.Y.W
open Go.RowKit Go.Maps Go.Lib
open L (a2z a6z anz a5z)
def VMo (F:Nat→Prop) (w:World) (vb:Nat) (nsf:OG→List Int) (bsf:OG→List (BitVec 8)) (m ls:List OG) (cn:Value) (Ft:Nat→Prop) (w':World):Prop:=∃F' fv E Fs,VM F' w' vb nsf bsf m ls cn Ft fv E Fs∧(∀b,F' b→F b∨w.heap.size≤b)∧Only F w w'
section
variable {F:Nat→Prop} {w w':World} {vb:Nat} {nsf:OG→List Int} {bsf:OG→List (BitVec 8)} {m ls:List OG} {cn:Value} {Ft:Nat→Prop} {fv:Value} {E:List (PI×Nat)} {Fs:PI→Nat→Prop} {o:OG} {fm:Nat}
theorem VMo.of_below {w1:World} (h:VMo F w1 vb nsf bsf m ls cn Ft w') (hb:Below w.heap.size w w1):VMo F w vb nsf bsf m ls cn Ft w':=by
 obtain⟨F',fv,E,Fs,h1,h2,h4⟩:=h
 exact⟨F',fv,E,Fs,h1,λb hb'=>(h2 b hb').imp id (λe=>Nat.le_trans hb.size e),(Below.only hb F).next h4⟩
theorem VMo.of_step {F1:Nat→Prop} {w1:World} (h:VMo F1 w1 vb nsf bsf m ls cn Ft w') (ho:Only F w w1) (hF:∀b,F1 b→F b∨w.heap.size≤b):VMo F w vb nsf bsf m ls cn Ft w':=by
 obtain⟨F',fv,E,Fs,h1,h2,h4⟩:=h
 refine⟨F',fv,E,Fs,h1,λb hb'=> ?_,ho.trans h4 hF⟩
 rcases h2 b hb' with e|e
 ·exact hF b e
 ·exact .inr (Nat.le_trans ho.size e)
def Stays (F:Nat→Prop) (w:World) (o:OG) (ns:List Int) (bs:List (BitVec 8)):Prop:=∀W,Only F w W→L.WIn W o ns bs
theorem Stays.next {F1:Nat→Prop} {w1:World} {ns:List Int} {bs:List (BitVec 8)} (h:Stays F w o ns bs) (ho:Only F w w1) (hF:∀b,F1 b→F b∨w.heap.size≤b):Stays F1 w1 o ns bs:=λW hW=>h W (ho.trans hW hF)
theorem VM.add (h:VM F w vb nsf bsf m ls cn Ft fv E Fs) {fb:Nat} (hq:atM E (o.ot,o.on)=some fb) (hin:Stays F w o (nsf o) (bsf o)) (hk:o.kd=4) (hm:L.mayW o (nsf o)=true) (hnew:∀x∈m,(x.t,x.n)≠(o.t,o.n)) (hl:m.length<800):
  Calls Tryz.prog 74 #[.pointer (some ⟨fb,0,none⟩),b2z o] w λe w'=>e=.returned (.int .i64 0)∧VMo F w vb nsf bsf (m++[o]) ls cn Ft w':=by
 have hF:∀b,Fs (o.ot,o.on) b→F b:=λb hb=>(h.off _ b hb).1
 refine(L.add_new (h.file _ fb hq) (hin w (Only.refl _ _)) hk hm (λhk=> ?_) (Nat.lt_of_le_of_lt (mHz m _) hl) λW hW=>hin W (atz hW hF)).mono ?_
 ·obtain⟨x,hx,e⟩:=mZz hk
  exact hnew x hx e
 ·rintro e w' ⟨rfl,F',k1,k2,k3⟩
  obtain⟨q1,q2⟩:=h.filed hq k1 k2 k3 (o8z m hk rfl) λq' hq'=>lAz m λe=>hq' e.2.symm
  refine⟨rfl,_,_,_,_,q1,λb hb=> ?_,q2⟩
  rcases hb with hb|hb
  ·exact .inl hb
  ·exact(k2 b hb).imp (hF b) id
theorem gez (w:World) (o:OG):∃A,A=w.alloc (.cells (bhz o) 33)∧Below w.heap.size w A∧A.heap[w.heap.size]? =some (.cells (bhz o) 33 (0,0)):=⟨_,rfl,(a3z w _).out,heap_alloc_new w _⟩
theorem nrz (h:VM F w vb nsf bsf m ls cn Ft fv E Fs) {q:PI} {fm fb:Nat} {w1 w2:World} (hq:atM E q=none) (hfm:fv=.map (some fm)) (hb:Below w.heap.size w w1) (hfb:w.heap.size≤fb) (hf:L.FileS (λb=>b=fb) w1 fb []) (hm:MapAt w2 fm (E++[(q,fb)])) (ho:Only (· =fm) w1 w2):
  VM (λb=>F b∨b=fb) w2 vb nsf bsf m ls cn Ft fv (E++[(q,fb)]) (λq'=>if q'=q then(λb=>b=fb)else Fs q')∧Only F w w2:=by
 obtain⟨q1,q2⟩:=(h.below hb).more hq hfm hf (λb e hF=>by have:=h.low b hF;omega) hm ho
 exact⟨q1,(Below.only hb F).next q2⟩
theorem kOz (E:List (PI×Nat)) (q:PI) (fb:Nat) (hq:atM E q=none):atM (E++[(q,fb)]) q=some fb:=by
 unfold atM at hq⊢
 rw[Option.map_eq_none_iff]at hq
 rw[List.find?_append,hq];simp
theorem VM.write_old (h:VM F w vb nsf bsf m ls cn Ft fv E Fs) {fb:Nat} (hq:atM E (o.ot,o.on)=some fb) (hin:Stays F w o (nsf o) (bsf o)) (hk:o.kd=4) (hm:L.mayW o (nsf o)=true) (hnew:∀x∈m,(x.t,x.n)≠(o.t,o.n)) (hl:m.length<800):
  Calls Tryz.prog 28 #[.pointer (some ⟨vb,0,none⟩),b2z o] w λe w'=>e=.returned (.tuple #[])∧VMo F w vb nsf bsf (m++[o]) ls cn Ft w':=by
 obtain⟨A,hA,bA,kA⟩:=gez w o
 obtain⟨fm,hfv,hmA⟩:∃fm,fv=.map (some fm)∧MapAt A fm E:=by
  rcases h.fmap with⟨_,e⟩|⟨fm,e,h1,_⟩
  ·rw[e]at hq;cases hq
  ·exact⟨fm,e,h1.kept (Below.only bA (λ_=>False)) (λf=>f)⟩
 have hA4:A.cell? ⟨vb,4,none⟩=some (.map (some fm)):=by rw[← hfv];exact(h.below bA).tree.cells.2.1
 have hlk:=jiz (w:=A.drew) (mb:=fm) (E:=E) hmA o.ot o.on
 rw[hq]at hlk
 have c:=((h.below (a2z bA (a6z A))).add hq (hin.next (Below.only (a2z bA (a6z A)) F) (λ_ e=>.inl e)) hk hm hnew hl).mono λe w' (k:_∧VMo _ _ _ _ _ _ _ _ _ _)=>(⟨k.1,k.2.of_below (a2z bA (a6z A))⟩:e=.returned (.int .i64 0)∧VMo F w vb nsf bsf (m++[o]) ls cn Ft w')
 have a4:A.cell? ⟨w.heap.size,4,none⟩=some (.int .i64 o.ot):=cellOf kA 4
 have a5:A.cell? ⟨w.heap.size,5,none⟩=some (.int .i64 o.on):=cellOf kA 5
 have a0:A.cell? ⟨w.heap.size,0,none⟩=some (.int .i64 o.t):=cellOf kA 0
 have a1:A.cell? ⟨w.heap.size,1,none⟩=some (.int .i64 o.n):=cellOf kA 1
 have a2:A.cell? ⟨w.heap.size,2,none⟩=some (.int .i64 o.sq):=cellOf kA 2
 have a3:A.cell? ⟨w.heap.size,3,none⟩=some (.int .i64 o.kd):=cellOf kA 3
 have a6:A.cell? ⟨w.heap.size,6,none⟩=some (.int .i64 o.pt):=cellOf kA 6
 have a7:A.cell? ⟨w.heap.size,7,none⟩=some (.int .i64 o.pn):=cellOf kA 7
 have a8:A.cell? ⟨w.heap.size,8,none⟩=some (.string o.nm):=cellOf kA 8
 have a9:A.cell? ⟨w.heap.size,9,none⟩=some (.slice o.dp o.dl o.dc):=cellOf kA 9
 have a10:A.cell? ⟨w.heap.size,10,none⟩=some (.slice o.sp o.sl o.sc):=cellOf kA 10
 have HA:=a0z hA
 have HO:Hid (True):=trivial
 clear h hin hm hnew hl bA kA hmA hA hk hq
 generalize HMM:VMo F w vb nsf bsf (m++[o]) ls cn Ft=PP at c⊢
 clear HMM
 obtain⟨t,n,sq,kd,ot,on,pt,pn,nm,dp,dl,dc,sp,sl,sc⟩:=o
 simp only[b2z,bhz]at*
 have q1:=hez fm
 rw[HA.out]at hA4 hlk c a0 a1 a2 a3 a4 a5 a6 a7 a8 a9 a10
 simp only[Option.elim,pv]at hlk
 clear HA HO
 go_enter Tryz.func28,Tryz.ntmps28
 go_wp2_with fail
 go_region
 go_wp2_with (go_at_call 74;refine c.mono ?_;rintro e w1 ⟨rfl,h1⟩;have H1:=a0z h1;clear h1)
 go_end0
 exact⟨rfl,H1.out⟩
def box11 (W:World) (g:Nat) (o:OG):Prop:=W.heap[g]? =some (.cells (bhz o) 33 (0,0))
theorem box11.cells {W:World} {g:Nat} (h:box11 W g o):W.cell? ⟨g,0,none⟩=some (.int .i64 o.t)∧W.cell? ⟨g,1,none⟩=some (.int .i64 o.n)∧W.cell? ⟨g,2,none⟩=some (.int .i64 o.sq)∧W.cell? ⟨g,3,none⟩=some (.int .i64 o.kd)∧W.cell? ⟨g,4,none⟩=some (.int .i64 o.ot)∧W.cell? ⟨g,5,none⟩=some (.int .i64 o.on)∧
  W.cell? ⟨g,6,none⟩=some (.int .i64 o.pt)∧W.cell? ⟨g,7,none⟩=some (.int .i64 o.pn)∧W.cell? ⟨g,8,none⟩=some (.string o.nm)∧W.cell? ⟨g,9,none⟩=some (.slice o.dp o.dl o.dc)∧W.cell? ⟨g,10,none⟩=some (.slice o.sp o.sl o.sc):=
 ⟨cellOf h 0,cellOf h 1,cellOf h 2,cellOf h 3,cellOf h 4,cellOf h 5,cellOf h 6,cellOf h 7,cellOf h 8,cellOf h 9,cellOf h 10⟩
theorem VM.new_step (h:VM F w vb nsf bsf m ls cn Ft (.map (some fm)) E Fs) (hq:atM E (o.ot,o.on)=none) (hin:Stays F w o (nsf o) (bsf o)) (hk:o.kd=4) (hm:L.mayW o (nsf o)=true) (hnew:∀x∈m,(x.t,x.n)≠(o.t,o.n)) (hl:m.length<800) {g:Nat} (hg:box11 w g o) (hgF:¬F g):
  Calls Tryz.prog 73 #[] w λe w2=>∃fb W,e=.returned (.pointer (some ⟨fb,0,none⟩))∧w2.cell? ⟨vb,4,none⟩=some (.map (some fm))∧box11 w2 g o∧(Instr.mapUpdate 75 (.map (some fm)) (idv o.ot o.on) (pv fb)).run Tryz.prog w2.drew=.ok () W∧box11 W g o∧
   Calls Tryz.prog 74 #[.pointer (some ⟨fb,0,none⟩),b2z o] W λe w'=>e=.returned (.int .i64 0)∧VMo F w vb nsf bsf (m++[o]) ls cn Ft w':=by
 obtain⟨h0,_⟩|⟨fm',e,hmap,hfmF,hfmt,hfms⟩:=h.fmap
 ·cases h0
 cases e
 refine(L.new_any w).mono ?_
 rintro e w2 ⟨rfl,hb,hf⟩
 have hb':=a2z hb (a6z w2)
 obtain⟨W,hrun,hm1,ho1,hs1⟩:=owz (hmap.kept (Below.only hb' (λ_=>False)) (λf=>f)) o.ot o.on w.heap.size hq
 have hf':=hf.below (a6z w2)
 obtain⟨q1,q2⟩:=nrz h hq rfl hb' (Nat.le_refl _) hf' hm1 ho1
 have hg2:box11 w2 g o:=(hb.block g (block_lt hg)).trans hg
 refine⟨w.heap.size,W,rfl,(h.below hb).tree.cells.2.1,hg2,hrun,(ho1.block g (block_lt (show w2.drew.heap[g]? =some _ from hg2)) (λe=>hgF (by rw[show g=fm from e];exact hfmF))).trans hg2, ?_⟩
 have hF:∀b,(F b∨b=w.heap.size)→F b∨w.heap.size≤b:=λb hb=>hb.imp id λe=>by omega
 refine(q1.add (kOz E _ _ hq) (hin.next q2 hF) hk hm hnew hl).mono ?_
 rintro e w' ⟨rfl,k⟩
 exact⟨rfl,k.of_step q2 hF⟩
theorem VM.write_new (h:VM F w vb nsf bsf m ls cn Ft (.map (some fm)) E Fs) (hq:atM E (o.ot,o.on)=none) (hin:Stays F w o (nsf o) (bsf o)) (hk:o.kd=4) (hm:L.mayW o (nsf o)=true) (hnew:∀x∈m,(x.t,x.n)≠(o.t,o.n)) (hl:m.length<800):
  Calls Tryz.prog 28 #[.pointer (some ⟨vb,0,none⟩),b2z o] w λe w'=>e=.returned (.tuple #[])∧VMo F w vb nsf bsf (m++[o]) ls cn Ft w':=by
 obtain⟨A,hA,bA,kA⟩:=gez w o
 have bD:=a2z bA (a6z A)
 have hA4:A.cell? ⟨vb,4,none⟩=some (.map (some fm)):=(h.below bA).tree.cells.2.1
 have hmA:MapAt A fm E:=by
  rcases h.fmap with⟨e,_⟩|⟨fm',e,h1,_⟩
  ·cases e
  ·cases e;exact h1.kept (Below.only bA (λ_=>False)) (λf=>f)
 have hlk:=jiz (w:=A.drew) (mb:=fm) (E:=E) hmA o.ot o.on
 rw[hq]at hlk
 have c:=((h.below bD).new_step hq (hin.next (Below.only bD F) (λ_ e=>.inl e)) hk hm hnew hl (g:=w.heap.size) kA (λhF=>by have:=h.low _ hF;omega))
 have fin:∀w',VMo F A.drew vb nsf bsf (m++[o]) ls cn Ft w'→VMo F w vb nsf bsf (m++[o]) ls cn Ft w':=λw' k=>k.of_below bD
 obtain⟨a0,a1,a2,a3,a4,a5,a6,a7,a8,a9,a10⟩:=box11.cells kA
 have HA:=a0z hA
 clear h hin hm hnew hl bA kA hmA hA hk hq bD
 generalize VMo F w vb nsf bsf (m++[o]) ls cn Ft=PP at fin⊢
 generalize VMo F A.drew vb nsf bsf (m++[o]) ls cn Ft=PQ at fin c
 have HF:=(show Hid _ from fin)
 clear fin
 obtain⟨t,n,sq,kd,ot,on,pt,pn,nm,dp,dl,dc,sp,sl,sc⟩:=o
 simp only[b2z,bhz]at*
 have q1:=hez fm
 rw[HA.out]at hA4 hlk c a0 a1 a2 a3 a4 a5 a6 a7 a8 a9 a10
 simp only[Option.elim]at hlk
 clear HA
 go_enter Tryz.func28,Tryz.ntmps28
 go_wp2_with fail
 go_region
 go_wp2_with (go_at_call 73;refine c.mono ?_;clear a0 a1 a2 a3 a4 a5 a6 a7 a8 a9 a10 hA4 hlk;rintro e w2 ⟨fb,W,rfl,x4,hg2,hput,hg3,c2⟩;obtain⟨b0,b1,b2,b3,b4,b5,b6,b7,b8,b9,b10⟩:=box11.cells hg2;obtain⟨d0,d1,d2,d3,d4,d5,d6,d7,d8,d9,d10⟩:=box11.cells hg3;clear hg2 hg3 c;simp only[pv]at hput)
 go_region
 go_wp2_with (go_at_call 74;refine c2.mono ?_;rintro e w3 ⟨rfl,h3⟩;have H3:Hid (PP w3):=HF.out _ h3;clear h3)
 go_end0
 exact⟨rfl,H3.out⟩
theorem VM.write_first (h:VM F w vb nsf bsf m ls cn Ft (.map none) E Fs) (hin:Stays F w o (nsf o) (bsf o)) (hk:o.kd=4) (hm:L.mayW o (nsf o)=true) (hnew:∀x∈m,(x.t,x.n)≠(o.t,o.n)) (hl:m.length<800):
  Calls Tryz.prog 28 #[.pointer (some ⟨vb,0,none⟩),b2z o] w λe w'=>e=.returned (.tuple #[])∧VMo F w vb nsf bsf (m++[o]) ls cn Ft w':=by
 obtain⟨A,hA,bA,kA⟩:=gez w o
 have bA2:=a2z bA (a3z A (.map #[] 0)).out
 have hAs:A.heap.size=w.heap.size+1:=by rw[hA];simp
 obtain⟨B,hB⟩:∃B,B=(A.alloc (.map #[] 0)).setCell ⟨vb,4,none⟩ (.map (some (w.heap.size+1))):=⟨_,rfl⟩
 have hE:E=[]:=by
  rcases h.fmap with⟨_,e⟩|⟨fm',e,_⟩
  ·exact e
  ·cases e
 have hA2:=h.below bA2
 have hvb:F vb:=h.inF _ h.tree.cells.1
 have hmm:MapAt (A.alloc (.map #[] 0)) (w.heap.size+1) []:=⟨#[],0,by rw[← hAs];exact heap_alloc_new A _,rfl⟩
 have hlow:=h.low
 have hnF:¬F (w.heap.size+1):=λe=>by have:=hlow _ e;omega
 have hO:=dZz (A.alloc (.map #[] 0)) vb 4 (.map (some (w.heap.size+1)))
 rw[← hB]at hO
 obtain⟨q1,q2⟩:=hA2.first hmm hnF (by rw[hB];exact hA2.tree.setFiles _) hO
 have hF1:∀b,(F b∨b=w.heap.size+1)→F b∨w.heap.size≤b:=λb hb=>hb.imp id λe=>by omega
 have hOw:Only F w B:=(Below.only bA2 F).next q2
 have hA4:A.cell? ⟨vb,4,none⟩=some (.map none):=(h.below bA).tree.cells.2.1
 have hA4':(A.alloc (.map #[] 0)).cell? ⟨vb,4,none⟩=some (.map none):=hA2.tree.cells.2.1
 have hz4:(A.alloc (.map #[] 0)).frozen? ⟨vb,4,none⟩=false:=hA2.tree.cells.2.2.2.1 4
 have hB4:B.cell? ⟨vb,4,none⟩=some (.map (some (w.heap.size+1))):=q1.tree.cells.2.1
 have hgv:w.heap.size≠vb:=λe=>by have:=hlow _ hvb;omega
 have kA2:(A.alloc (.map #[] 0)).heap[w.heap.size]? =some (.cells (bhz o) 33 (0,0)):=((a3z A (.map #[] 0)).out.block _ (block_lt kA)).trans kA
 have kB:box11 B w.heap.size o:=(hO.block _ (block_lt kA2) hgv).trans kA2
 have bD:=a6z B
 have hlk:=jiz (w:=B.drew) (mb:=w.heap.size+1) (E:=E) (by rw[hE];exact hmm.kept (hO.next (Below.only (a6z B) _)) (λe=>by have e':w.heap.size+1=vb:=e;have:=hlow _ hvb;omega)) o.ot o.on
 have hq:atM E (o.ot,o.on)=none:=by rw[hE];rfl
 rw[hq]at hlk
 have c:=((q1.below bD).new_step hq (hin.next (hOw.next (Below.only bD F)) hF1) hk hm hnew hl (g:=w.heap.size) kB (λhF=>by
  rcases hF with hF|hF
  ·have:=hlow _ hF;omega
  ·omega))
 have fin:∀w',VMo (λb=>F b∨b=w.heap.size+1) B.drew vb nsf bsf (m++[o]) ls cn Ft w'→VMo F w vb nsf bsf (m++[o]) ls cn Ft w':=λw' k=>k.of_step (hOw.next (Below.only bD F)) hF1
 obtain⟨a0,a1,a2,a3,a4,a5,a6,a7,a8,a9,a10⟩:=box11.cells kB
 have HA:=a0z hA
 have HB:=a0z hB
 clear hAs h hin hm hnew hl bA kA bA2 hB hE hA2 hvb hmm hlow hnF hO q1 q2 hF1 hOw hgv kA2 kB hA hk hq bD
 generalize VMo F w vb nsf bsf (m++[o]) ls cn Ft=PP at fin⊢
 generalize VMo (λb=>F b∨b=w.heap.size+1) B.drew vb nsf bsf (m++[o]) ls cn Ft=PQ at fin c
 have HF:=(show Hid _ from fin)
 clear fin
 obtain⟨t,n,sq,kd,ot,on,pt,pn,nm,dp,dl,dc,sp,sl,sc⟩:=o
 simp only[b2z,bhz]at*
 have q0:=kRz
 have hmk:= @run_makeMap Tryz.prog
 rw[HB.out]at hlk c a0 a1 a2 a3 a4 a5 a6 a7 a8 a9 a10 hB4
 rw[HA.out]at hlk c a0 a1 a2 a3 a4 a5 a6 a7 a8 a9 a10 hA4 hA4' hz4 hB4
 simp only[Option.elim]at hlk
 clear HA HB
 go_enter Tryz.func28,Tryz.ntmps28
 go_wp2_with fail
 go_region
 go_wp2_with (go_at_call 73;refine c.mono ?_;clear a0 a1 a2 a3 a4 a5 a6 a7 a8 a9 a10 hA4 hA4' hz4 hB4 hlk;rintro e w2 ⟨fb,W,rfl,x4,hg2,hput,hg3,c2⟩;obtain⟨b0,b1,b2,b3,b4,b5,b6,b7,b8,b9,b10⟩:=box11.cells hg2;obtain⟨d0,d1,d2,d3,d4,d5,d6,d7,d8,d9,d10⟩:=box11.cells hg3;clear hg2 hg3 c;simp only[pv]at hput)
 go_region
 go_wp2_with (go_at_call 74;refine c2.mono ?_;rintro e w3 ⟨rfl,h3⟩;have H3:Hid (PP w3):=HF.out _ h3;clear h3)
 go_end0
 exact⟨rfl,H3.out⟩
theorem VM.write (h:VM F w vb nsf bsf m ls cn Ft fv E Fs) (hin:Stays F w o (nsf o) (bsf o)) (hk:o.kd=4) (hm:L.mayW o (nsf o)=true) (hnew:∀x∈m,(x.t,x.n)≠(o.t,o.n)) (hl:m.length<800):
  Calls Tryz.prog 28 #[.pointer (some ⟨vb,0,none⟩),b2z o] w λe w'=>e=.returned (.tuple #[])∧VMo F w vb nsf bsf (m++[o]) ls cn Ft w':=by
 rcases h.fmap with⟨rfl,_⟩|⟨fm,rfl,_⟩
 ·exact h.write_first hin hk hm hnew hl
 ·cases hq:atM E (o.ot,o.on)with
  |none=>exact h.write_new hq hin hk hm hnew hl
  |some fb=>exact h.write_old hq hin hk hm hnew hl
end
end Go.Proofs.YthhakekbffembaaGreatDoor.Ck.Y.W

namespace Go.Proofs.YthhakekbffembaaGreatDoor.Ck.Y.W
open Go.RowKit Go.Maps Go.Lib
open L (a2z a6z anz a5z)
theorem nMz {w:World} {o:OG} {ns:List Int} {bs:List (BitVec 8)} (h:L.WIn w o ns bs):OpIn w o ns:=⟨h.seen,h.sl,h.sc,h.le,by have:=h.dl;have:=h.bl;omega,h.nm⟩
section
variable {F:Nat→Prop} {w w':World} {vb:Nat} {nsf:OG→List Int} {bsf:OG→List (BitVec 8)} {m ls:List OG} {cn:Value} {Ft:Nat→Prop} {fv:Value} {E:List (PI×Nat)} {Fs:PI→Nat→Prop} {o:OG} {ns:List Int} {bs:List (BitVec 8)}
theorem VM.skip (h:VM F w vb nsf bsf m ls cn Ft fv E Fs) (hk:o.kd≠4):VM F w vb nsf bsf (m++[o]) ls cn Ft fv E Fs:=by
 have e:∀q,vsq nsf bsf (m++[o]) q=vsq nsf bsf m q:=λq=>lAz m λh=>hk h.1
 exact⟨h.tree,h.fmap,λq fb hq=>by rw[e];exact h.file q fb hq,λq hq=>by rw[e];exact h.no q hq,h.apart,h.off,h.inF,h.low⟩
def iNz (F:Nat→Prop) (w:World) (vb:Nat) (nsf:OG→List Int) (bsf:OG→List (BitVec 8)) (m:List OG) (w':World):Prop:=∃ls F',VW F' w' vb nsf bsf m ls∧(∀b,F' b→F b∨w.heap.size≤b)∧Only F w w'
def ovz (F:Nat→Prop) (w:World) (vb:Nat) (nsf:OG→List Int) (bsf:OG→List (BitVec 8)) (m:List OG) (w':World):Prop:=∃ls,VJ w F vb nsf bsf m ls w'
theorem VW.apply0 (h:VW F w vb nsf bsf m ls) (hin:Stays F w o (nsf o) (bsf o)) (hm:L.mayW o (nsf o)=true) (hnew:∀x∈m,(x.t,x.n)≠(o.t,o.n)) (hl:m.length≤700):
  Calls Tryz.prog 9 #[.pointer (some ⟨vb,0,none⟩),b2z o] w λe w'=>e=.returned (.int .i64 0)∧iNz F w vb nsf bsf (m++[o]) w':=by
 obtain⟨Ft,fv,E,Fs,h,hs⟩:=h
 obtain⟨A,hA,bA,kA⟩:=gez w o
 have hlow:=h.low
 obtain⟨k,hk⟩:∃k,m.length=k:=⟨_,rfl⟩
 obtain⟨D,hD⟩:∃D,D=A.drew:=⟨_,rfl⟩
 have bD:Below w.heap.size w D:=by rw[hD];exact a2z bA (a6z A)
 have hA2:=h.below bD
 have kD:D.heap[w.heap.size]? =some (.cells (bhz o) 33 (0,0)):=by rw[hD];exact kA
 have c1:Calls Tryz.prog 27 #[.pointer (some ⟨vb,0,none⟩),b2z o] D λe w1=>∃z:Int,e=.returned (.tuple #[.int .i64 z,.int .i64 0])∧w1.cell? ⟨vb,5,none⟩=some (.int .i64 (k:Nat))∧w1.frozen? ⟨vb,5,none⟩=false∧box11 (w1.setCell ⟨vb,5,none⟩ (.int .i64 ((k:Int)+1))) w.heap.size o∧
   (o.kd≠4→iNz F w vb nsf bsf (m++[o]) (w1.setCell ⟨vb,5,none⟩ (.int .i64 ((k:Int)+1))))∧
   (o.kd=4→Calls Tryz.prog 28 #[.pointer (some ⟨vb,0,none⟩),b2z o] (w1.setCell ⟨vb,5,none⟩ (.int .i64 ((k:Int)+1))) λe w'=>e=.returned (.tuple #[])∧iNz F w vb nsf bsf (m++[o]) w'):=by
  refine(jOz hA2.tree.tight (nMz (hin D (Below.only bD F))) hm (λx hx=>hnew x (hs.perm.mem_iff.1 hx)) (by rw[hs.len];exact hl)).mono ?_
  rintro e w1 ⟨i,rfl,hi,k1,k2⟩
  obtain⟨q1,q2⟩:=hA2.turned k1 (λ_ h=>h) k2
  have hsrt:=hs.ins hi
  have hcn:(Value.int .i64 ((k:Int)+1))=.int .i64 ((m++[o]).length:Nat):=by rw[List.length_append,hk];simp
  have hO:=dZz w1 vb 5 (.int .i64 ((k:Int)+1))
  obtain⟨r1,r2⟩:=q1.own (q1.tree.setCount _) hO rfl
  have hbox1:box11 w1 w.heap.size o:=(q2.block _ (block_lt kD) (λe=>by have:=hlow _ e;omega)).trans kD
  have hvb:F vb:=h.inF _ h.tree.cells.1
  have hne:w.heap.size≠vb:=λe=>by have:=hlow _ hvb;omega
  have hbox:box11 (w1.setCell ⟨vb,5,none⟩ (.int .i64 ((k:Int)+1))) w.heap.size o:=(hO.block _ (block_lt hbox1) hne).trans hbox1
  have hG:∀b,ajz (bZz Ft D) D w1 b→F b∨w.heap.size≤b:=λb hb=>by
   rcases hb with hb|hb
   ·exact .inl (h.inF b hb.1)
   ·have:=bD.size;exact .inr (by omega)
  have hF1:∀b,(F b∨ajz (bZz Ft D) D w1 b)→F b∨w.heap.size≤b:=λb hb=>hb.elim .inl (hG b)
  have hOw:Only F w (w1.setCell ⟨vb,5,none⟩ (.int .i64 ((k:Int)+1))):=((Below.only bD F).next q2).trans r2 hF1
  refine⟨_,rfl,by rw[← hk];exact q1.tree.cells.2.2.1,q1.tree.cells.2.2.2.1 5,hbox,λh4=> ?_,λh4=> ?_⟩
  ·have r3:=r1.skip h4
   rw[hcn]at r3 hOw⊢
   exact⟨_,_,⟨_,_,_,_,r3,hsrt⟩,hF1,hOw⟩
  ·refine(r1.write (hin.next hOw hF1) h4 hm hnew (by omega)).mono ?_
   rintro e w' ⟨rfl,F',fv',E',Fs',t1,t2,t3⟩
   rw[hcn]at t1
   refine⟨rfl,_,F',⟨_,_,_,_,t1,hsrt⟩,λb hb=> ?_,hOw.trans t3 hF1⟩
   rcases t2 b hb with e|e
   ·exact hF1 b e
   ·exact .inr (Nat.le_trans hOw.size e)
 have hk9:k≤700:=by omega
 have HA:=a0z hA
 obtain⟨a0,a1,a2,a3,a4,a5,a6,a7,a8,a9,a10⟩:=box11.cells kA
 rw[hD]at c1
 clear h hs hin hm hnew hl hA bA kA hlow hk hA2 bD kD hD
 generalize iNz F w vb nsf bsf (m++[o])=PP at c1⊢
 obtain⟨t,n,sq,kd,ot,on,pt,pn,nm,dp,dl,dc,sp,sl,sc⟩:=o
 simp only[b2z,bhz]at*
 rw[HA.out]at c1 a0 a1 a2 a3 a4 a5 a6 a7 a8 a9 a10
 clear HA
 go_enter Tryz.func9,Tryz.ntmps9
 go_wp2_with fail
 go_region_with (go_at_call 27;refine c1.mono ?_;rintro e w1 ⟨z,rfl,d5,f5,hbx,hN,hW⟩;obtain⟨b0,b1,b2,b3,b4,b5,b6,b7,b8,b9,b10⟩:=box11.cells hbx;have HN:=(show Hid _ from hN);have HWr:=(show Hid _ from hW);clear hN hW hbx c1 a0 a1 a2 a3 a4 a5 a6 a7 a8 a9 a10)
 all_goals
  by_cases h4:kd=4
  ·have cW:=HWr.out h4
   clear HN HWr
   subst h4
   go_wp2_with (go_at_call 28;refine cW.mono ?_;rintro e w2 ⟨rfl,h2⟩;have H2:=a0z h2;clear h2 cW)
   go_ret
   exact⟨rfl,H2.out⟩
  ·have H2:Hid (PP (w1.setCell ⟨vb,5,none⟩ (.int .i64 ((k:Int)+1)))):=HN.out h4
   clear HN HWr
   go_wp2_with fail
   go_ret
   exact⟨rfl,H2.out⟩
theorem VW.apply (h:VW F w vb nsf bsf m ls) (hin:Stays F w o (nsf o) (bsf o)) (hm:L.mayW o (nsf o)=true) (hnew:∀x∈m,(x.t,x.n)≠(o.t,o.n)) (hl:m.length≤700):
  Calls Tryz.prog 9 #[.pointer (some ⟨vb,0,none⟩),b2z o] w λe w'=>e=.returned (.int .i64 0)∧ovz F w vb nsf bsf (m++[o]) w':=by
 refine(h.tight.apply0 (λW hW=>hin W (atz hW λb hb=>hb.1)) hm hnew hl).mono ?_
 rintro e w' ⟨he,ls',F',h1,h2,h3⟩
 exact⟨he,ls',F',h1,λb hb=>(h2 b hb).imp (λe=>e.1) id,atz h3 λb hb=>hb.1,h8z h3⟩
end
end Go.Proofs.YthhakekbffembaaGreatDoor.Ck.Y.W
