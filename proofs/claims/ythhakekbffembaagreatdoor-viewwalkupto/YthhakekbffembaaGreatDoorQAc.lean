import Derived.Test.YthhakekbffembaaGreatDoorQAa
import Derived.Test.YthhakekbffembaaGreatDoorKAshelf
import Derived.Lib.AppendIntMem
import Derived.Lib.BufferWrite
import Derived.Laws.Concat
set_option maxRecDepth 8000
set_option maxHeartbeats 1000000

namespace Go.Proofs.YthhakekbffembaaGreatDoor.Ck.Sh
open Go.RowKit Go.Lib
attribute [local go_sem] Oper.semAt_some
structure Lb (w:World):Prop where
 tab:Lib.TabIs Tryz.prog w "internal/strconv.uint64pow10" .u64 Lib.pow10Tab
 syn:∃te pe,w.cell? ⟨1,0,none⟩=some (.iface te pe)
 rng:∃te pe,w.cell? ⟨2,0,none⟩=some (.iface te pe)
 len:∃m,w.cell? ⟨0,0,none⟩=some (.int .i64 m)
theorem cell_kept {w w':World} {b k:Nat} {v:Value} (h:w.cell? ⟨b,k,none⟩=some v) (hb:Below w.heap.size w w'):w'.cell? ⟨b,k,none⟩=some v:=by
 have hl:=a4z h
 have hk:=hb.block b hl
 unfold World.cell? at h⊢
 simp only at h⊢
 rw[hk]
 exact h
theorem Lb.below {w w':World} (h:Lb w) (hb:Below w.heap.size w w'):Lb w':=by
 obtain⟨tab,⟨a,b,syn⟩,⟨c,d,rng⟩,⟨m,len⟩⟩:=h
 exact⟨Lib.tabBelow_of_tabIs tab w' hb,⟨a,b,cell_kept syn hb⟩,⟨c,d,cell_kept rng hb⟩,⟨m,cell_kept len hb⟩⟩
theorem afz {a b c:World} (h:Below a.heap.size a b) (k:Below b.heap.size b c):Below a.heap.size a c:=
 ⟨k.os.trans h.os,k.tape.trans h.tape,k.output.trans h.output,Nat.le_trans h.size k.size,λi hi=>(k.block i (Nat.lt_of_lt_of_le hi h.size)).trans (h.block i hi)⟩
theorem below_drewN (w:World) (n:Nat):Below w.heap.size w (w.drewN n):=⟨rfl,rfl,rfl,Nat.le_refl _,λ_ _=>rfl⟩
theorem ncz (z:Int) (h0: -9223372036854775808≤z) (h1:z≤9223372036854775807) (w:World) (h:Lb w):Calls Tryz.prog 164 #[.int .i64 z,.int .i64 10] w λe w'=>e=.returned (.string (bas (itoa z)))∧Below w.heap.size w w':=
 (Any.strconv_FormatInt_10 Tryz.laysM173 z h0 h1 w h.tab).mono λ_ _ ⟨he,k,os,hw⟩=>⟨he,hw▸Lib.below_grow _ w (Nat.le_refl _) k os⟩
theorem m7z (z:Int) (h0: -9223372036854775808≤z) (h1:z≤9223372036854775807) (w:World) (h:Lb w):Calls Tryz.prog 165 #[.int .i64 z] w λe w'=>e=.returned (.string (bas (itoa z)))∧Below w.heap.size w w':=
 (Any.strconv_Itoa Tryz.laysM171 z h0 h1 w h.tab).mono λ_ _ ⟨he,k,os,hw⟩=>⟨he,hw▸Lib.below_grow _ w (Nat.le_refl _) k os⟩
def l5z (e:Ending) (z:Int):Prop:=∃er,e=.returned (.tuple #[.int .i64 z,er])
theorem kbz (l:List UInt8) (hl:l.length<1000000000000000/10) (w:World) (h:Lb w):Calls Tryz.prog 161 #[.string (bas l),.int .i64 10,.int .i64 64] w λe w'=>l5z e (tv l)∧Below w.heap.size w w':=by
 have hs:=bas_size l
 obtain⟨te,pe,hsyn⟩:=h.syn
 obtain⟨te',pe',hrng⟩:=h.rng
 cases hp:parseIntB 64 l with
 |ok v=>
  have ht:tv l=v:=by unfold tv;rw[hp]
  rw[ht]
  refine(Any.strconv_ParseInt_10_at64_ok Tryz.laysC174 (bas l) (by omega) v (by rw[bas_data];exact hp) w).mono λe w' ⟨he,hw⟩=>⟨⟨_,he⟩, ?_⟩
  rcases hw with rfl|⟨t,rfl⟩
  ·exact Below.refl _ _
  ·exact Lib.bytesWorld_below ..
 | «syntax» =>
  have ht:tv l=0:=by unfold tv;rw[hp]
  rw[ht]
  exact(Any.strconv_ParseInt_10_at64_syntax Tryz.laysC174 (bas l) (by omega) (by rw[bas_data];exact hp) _ w hsyn (.inr ⟨_,_,rfl⟩)).mono λe w' ⟨N,he,_,_,hb⟩=>⟨⟨_,he⟩,hb⟩
 |range=>
  have ht:tv l=intSat 64 l:=by unfold tv;rw[hp]
  rw[ht]
  have c:=Any.strconv_ParseInt_10_at64_range Tryz.laysC174 (bas l) (by omega) (by rw[bas_data];exact hp) _ w hrng (.inr ⟨_,_,rfl⟩)
  rw[bas_data]at c
  exact c.mono λe w' ⟨N,he,_,_,hb⟩=>⟨⟨_,he⟩,hb⟩
theorem lWz (l:List UInt8) (hl:l.length<1000000000000000/10) (w:World) (h:Lb w):Calls Tryz.prog 162 #[.string (bas l)] w λe w'=>l5z e (nv l)∧Below w.heap.size w w':=by
 have hs:=bas_size l
 obtain⟨te,pe,hsyn⟩:=h.syn
 obtain⟨te',pe',hrng⟩:=h.rng
 cases hp:atoiAll l with
 |ok v=>
  have ht:nv l=v:=by unfold nv;rw[hp]
  rw[ht]
  refine(Any.strconv_Atoi_ok Tryz.laysC172 (bas l) (by omega) v (by rw[bas_data];exact hp) w).mono λe w' ⟨he,hw⟩=>⟨⟨_,he⟩, ?_⟩
  rcases hw with rfl|⟨t,rfl⟩
  ·exact Below.refl _ _
  ·exact Lib.bytesWorld_below ..
 | «syntax» =>
  have ht:nv l=0:=by unfold nv;rw[hp]
  rw[ht]
  exact(Any.strconv_Atoi_syntax Tryz.laysC172 (bas l) (by omega) (by rw[bas_data];exact hp) _ w hsyn (.inr ⟨_,_,rfl⟩)).mono λe w' ⟨N,he,_,_,hb⟩=>⟨⟨_,he⟩,hb⟩
 |range=>
  have ht:nv l=atoiSat l:=by unfold nv;rw[hp]
  rw[ht]
  have c:=Any.strconv_Atoi_range Tryz.laysC172 (bas l) (by omega) (by rw[bas_data];exact hp) _ w hrng (.inr ⟨_,_,rfl⟩)
  rw[bas_data]at c
  exact c.mono λe w' ⟨N,he,_,_,hb⟩=>⟨⟨_,he⟩,hb⟩
theorem gBz (l m:List UInt8) (hl:l.length<4294967281) (w:World) (h:Lb w):Calls Tryz.prog 119 #[.string (bas l),.string (bas m)] w λe w'=>e=.returned (.tuple #[.string (bas (Lib.cut l m).1),.string (bas (Lib.cut l m).2.1),.bool (Lib.cut l m).2.2])∧Below w.heap.size w w':=by
 obtain⟨k,hk⟩:=h.len
 have c:=Any.strings_Cut Tryz.lays145 (bas l) (bas m) k w (by rw[bas_size];exact hl) hk
 rw[bas_data,bas_data]at c
 exact c.mono λe w' ⟨he,n,hw⟩=>⟨he,hw▸below_drewN w n⟩
theorem diz (s:ByteArray) (w:World) (hlim:s.size≤200000000000000):Calls Tryz.prog 149 #[.string s] w λe w'=>e=.returned (.string s)∧Below w.heap.size w w':=by
 by_cases h0:s.size=0
 ·have hs:s=⟨#[]⟩:=by
   apply ByteArray.ext
   exact Array.eq_empty_of_size_eq_zero h0
  subst hs
  go_enter Tryz.func149,Tryz.ntmps149
  go_wp2
  go_ret
  exact⟨rfl,Below.refl _ _⟩
 ·have e5:(Tryz.prog.info? 5).map (λi=>(i.zero,i.size,i.bytes))=some (some (.int .u8 0),1,1):=by kernel_rfl
  obtain⟨i0,hi,he⟩:=Option.map_eq_some_iff.1 e5
  injection he with hz0 he
  injection he with hz1 hz2
  have hinfo:(Tryz.prog.info? 5).map (·.size)=some 1:=by rw[hi];simp[hz1]
  have hco:Tryz.prog.cellsOf 5=1:=by simp[Program.cellsOf,hi,hz1]
  obtain⟨M,hM⟩:∃M,M=madeCells (Value.int .u8 0).cells (((s.size:Nat):Int).toNat*i0.size):=⟨_,rfl⟩
  have hMs:M.size=s.size:=by rw[hM,size_madeCells,hz1];simp
  have hmk:∀W:World,(Instr.makeSlice 29 (.int .i64 (s.size:Int)) (.int .i64 (s.size:Int))).run Tryz.prog W=.ok (.slice (some ⟨W.heap.size,0,none⟩) s.size s.size) (W.alloc (.cells M 5)):=λW=>by
   have h:=run_make (P:=Tryz.prog) W 29 5 i0 (.int .u8 0) Tryz.underlying29 hi hz0 .i64 .i64 (s.size:Int) (s.size:Int) (by omega) (by omega) (by rw[hz2];omega) (by omega)
   rw[← hM]at h
   simpa using h
  clear hM
  have hcp:=Lib.run_copy_row_string (P:=Tryz.prog) (w.alloc (.cells M 5)) 29 9 3 5 w.heap.size 0 s.size s.size s M 5 Tryz.underlying29 hinfo (heap_alloc_new w _) (Nat.le_refl _) (by omega)
  obtain⟨Y,hY⟩:∃Y,Y=(M.toList.take 0++Lib.byteCells s.data.toList++M.toList.drop (0+s.size)).toArray:=⟨_,rfl⟩
  rw[← hY]at hcp
  have hYl:Y.toList=Lib.byteCells s.data.toList:=by
   rw[hY,List.toList_toArray,List.take_zero,List.nil_append,List.drop_of_length_le (by rw[Array.length_toList];omega),List.append_nil]
  have hYs:Y.size=s.size:=by rw[← Array.length_toList,hYl,Lib.byteCells_length,← Lib.size_eq]
  have hgY:((w.alloc (.cells M 5)).setRow w.heap.size Y).heap[w.heap.size]? =some (.cells Y 5 (0,0)):=setRow_heap _ _ M _ 5 (0,0) (heap_alloc_new w _)
  have hne:s.data.toList≠[]:=λe=>h0 (by rw[Lib.size_eq,e];rfl)
  have hUS:=Lib.run_unsafeString_row (P:=Tryz.prog) ((w.alloc (.cells M 5)).setRow w.heap.size Y) 221 3 9 5 Tryz.underlying221 hco w.heap.size Y.size (by unfold World.shape?;rw[hgY]) s.data.toList hne (by rw[← Lib.size_eq];omega) (by rw[← Lib.size_eq];omega)
   (λj x hx=>Lib.cells_of_row hgY Y.size j _ (by rw[List.take_of_length_le (by rw[Array.length_toList];exact Nat.le_refl _),hYl];simp[Lib.byteCells,hx]))
  rw[← Lib.size_eq]at hUS
  clear hY
  go_enter Tryz.func149,Tryz.ntmps149
  go_wp2
  go_ret
  have hb1:Below w.heap.size w (w.alloc (.cells M 5)):=(Below.refl _ w).alloc (Nat.le_refl _) _
  have hb2:Below w.heap.size (w.alloc (.cells M 5)) ((w.alloc (.cells M 5)).setRow w.heap.size Y):=⟨rfl,rfl,rfl,by simp,λk hk=>setRow_other _ _ _ _ (by omega)⟩
  exact⟨rfl,Lib.below_freeze (hb1.trans hb2) (p:=⟨w.heap.size,0,none⟩) (Nat.le_refl _) _⟩
theorem bsz (s:ByteArray) (w:World) (hlim:s.size≤200000000000000):Calls Tryz.prog 106 #[.string s] w λe w'=>e=.returned (.string s)∧Below w.heap.size w w':=by
 have c:=diz s w hlim
 go_enter Tryz.func106,Tryz.ntmps106
 go_wp2_with (go_at_call 149;refine c.mono ?_;rintro e w1 ⟨rfl,hb⟩;have HB:=a0z hb;clear hb)
 go_ret
 exact⟨rfl,HB.out⟩
end Go.Proofs.YthhakekbffembaaGreatDoor.Ck.Sh

namespace Go.Proofs.YthhakekbffembaaGreatDoor.Ck.Sh
open Go.RowKit Go.Lib
attribute [local go_sem] Oper.semAt_some
variable {w:World} {b:Nat} {t n:Int}
theorem iBz (a b:List UInt8):bas a++bas b=bas (a++b):=by
 apply ByteArray.ext
 rw[ByteArray.data_append]
 apply Array.toList_inj.1
 simp[bas]
theorem bPz (a b:List UInt8) (W:World) (h:a.length+b.length≤9223372036854775807):(Op.stringOp .add (bas a) (bas b)).run Tryz.prog W=.ok (.string (bas (a++b))) W:=by
 have e:=run_string_add_sum (P:=Tryz.prog) (w:=W) (bas a) (bas b) (by rw[bas_size,bas_size];exact h)
 rw[iBz]at e
 exact e
def InI (z:Int):Prop:= -9223372036854775808≤z∧z≤9223372036854775807
theorem fjz (t n:Int) (ht:InI t) (hn:InI n) (w:World) (h:Lb w):Calls Tryz.prog 122 #[idv t n] w λe w'=>e=.returned (.string (bas (bbz t n)))∧Below w.heap.size w w':=by
 have cf:=λW (hW:Lb W)=>ncz t ht.1 ht.2 W hW
 have ci:=λW (hW:Lb W)=>m7z n hn.1 hn.2 W hW
 have lx:=Lib.itoa_length_le t ht.1 ht.2
 have ly:=Lib.itoa_length_le n hn.1 hn.2
 have HE:Hid (bbz t n=1::(itoa t++46::itoa n)):=rfl
 generalize itoa t=x at cf HE lx
 generalize itoa n=y at ci HE ly
 obtain⟨x1,hx1⟩:∃x1,x1=(1:UInt8)::x:=⟨_,rfl⟩
 obtain⟨x2,hx2⟩:∃x2,x2=x1++[(46:UInt8)]:=⟨_,rfl⟩
 obtain⟨x3,hx3⟩:∃x3,x3=x2++y:=⟨_,rfl⟩
 have a1:∀W,(Op.stringOp .add ⟨#[1]⟩ (bas x)).run Tryz.prog W=.ok (.string (bas x1)) W:=λW=>by rw[hx1];exact bPz [1] x W (by simp;omega)
 have a2:∀W,(Op.stringOp .add (bas x1) ⟨#[46]⟩).run Tryz.prog W=.ok (.string (bas x2)) W:=λW=>by rw[hx2];exact bPz x1 [46] W (by rw[hx1];simp;omega)
 have a3:∀W,(Op.stringOp .add (bas x2) (bas y)).run Tryz.prog W=.ok (.string (bas x3)) W:=λW=>by rw[hx3];exact bPz x2 y W (by rw[hx2,hx1];simp;omega)
 have HX:Hid (bbz t n=x3):=by show _=_;rw[hx3,hx2,hx1,HE.out];simp
 clear hx1 hx2 hx3 HE lx ly
 clear ht hn
 go_enter Tryz.func122,Tryz.ntmps122
 go_wp2
 obtain⟨w2,hw2⟩:∃w2,w2=w.alloc (.cells #[.int .i64 t,.int .i64 n] 28):=⟨_,rfl⟩
 rw[← hw2]
 have hs2:w2.heap.size=w.heap.size+1:=by rw[hw2];simp
 have S0:w2.cell? ⟨w.heap.size,0,none⟩=some (.int .i64 t)∧w2.cell? ⟨w.heap.size,1,none⟩=some (.int .i64 n):=by
  rw[hw2]
  simp[go_sem]
 have HB:Hid (Below w.heap.size w w2):=by rw[hw2];exact a3z w _
 have HL:∀W,(W.cell? ⟨w.heap.size,0,none⟩=some (.int .i64 t)∧W.cell? ⟨w.heap.size,1,none⟩=some (.int .i64 n)∧Hid (Below w2.heap.size w2 W))→Lb W:=λW hW=>(h.below HB.out).below hW.2.2.out
 have HS:∀W W',(W.cell? ⟨w.heap.size,0,none⟩=some (.int .i64 t)∧W.cell? ⟨w.heap.size,1,none⟩=some (.int .i64 n)∧Hid (Below w2.heap.size w2 W))→Hid (Below W.heap.size W W')→W'.cell? ⟨w.heap.size,0,none⟩=some (.int .i64 t)∧W'.cell? ⟨w.heap.size,1,none⟩=some (.int .i64 n)∧Hid (Below w2.heap.size w2 W'):=λW W' h1 h2=>
  have hb:=afz h1.2.2.out h2.out
  ⟨cell_kept S0.1 hb,cell_kept S0.2 hb,hb⟩
 have HF:∀W,(W.cell? ⟨w.heap.size,0,none⟩=some (.int .i64 t)∧W.cell? ⟨w.heap.size,1,none⟩=some (.int .i64 n)∧Hid (Below w2.heap.size w2 W))→Below w.heap.size w W:=λW hW=>afz HB.out hW.2.2.out
 have S1:w2.drew.cell? ⟨w.heap.size,0,none⟩=some (.int .i64 t)∧w2.drew.cell? ⟨w.heap.size,1,none⟩=some (.int .i64 n)∧Hid (Below w2.heap.size w2 w2.drew):=⟨S0.1,S0.2,below_drewN w2 1⟩
 have S2:w2.cell? ⟨w.heap.size,0,none⟩=some (.int .i64 t)∧w2.cell? ⟨w.heap.size,1,none⟩=some (.int .i64 n)∧Hid (Below w2.heap.size w2 w2):=⟨S0.1,S0.2,Below.refl _ _⟩
 clear hw2 h hs2
 go_region_held3 (λW=>W.cell? ⟨w.heap.size,0,none⟩=some (.int .i64 t)∧W.cell? ⟨w.heap.size,1,none⟩=some (.int .i64 n)∧Hid (Below w2.heap.size w2 W))
  (first|exact S1|exact S2|assumption|exact HS _ _ (by assumption) (by assumption))
  (first|(go_at_call 164;refine acz (cf _ (HL _ (by assumption))) ?_;intro w3 HB3)|(go_at_call 165;refine acz (ci _ (HL _ (by assumption))) ?_;intro w4 HB4))
 go_wp2
 go_ret
 rw[HX.out]
 exact⟨rfl,HF _ (by assumption)⟩
def IdC (w:World) (b:Nat) (t n:Int):Prop:=w.heap[b]? =some (.cells #[.int .i64 t,.int .i64 n] 28 (0,0))
theorem IdC.c0 (h:IdC w b t n):w.cell? ⟨b,0,none⟩=some (.int .i64 t):=cellOf h 0
theorem IdC.c1 (h:IdC w b t n):w.cell? ⟨b,1,none⟩=some (.int .i64 n):=cellOf h 1
theorem IdC.fz (h:IdC w b t n) (j:Nat):w.frozen? ⟨b,j,none⟩=false:=aez h j
theorem IdC.lt (h:IdC w b t n):b<w.heap.size:=block_lt h
theorem IdC.below {w':World} (h:IdC w b t n) (hb:Below w.heap.size w w'):IdC w' b t n:=(hb.block b h.lt).trans h
theorem IdC.new (w:World) (t n:Int):IdC (w.alloc (.cells #[.int .i64 t,.int .i64 n] 28)) w.heap.size t n:=heap_alloc_new w _
theorem IdC.set0 (h:IdC w b t n) (x:Int):IdC (w.setCell ⟨b,0,none⟩ (.int .i64 x)) b x n:=by
 show _=_;rw[a7z h];rfl
theorem IdC.set1 (h:IdC w b t n) (x:Int):IdC (w.setCell ⟨b,1,none⟩ (.int .i64 x)) b t x:=by
 show _=_;rw[a7z h];rfl
theorem IdC.other {c k:Nat} {v:Value} (h:IdC w b t n) (hn:b≠c):IdC (w.setCell ⟨c,k,none⟩ v) b t n:=(Below.heap_setCell _ _ _ _ hn).trans h
theorem aIz {w0:World} (h:Below w0.heap.size w0 w) {c k:Nat} {v:Value} (hc:w0.heap.size≤c):Below w0.heap.size w0 (w.setCell ⟨c,k,none⟩ v):=
 ⟨h.os,h.tape,h.output,by simpa[World.setCell]using h.size,λi hi=>(Below.heap_setCell _ _ _ _ (by show i≠c;omega)).trans (h.block i hi)⟩
theorem kBz (l:List UInt8) (hl:l.length<4294967281) (w:World) (h:Lb w):Calls Tryz.prog 120 #[.string (bas l)] w λe w'=>e=.returned (idv (tv (Lib.cut l [46]).1) (nv (Lib.cut l [46]).2.1))∧Below w.heap.size w w':=by
 have cc:=λW (hW:Lb W)=>gBz l [46] hl W hW
 have l1:(Lib.cut l [46]).1.length≤l.length:=by
   unfold Lib.cut;split
   · simp;omega
   · simp
 have l2:(Lib.cut l [46]).2.1.length≤l.length:=by
   unfold Lib.cut;split
   · simp
   · simp
 have cp:=λW (hW:Lb W)=>kbz (Lib.cut l [46]).1 (by omega) W hW
 have ca:=λW (hW:Lb W)=>lWz (Lib.cut l [46]).2.1 (by omega) W hW
 generalize (Lib.cut l [46]).1=x at cc cp
 generalize (Lib.cut l [46]).2.1=y at cc ca
 generalize (Lib.cut l [46]).2.2=b3 at cc
 generalize tv x=t at cp
 generalize nv y=n at ca
 clear l1 l2 hl
 have e46:bas [46]=⟨#[46]⟩:=rfl
 rw[e46]at cc
 clear e46
 have HL:=a0z h
 clear h
 go_enter Tryz.func120,Tryz.ntmps120
 go_wp2_with (first
   |(go_at_call 119
     have b0:Below w.heap.size w (w.alloc (.cells #[.int .i64 0,.int .i64 0] 28)):=(a3z w _).out
     refine(cc _ (HL.out.below b0)).mono ?_
     rintro e w1 ⟨rfl,hb1⟩
     have b1:=Lib.hid (afz b0 hb1)
     have R1:=Lib.hid ((IdC.new w 0 0).below hb1)
     clear hb1 b0 cc)
   |(go_at_call 161
     have b2:Below w1.heap.size w1 (w1.alloc (.cells #[.int .i64 0,.int .i64 0] 28)):=(a3z w1 _).out
     refine(cp _ (HL.out.below (afz b1.out b2))).mono ?_
     rintro e w2 ⟨⟨er,rfl⟩,hb2⟩
     have b3:=Lib.hid (afz (afz b1.out b2) hb2)
     have R2:=Lib.hid (R1.out.below (afz b2 hb2))
     have I2:=Lib.hid ((IdC.new w1 0 0).below hb2)
     have s2:=Lib.hid (show w.heap.size≤w1.heap.size from b1.out.size)
     have n2:=Lib.hid (show w.heap.size<w1.heap.size from R1.out.lt)
     have i0:=I2.out.c0
     have f0:=I2.out.fz 0
     clear hb2 b2 cp)
   |(go_at_call 162
     refine(ca _ (HL.out.below (aIz b3.out s2.out))).mono ?_
     rintro e w3 ⟨⟨er',rfl⟩,hb3⟩
     have b4:=Lib.hid (afz (aIz b3.out s2.out) hb3)
     have I3:=(I2.out.set0 t).below hb3
     have R3:=(R2.out.other (by have:=n2.out;omega)).below hb3
     have j0:=I3.c0
     have i1:=I3.c1
     have f1:=I3.fz 1
     have r0:=R3.c0
     have r1:=R3.c1
     have g0:=R3.fz 0
     have g1:=R3.fz 1
     have nn:¬w.heap.size=w1.heap.size:=by have:=n2.out;omega
     have nm:¬w1.heap.size=w.heap.size:=by have:=n2.out;omega
     have HI:=Lib.hid I3
     have HR:=Lib.hid R3
     clear hb3 I3 R3 ca i0 f0))
 have q:=((HR.out.other (c:=w1.heap.size) (k:=1) (v:=.int .i64 n) nn).set0 t).set1 n
 have q0:=q.c0
 have q1:=q.c1
 exact bodyPost_ret (v:=idv t n) (by simp[results,Tryz.results120,go_sem,q0,q1]) rfl ⟨rfl,aIz (aIz (aIz b4.out s2.out) (Nat.le_refl _)) (Nat.le_refl _)⟩
def splitV (l:List UInt8):Option (List UInt8×Int×Int)→Value
 |some (nm,t,n)=>.tuple #[.string (bas nm),idv t n,.bool true]
 |none=>.tuple #[.string (bas l),idv 0 0,.bool false]
theorem bas_beq (a b:List UInt8):((bas a).toList==(bas b).toList)=decide (a=b):=by
 rw[aFz,aFz]
 by_cases h:a=b
 ·simp[h]
 ·simp[h]
theorem split_any (l:List UInt8) (hl:l.length<4294967281) (w:World) (h:Lb w):Calls Tryz.prog 83 #[.string (bas l)] w λe w'=>e=.returned (splitV l (bfz l))∧Below w.heap.size w w':=by
 have cc:=λW (hW:Lb W)=>gBz l [1] hl W hW
 have l1:(Lib.cut l [1]).1.length≤l.length:=by
   unfold Lib.cut;split
   · simp;omega
   · simp
 have l2:(Lib.cut l [1]).2.1.length≤l.length:=by
   unfold Lib.cut;split
   · simp
   · simp
 have cr:=λW (hW:Lb W)=>kBz (Lib.cut l [1]).2.1 (by omega) W hW
 have cn:=λW=>foz (Lib.cut l [1]).1 W (by omega)
 have ck:=λW=>bsz (bas (Lib.cut l [1]).1) W (by rw[bas_size];omega)
 have HP:Hid (bfz l=if nameN (fzz l)=0∧validB (fsz l) (fwz l)=true∧l=fzz l++bbz (fsz l) (fwz l)then some (fzz l,fsz l,fwz l)else none):=rfl
 have et:fsz l=tv (Lib.cut (Lib.cut l [1]).2.1 [46]).1:=rfl
 have ed:fwz l=nv (Lib.cut (Lib.cut l [1]).2.1 [46]).2.1:=rfl
 have en:fzz l=(Lib.cut l [1]).1:=rfl
 rw[← et,← ed]at cr
 rw[← en]at cn ck cc l1
 clear et ed en
 generalize fsz l=t at cr HP
 generalize fwz l=n at cr HP
 generalize fzz l=nm at cn ck cc HP l1
 generalize (Lib.cut l [1]).2.1=nums at cc cr l2
 generalize (Lib.cut l [1]).2.2=b3 at cc
 have e1:bas [1]=⟨#[1]⟩:=rfl
 rw[e1]at cc
 clear e1 l2
 have cv:=λW=>valid_any t n W
 have HL:=a0z h
 clear h
 by_cases h1:nameN nm=0
 · by_cases h2:validB t n=true
   · have bd:=bEz h2
     have cs:=λW (hW:Lb W)=>fjz t n ⟨by omega,by omega⟩ ⟨by omega,by omega⟩ W hW
     have ls:(bbz t n).length≤100:=by
       have a1:=Lib.itoa_length_le t (by omega) (by omega)
       have a2:=Lib.itoa_length_le n (by omega) (by omega)
       unfold bbz
       simp
       omega
     have HQ:Hid (bfz l=if l=nm++bbz t n then some (nm,t,n)else none):=by
       show _=_
       rw[HP.out]
       simp[h1,h2]
     clear HP bd
     generalize bbz t n=sf at cs ls HQ
     obtain⟨z,hz⟩:∃z,z=nm++sf:=⟨_,rfl⟩
     have az:∀W,(Op.stringOp .add (bas nm) (bas sf)).run Tryz.prog W=.ok (.string (bas z)) W:=λW=>by rw[hz];exact bPz nm sf W (by omega)
     rw[← hz]at HQ
     clear hz ls hl l1
     have hq:=bas_beq l z
     rw[h1]at cn
     rw[h2]at cv
     clear h1 h2
     by_cases h3:l=z
     · have HV:Hid (bfz l=some (nm,t,n)):=by show _=_;rw[HQ.out,if_pos h3]
       have hq':((bas l).toList==(bas z).toList)=true:=by rw[hq];exact decide_eq_true h3
       clear HQ h3 hq
       go_enter Tryz.func83,Tryz.ntmps83
       go_wp2_with (first
         |(go_at_call 119
           have b0:Below w.heap.size w (w.alloc (.cells #[.int .i64 0,.int .i64 0] 28)):=(a3z w _).out
           refine(cc _ (HL.out.below b0)).mono ?_
           rintro e w1 ⟨rfl,hb1⟩
           have b1:=Lib.hid (afz b0 hb1)
           have R1:=Lib.hid ((IdC.new w 0 0).below hb1)
           clear hb1 b0 cc)
         |(go_at_call 120
           refine(cr _ (HL.out.below b1.out)).mono ?_
           rintro e w2 ⟨rfl,hb2⟩
           have b2:=Lib.hid (afz b1.out hb2)
           have R2:=Lib.hid (R1.out.below hb2)
           have s2:=Lib.hid R2.out.lt
           clear hb2 cr)
         |(go_at_call 121;refine adz (cn _) ?_)
         |(go_at_call 99
           have b3:Below w2.heap.size w2 (w2.alloc (.cells #[.int .i64 t,.int .i64 n] 28)):=(a3z w2 _).out
           refine(cv _).mono ?_
           rintro e w3 ⟨rfl,hb3⟩
           have b4:=Lib.hid (afz (afz b2.out b3) hb3)
           have R3:=Lib.hid (R2.out.below (afz b3 hb3))
           have I3:=(IdC.new w2 t n).below hb3
           have i0:=I3.c0
           have i1:=I3.c1
           have HI:=Lib.hid I3
           clear hb3 b3 I3 cv)
         |(go_at_call 122
           refine(cs _ (HL.out.below b4.out)).mono ?_
           rintro e w4 ⟨rfl,hb4⟩
           have b5:=Lib.hid (afz b4.out hb4)
           have R4:=R3.out.below hb4
           have I4:=HI.out.below hb4
           have j0:=I4.c0
           have j1:=I4.c1
           have r0:=R4.c0
           have r1:=R4.c1
           have g0:=R4.fz 0
           have g1:=R4.fz 1
           have HR:=Lib.hid R4
           have HJ:=Lib.hid I4
           clear hb4 R4 I4 cs HI i0 i1))
       go_region_with (go_at_call 106
                       refine(ck _).mono ?_
                       rintro e w5 ⟨rfl,hb5'⟩
                       have hb5:Below w4.heap.size w4 w5:=afz (below_drewN w4 1) hb5'
                       clear hb5'
                       have b6:=Lib.hid (afz b5.out hb5)
                       have R5:=HR.out.below hb5
                       have I5:=HJ.out.below hb5
                       have k0:=I5.c0
                       have k1:=I5.c1
                       have t0:=R5.c0
                       have t1:=R5.c1
                       have u0:=R5.fz 0
                       have u1:=R5.fz 1
                       have HR5:=Lib.hid R5
                       clear hb5 R5 I5 ck)
       all_goals go_wp2
       all_goals
         have q:=(HR5.out.set0 t).set1 n
         have q0:=q.c0
         have q1:=q.c1
         rw[HV.out]
         first
           |exact bodyPost_ret (v:=splitV l (some (nm,t,n))) (by simp[results,Tryz.results83,go_sem,splitV,q0,q1]) rfl ⟨rfl,aIz (aIz b6.out (Nat.le_refl _)) (Nat.le_refl _)⟩
           |exact bodyPost_ret (v:=splitV l (some (nm,t,n))) (by simp[results,Tryz.results83,go_sem,splitV,q0,q1]) rfl ⟨rfl,afz (aIz (aIz b6.out (Nat.le_refl _)) (Nat.le_refl _)) (below_drewN _ 1)⟩
     · have HV:Hid (bfz l=none):=by show _=_;rw[HQ.out,if_neg h3]
       have hq':((bas l).toList==(bas z).toList)=false:=by rw[hq];exact decide_eq_false h3
       clear HQ h3 hq ck
       go_enter Tryz.func83,Tryz.ntmps83
       go_wp2_with (first
         |(go_at_call 119
           have b0:Below w.heap.size w (w.alloc (.cells #[.int .i64 0,.int .i64 0] 28)):=(a3z w _).out
           refine(cc _ (HL.out.below b0)).mono ?_
           rintro e w1 ⟨rfl,hb1⟩
           have b1:=Lib.hid (afz b0 hb1)
           have R1:=Lib.hid ((IdC.new w 0 0).below hb1)
           clear hb1 b0 cc)
         |(go_at_call 120
           refine(cr _ (HL.out.below b1.out)).mono ?_
           rintro e w2 ⟨rfl,hb2⟩
           have b2:=Lib.hid (afz b1.out hb2)
           have R2:=Lib.hid (R1.out.below hb2)
           have s2:=Lib.hid R2.out.lt
           clear hb2 cr)
         |(go_at_call 121;refine adz (cn _) ?_)
         |(go_at_call 99
           have b3:Below w2.heap.size w2 (w2.alloc (.cells #[.int .i64 t,.int .i64 n] 28)):=(a3z w2 _).out
           refine(cv _).mono ?_
           rintro e w3 ⟨rfl,hb3⟩
           have b4:=Lib.hid (afz (afz b2.out b3) hb3)
           have R3:=Lib.hid (R2.out.below (afz b3 hb3))
           have I3:=(IdC.new w2 t n).below hb3
           have i0:=I3.c0
           have i1:=I3.c1
           have HI:=Lib.hid I3
           clear hb3 b3 I3 cv)
         |(go_at_call 122
           refine(cs _ (HL.out.below b4.out)).mono ?_
           rintro e w4 ⟨rfl,hb4⟩
           have b5:=Lib.hid (afz b4.out hb4)
           have R4:=R3.out.below hb4
           have I4:=HI.out.below hb4
           have j0:=I4.c0
           have j1:=I4.c1
           have r0:=R4.c0
           have r1:=R4.c1
           have g0:=R4.fz 0
           have g1:=R4.fz 1
           have HR:=Lib.hid R4
           have HJ:=Lib.hid I4
           clear hb4 R4 I4 cs HI i0 i1))
       have q:=(HR.out.set0 0).set1 0
       have q0:=q.c0
       have q1:=q.c1
       rw[HV.out]
       exact bodyPost_ret (v:=splitV l none) (by simp[results,Tryz.results83,go_sem,splitV,q0,q1]) rfl ⟨rfl,aIz (aIz b5.out (Nat.le_refl _)) (Nat.le_refl _)⟩
   · have HV:Hid (bfz l=none):=by show _=_;rw[HP.out,if_neg (λe=>h2 e.2.1)]
     have h2':validB t n=false:=by simpa using h2
     rw[h1]at cn
     rw[h2']at cv
     clear HP h1 h2 h2' l1 hl ck
     go_enter Tryz.func83,Tryz.ntmps83
     go_wp2_with (first
       |(go_at_call 119
         have b0:Below w.heap.size w (w.alloc (.cells #[.int .i64 0,.int .i64 0] 28)):=(a3z w _).out
         refine(cc _ (HL.out.below b0)).mono ?_
         rintro e w1 ⟨rfl,hb1⟩
         have b1:=Lib.hid (afz b0 hb1)
         have R1:=Lib.hid ((IdC.new w 0 0).below hb1)
         clear hb1 b0 cc)
       |(go_at_call 120
         refine(cr _ (HL.out.below b1.out)).mono ?_
         rintro e w2 ⟨rfl,hb2⟩
         have b2:=Lib.hid (afz b1.out hb2)
         have R2:=Lib.hid (R1.out.below hb2)
         clear hb2 cr)
       |(go_at_call 121;refine adz (cn _) ?_)
       |(go_at_call 99
         have b3:Below w2.heap.size w2 (w2.alloc (.cells #[.int .i64 t,.int .i64 n] 28)):=(a3z w2 _).out
         refine(cv _).mono ?_
         rintro e w3 ⟨rfl,hb3⟩
         have b4:=Lib.hid (afz (afz b2.out b3) hb3)
         have R3:=R2.out.below (afz b3 hb3)
         have r0:=R3.c0
         have r1:=R3.c1
         have g0:=R3.fz 0
         have g1:=R3.fz 1
         have HR:=Lib.hid R3
         clear hb3 b3 R3 cv))
     have q:=(HR.out.set0 0).set1 0
     have q0:=q.c0
     have q1:=q.c1
     rw[HV.out]
     exact bodyPost_ret (v:=splitV l none) (by simp[results,Tryz.results83,go_sem,splitV,q0,q1]) rfl ⟨rfl,aIz (aIz b4.out (Nat.le_refl _)) (Nat.le_refl _)⟩
 · have HV:Hid (bfz l=none):=by show _=_;rw[HP.out,if_neg (λe=>h1 e.1)]
   generalize nameN nm=zz at cn h1
   have h1':(zz != 0)=true:=by simpa using h1
   clear HP l1 hl ck cv
   go_enter Tryz.func83,Tryz.ntmps83
   go_wp2_with (first
       |(go_at_call 119
         have b0:Below w.heap.size w (w.alloc (.cells #[.int .i64 0,.int .i64 0] 28)):=(a3z w _).out
         refine(cc _ (HL.out.below b0)).mono ?_
         rintro e w1 ⟨rfl,hb1⟩
         have b1:=Lib.hid (afz b0 hb1)
         have R1:=Lib.hid ((IdC.new w 0 0).below hb1)
         clear hb1 b0 cc)
       |(go_at_call 120
         refine(cr _ (HL.out.below b1.out)).mono ?_
         rintro e w2 ⟨rfl,hb2⟩
         have b2:=Lib.hid (afz b1.out hb2)
         have R2:=R1.out.below hb2
         have r0:=R2.c0
         have r1:=R2.c1
         have g0:=R2.fz 0
         have g1:=R2.fz 1
         have rl:=R2.lt
         have HR:=Lib.hid R2
         clear hb2 cr R2)
       |(go_at_call 121;refine adz (cn _) ?_))
   have q:=(((HR.out.set0 0).set1 0).below (a3z _ (.cells #[.int .i64 t,.int .i64 n] 28)).out)
   have q0:=q.c0
   have q1:=q.c1
   rw[HV.out]
   exact bodyPost_ret (v:=splitV l none) (by simp[results,Tryz.results83,go_sem,splitV,q0,q1]) rfl ⟨rfl,afz (aIz (aIz b2.out (Nat.le_refl _)) (Nat.le_refl _)) (a3z _ _).out⟩
end Go.Proofs.YthhakekbffembaaGreatDoor.Ck.Sh
