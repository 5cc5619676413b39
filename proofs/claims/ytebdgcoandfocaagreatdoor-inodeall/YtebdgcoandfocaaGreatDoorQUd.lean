/-
  Package inode: the hands of a write: find; a walk that plans a write.
-/
import Derived.Test.YtebdgcoandfocaaGreatDoorQIa
import Derived.Test.YtebdgcoandfocaaGreatDoorQUa
import Derived.Laws.Rows
import Derived.Laws.CopyOwn
import Derived.Laws.StructEq
import Derived.Test.YtebdgcoandfocaaGreatDoorKRg
import Derived.Test.YtebdgcoandfocaaGreatDoorQWapk

/-
  Package inode: blocks of numbers: tableOf and block.
-/
namespace Go.Proofs.YtebdgcoandfocaaGreatDoor
open Go.RowKit

/-- What a block of numbers says. -/
def tabOf (bs : By) : List (BitVec 32) := (List.range 64).map fun k => numOf bs k
def TabAt (w : World) (g : Nat) (ns : List (BitVec 32)) : Prop := w.heap[g]? = some (.cells (ns.map u32v).toArray 145 (0, 0))
theorem TabAt.num {w : World} {g : Nat} {ns : List (BitVec 32)} (h : TabAt w g ns) {i : Nat} {n : BitVec 32} (hn : ns[i]? = some n) : w.cell? ⟨g, i, none⟩ = some (u32v n) := by
  rw [cellOf h i, List.getElem?_toArray, List.getElem?_map, hn]; rfl
theorem TabAt.lt {w : World} {g : Nat} {ns : List (BitVec 32)} (h : TabAt w g ns) : g < w.heap.size := (Array.getElem?_eq_some_iff.1 h).1
theorem TabAt.set {w : World} {g : Nat} {ns : List (BitVec 32)} (h : TabAt w g ns) (i : Nat) (n : BitVec 32) : TabAt (w.setCell ⟨g, i, none⟩ (u32v n)) g (ns.set i n) := by
  unfold TabAt at *
  simp [World.setCell, Array.getElem?_modify, h, List.map_set]
theorem Tryz.infoTable : (Tryz.prog.info? 145).map (·.size) = some 64 := by kernel_rfl
theorem tab_done (bs : By) (ns : List (BitVec 32)) (hl : ns.length = 64) (h : ∀ k, k < 64 → ns[k]? = some (numOf bs k)) : ns = tabOf bs := by
  apply List.ext_getElem?
  intro k
  by_cases hk : k < 64
  · rw [h k hk]; simp [tabOf, hk]
  · rw [List.getElem?_eq_none (by omega), List.getElem?_eq_none (by simp [tabOf]; omega)]

/- The operations on whole tables. -/
def rowT (ns : List (BitVec 32)) : Array Value := (ns.map u32v).toArray
theorem rowT_size (ns : List (BitVec 32)) : (rowT ns).size = ns.length := by simp [rowT]
theorem rowT_one (ns : List (BitVec 32)) : (rowT ns).all (·.oneCell') = true := by
  rw [rowT, Array.all_eq_true']
  intro x hx
  obtain ⟨n, _, rfl⟩ := List.mem_map.1 (by simpa using hx)
  rfl
theorem wpList_loadT {w : World} {ops : Array Oper} {rest : List Oper} {o : Oper} {a : Act} {Q : Exit → Act → World → Prop} (hgd : o.guard = none) (x : Operand) (ho : o.op = .load 145 x)
    (g : Nat) (hx : a.eval x = .pointer (some ⟨g, 0, none⟩)) (ns : List (BitVec 32)) (hb : Hid (TabAt w g ns ∧ ns.length = 64))
    (h : wpList Tryz.prog ops Q rest (a.put o.dst (.agg (rowT ns))) w) : wpList Tryz.prog ops Q (o :: rest) a w :=
  wpList_load_row hgd 145 x ho g hx 145 (rowT ns) (0, 0) _ hb.out.1 Tryz.underlying145 rfl (by rw [rowT_size, hb.out.2]; exact Tryz.infoTable) h
theorem wpList_storeT {w : World} {ops : Array Oper} {rest : List Oper} {o : Oper} {a : Act} {Q : Exit → Act → World → Prop} (hgd : o.guard = none) (x y : Operand) (ho : o.op = .store 145 x y)
    (g : Nat) (hx : a.eval x = .pointer (some ⟨g, 0, none⟩)) (ns ms : List (BitVec 32)) (hy : a.eval y = .agg (rowT ms)) (hb : Hid (TabAt w g ns ∧ ns.length = 64)) (hm : ms.length = 64)
    (h : Hid (TabAt (w.setRow g (rowT ms)) g ms) → wpList Tryz.prog ops Q rest (a.put o.dst undef) (w.setRow g (rowT ms))) : wpList Tryz.prog ops Q (o :: rest) a w := by
  refine wpList_plain hgd fun K hK => ?_
  unfold Oper.wp execOp
  simp only [ho, hx, hy, Instr.storeAt, Instr.sureAddr, Sem.run_bind, Sem.run_pure, Result.andThen_ok, run_storeVar_row w g 145 145 (rowT ns) (rowT ms) hb.out.1 (by rw [rowT_size, hm]; exact Tryz.infoTable) (by rw [rowT_size, rowT_size, hb.out.2, hm]) (rowT_one ms)]
  exact hK _ _ (h (setRow_heap w g _ _ _ _ hb.out.1))

set_option maxRecDepth 8000 in
set_option maxHeartbeats 1000000 in
theorem tableOf_any (p : Option Addr) (bs : By) (cp : Nat) (w : World) (hb : Bytes w p bs) (hc : bs.length ≤ cp) (hl : bs.length = 512) :
    Calls Tryz.prog 108 #[.slice p 512 cp] w fun e w' => e = .returned (.agg ((tabOf bs).map u32v).toArray) ∧ Below w.heap.size w w' := by
  have cM : ∀ i : Nat, i < 64 → ∀ W, Below w.heap.size w W → Calls Tryz.prog 32 #[.slice p bs.length cp, .int .i64 ((i : Nat) : Int)] W fun e w' => e = .returned (u32v (numOf bs i)) ∧ w' = W := fun i hi W hW => number_bytes p bs cp i W (below_bytes hW hb) hc (by omega) (by omega)
  rw [hl] at cM
  obtain ⟨A, hA⟩ : ∃ A : Obj, A = .cells (Ino.zT.map u32v).toArray 145 := ⟨_, rfl⟩
  have H0 : Hid (TabAt ((w.alloc A).alloc A) (w.heap.size + 1) Ino.zT ∧ Below w.heap.size w ((w.alloc A).alloc A) ∧ ((w.alloc A).alloc A).heap[w.heap.size]? = some (.cells (Ino.zT.map u32v).toArray 145 (0, 0)) ∧ A = .cells (Ino.zT.map u32v).toArray 145) := by
    subst hA
    exact ⟨heap_alloc2_new w _ _, ((Below.refl _ w).alloc (Nat.le_refl _) _).alloc (by simp) _, heap_alloc2_old w _ _, rfl⟩
  clear hb hc hl hA
  go_enter Tryz.func108, Tryz.ntmps108
  go_wp2_with fail
  go_loopw [5] (fun ii wr => ∃ (i : Nat) (ns : List (BitVec 32)), i ≤ 64 ∧ ii = .int .i64 i ∧ Hid (TabAt wr (w.heap.size + 1) ns ∧ ns.length = 64 ∧ ∀ k, k < i → ns[k]? = some (numOf bs k)) ∧ Hid (Below w.heap.size w wr ∧ TabAt wr w.heap.size Ino.zT)) (fun ii _ => 64 - (intOf ii).toNat)
  case atStart =>
    have h0 := H0.out
    rw [h0.2.2.2] at h0
    exact ⟨0, Ino.zT, by omega, rfl, ⟨h0.1, rfl, fun k hk => absurd hk (by omega)⟩, h0.2.1, h0.2.2.1⟩
  case round =>
    clear H0
    obtain ⟨i, ns, hi, rfl, HB, HZ⟩ := hrel
    by_cases hlt : i < 64
    · have hlti : (i : Int) < 64 := by omega
      obtain ⟨x, hx⟩ : ∃ x, ns[i]? = some x := ⟨_, List.getElem?_eq_getElem (by have := HB.out.2.1; omega)⟩
      have d0 := HB.out.1.num hx
      have f0 : wr.frozen? ⟨w.heap.size + 1, i, none⟩ = false := frozenOf HB.out.1 _
      have cM' := cM i hlt wr HZ.out.1
      unfold u32v at cM' d0
      clear cM hx
      go_wp2_with (go_at_call 32; refine Calls_on cM' ?_; clear cM')
      have HS : Hid (TabAt (wr.setCell ⟨w.heap.size + 1, i, none⟩ (.int .u32 ((numOf bs i).toNat : Int))) (w.heap.size + 1) (ns.set i (numOf bs i)) ∧ Below w.heap.size w (wr.setCell ⟨w.heap.size + 1, i, none⟩ (.int .u32 ((numOf bs i).toNat : Int))) ∧ TabAt (wr.setCell ⟨w.heap.size + 1, i, none⟩ (.int .u32 ((numOf bs i).toNat : Int))) w.heap.size Ino.zT) := ⟨HB.out.1.set i (numOf bs i), HZ.out.1.setCell (by simp) _, (heap_setCell_other _ _ _ _ (by simp)).trans HZ.out.2⟩
      refine ⟨⟨i + 1, ns.set i (numOf bs i), by omega, by go_num, ⟨HS.out.1, by rw [List.length_set]; exact HB.out.2.1, fun k hk => ?_⟩, HS.out.2⟩, by simp [intOf]; omega⟩
      rw [List.getElem?_set]
      by_cases e : i = k
      · subst e
        rw [if_pos rfl, if_pos (by have := HB.out.2.1; omega)]
      · rw [if_neg e]
        exact HB.out.2.2 k (by omega)
    · obtain rfl : i = 64 := by omega
      have HN : Hid (ns = tabOf bs) := tab_done bs ns HB.out.2.1 HB.out.2.2
      have HL : Hid (TabAt wr (w.heap.size + 1) ns ∧ ns.length = 64) := ⟨HB.out.1, HB.out.2.1⟩
      have HL0 : Hid (TabAt wr w.heap.size Ino.zT ∧ Ino.zT.length = 64) := ⟨HZ.out.2, rfl⟩
      have HBz : Hid (Below w.heap.size w wr) := HZ.out.1
      clear HB HZ cM
      go_wp2_with (first | (refine wpList_loadT rfl _ rfl _ rfl ns HL ?_) | (refine wpList_storeT rfl _ _ rfl _ rfl Ino.zT ns rfl HL0 HL.out.2 ?_; intro HR))
      refine bodyPost_ret (v := .agg (rowT ns)) ?_ rfl ⟨by rw [HN.out]; rfl, below_setRow HBz.out (Nat.le_refl _) _⟩
      exact results_cell_row rfl _ _ w.heap.size 145 (rowT ns) (0, 0) _ rfl HR.out Tryz.underlying145 rfl (by rw [rowT_size, HL.out.2]; exact Tryz.infoTable)

theorem idx64 (cs : Array Value) (i : Nat) (v : Value) (hv : cs[i]? = some v) (l : Nat) (hi : i < l) (hu : Tryz.prog.underlying 145 = some (.array l 53)) (w : World) : (Instr.index 145 (.agg cs) (.int .i64 (i : Nat))).run Tryz.prog w = .ok v w := by
  simp [Instr.index, run_underlying hu, asIntOf, go_sem]
  rw [if_pos hi, hv]
  rfl
theorem idxT {ns : List (BitVec 32)} {k : Nat} {x : BitVec 32} (hl : ns.length = 64) (hx : ns[k]? = some x) (w : World) : (Instr.index 145 (.agg (rowT ns)) (.int .i64 (k : Nat))).run Tryz.prog w = .ok (u32v x) w := by
  have hk : k < 64 := by have := (List.getElem?_eq_some_iff.1 hx).1; omega
  have h2 : (rowT ns)[k]? = some (u32v x) := by rw [rowT, List.getElem?_toArray, List.getElem?_map, hx]; rfl
  exact idx64 _ _ _ h2 64 hk Tryz.underlying145 w

/-- A block of numbers of which i are laid. -/
def tabPart (ns : List (BitVec 32)) (i : Nat) : By := (ns.take i).flatMap le4 ++ List.replicate (512 - 4 * i) 0#8
theorem tabPart_length (ns : List (BitVec 32)) (hn : ns.length = 64) (i : Nat) (hi : i ≤ 64) : (tabPart ns i).length = 512 := by
  unfold tabPart
  rw [List.length_append, flat4_length, List.length_replicate, List.length_take]
  omega
theorem tabPart_full (ns : List (BitVec 32)) (hn : ns.length = 64) : tabPart ns 64 = Ino.tabB ns := by
  unfold tabPart Ino.tabB
  rw [List.take_of_length_le (by omega), List.flatMap_def]
theorem tabPart_step (ns : List (BitVec 32)) (i : Nat) (n : BitVec 32) (h : ns[i]? = some n) (hn : ns.length = 64) : splice ((tabPart ns i).map u8v) (4 * i) ((le4 n).map u8v) = (tabPart ns (i + 1)).map u8v := by
  have hi : i < ns.length := (List.getElem?_eq_some_iff.1 h).1
  have hl : ((ns.take i).flatMap le4).length = 4 * i := by rw [flat4_length, List.length_take]; omega
  have e1 : tabPart ns i = (ns.take i).flatMap le4 ++ (List.replicate 4 0#8 ++ List.replicate (512 - 4 * (i + 1)) 0#8) := by
    unfold tabPart
    rw [List.replicate_append_replicate, show 4 + (512 - 4 * (i + 1)) = 512 - 4 * i by omega]
  have e2 : tabPart ns (i + 1) = (ns.take i).flatMap le4 ++ (le4 n ++ List.replicate (512 - 4 * (i + 1)) 0#8) := by
    unfold tabPart
    rw [List.take_add_one, h]
    simp
  rw [e1, e2]
  unfold splice
  simp only [List.map_append, List.length_map]
  have hl' : (List.map u8v (List.flatMap le4 (List.take i ns))).length = 4 * i := by rw [List.length_map]; exact hl
  rw [List.take_left' hl', ← List.append_assoc, le4_length, List.append_assoc]
  congr 2
  rw [← List.append_assoc, List.drop_left' (by rw [List.length_append, hl']; simp)]

set_option maxRecDepth 8000 in
set_option maxHeartbeats 1000000 in
theorem tblock_any (ns : List (BitVec 32)) (hn : ns.length = 64) (w : World) :
    Calls Tryz.prog 89 #[.agg (rowT ns)] w fun e w' => e = .returned (.slice (some ⟨w.heap.size + 1, 0, none⟩) 512 512) ∧ w'.heap[w.heap.size + 1]? = some (.cells ((Ino.tabB ns).map u8v).toArray 5 (0, 0)) ∧ Below w.heap.size w w' := by
  obtain ⟨w0, hw0⟩ : ∃ w0, w0 = w.alloc (.cells (rowT ns) 145) := ⟨_, rfl⟩
  have hz0 : w0.heap.size = w.heap.size + 1 := by rw [hw0]; simp
  have hmk : (Instr.makeSlice 30 (.int .i64 512) (.int .i64 512)).run Tryz.prog w0 = .ok (.slice (some ⟨w0.heap.size, 0, none⟩) 512 512) (w0.alloc (.cells (List.replicate 512 (.int .u8 0)).toArray 5)) := imake w0 512 (by omega)
  obtain ⟨w1, hw1⟩ : ∃ w1, w1 = w0.alloc (.cells (List.replicate 512 (.int .u8 0)).toArray 5) := ⟨_, rfl⟩
  rw [← hw1, hz0, hw0] at hmk
  have H1 : Hid (w1.heap[w.heap.size + 1]? = some (.cells ((tabPart ns 0).map u8v).toArray 5 (0, 0)) ∧ Below w.heap.size w w1 ∧ TabAt w1 w.heap.size ns) := by
    rw [hw1]
    have hB0 : Below w.heap.size w w0 := by rw [hw0]; exact (Below.refl _ w).alloc (Nat.le_refl _) _
    refine ⟨?_, hB0.alloc (by omega) _, ?_⟩
    · rw [show (tabPart ns 0).map u8v = List.replicate 512 (Value.int .u8 0) by unfold tabPart; rw [List.take_zero, List.flatMap_nil, List.nil_append, List.map_replicate]; rfl, ← hz0]
      exact heap_alloc_new w0 _
    · refine (heap_alloc_old w0 _ (by omega)).trans ?_
      rw [hw0]; exact heap_alloc_new w _
  have HT : Hid (TabAt w1 w.heap.size ns ∧ ns.length = 64) := ⟨H1.out.2.2, hn⟩
  have hlp : ∀ i, i ≤ 64 → ((tabPart ns i).map u8v).length = 512 := fun i hi => by rw [List.length_map]; exact tabPart_length ns hn i hi
  clear hw1 hw0 hz0
  go_enter Tryz.func89, Tryz.ntmps89
  go_wp2_with (refine wpList_loadT rfl _ rfl _ rfl ns HT ?_)
  go_loopw [8] (fun ii wr => ∃ i : Nat, i ≤ 64 ∧ ii = .int .i64 i ∧ Hid (wr.heap[w.heap.size + 1]? = some (.cells ((tabPart ns i).map u8v).toArray 5 (0, 0)) ∧ Below w.heap.size w wr)) (fun ii _ => 64 - (intOf ii).toNat)
  case atStart => exact ⟨0, by omega, rfl, H1.out.1, H1.out.2.1⟩
  case round =>
    clear H1
    obtain ⟨i, hi, rfl, HB⟩ := hrel
    by_cases hlt : i < 64
    · have hlti : (i : Int) < 64 := by omega
      obtain ⟨x, hx⟩ : ∃ x, ns[i]? = some x := ⟨_, List.getElem?_eq_getElem (by omega)⟩
      have hix := fun W => idxT hn hx W
      have cS := setNumber_any x (w.heap.size + 1) 512 512 i ((tabPart ns i).map u8v) wr HB.out.1 (by rw [hlp _ (by omega)]; omega) (hlp _ (by omega)) (by omega)
      have HX : Hid (ns[i]? = some x) := hx
      unfold u32v at cS hix
      clear hx hlp
      go_wp2_with (go_at_call 33; refine cS.mono ?_; rintro e w3 ⟨rfl, hL3, hB3, hz3⟩; clear cS; have H3 : Hid (w3.heap[w.heap.size + 1]? = some (.cells ((tabPart ns (i + 1)).map u8v).toArray 5 (0, 0)) ∧ Below w.heap.size w w3) := ⟨by rw [tabPart_step ns i x HX.out hn] at hL3; exact hL3, HB.out.2.trans (hB3.mono (Nat.le_succ _))⟩; clear hL3 hB3 hz3)
      exact ⟨⟨i + 1, by omega, by go_num, H3.out⟩, by simp [intOf]; omega⟩
    · obtain rfl : i = 64 := by omega
      go_wp2
      go_ret
      refine ⟨rfl, ?_, HB.out.2⟩
      have := HB.out.1
      rw [tabPart_full ns hn] at this
      exact this

end Go.Proofs.YtebdgcoandfocaaGreatDoor

/-
  Package inode: a walk's level with any visits, over numbers that lie in a row of any kind.
-/
namespace Go.Proofs.YtebdgcoandfocaaGreatDoor
open Go.RowKit

theorem tabOf_tabB (ns : List (BitVec 32)) (hn : ns.length = 64) : tabOf (Ino.tabB ns) = ns := by
  refine (tab_done _ ns hn fun k hk => ?_).symm
  obtain ⟨n, hx⟩ : ∃ n, ns[k]? = some n := ⟨_, List.getElem?_eq_getElem (by omega)⟩
  rw [hx]
  refine congrArg some ?_
  have hl : ((ns.take k).flatMap le4).length = 4 * k := by rw [flat4_length, List.length_take]; omega
  have e : Ino.tabB ns = (ns.take k).flatMap le4 ++ (le4 n ++ ((ns.drop (k + 1)).flatMap le4 ++ List.replicate 256 0#8)) := by
    unfold Ino.tabB
    rw [← List.flatMap_def]
    have h1 : ns = ns.take k ++ n :: ns.drop (k + 1) := by
      obtain ⟨h2, h3⟩ := List.getElem?_eq_some_iff.1 hx
      rw [← h3, List.getElem_cons_drop, List.take_append_drop]
    conv => lhs; rw [h1]
    rw [List.flatMap_append, List.flatMap_cons, List.append_assoc, List.append_assoc]
  unfold numOf
  rw [e, List.drop_left' hl, List.take_left' (le4_length n), leN_le4, BitVec.ofNat_toNat, BitVec.setWidth_eq]

def RowU (w : World) (g : Nat) (ns : List (BitVec 32)) (tt : TypeId) : Prop := w.heap[g]? = some (.cells (ns.map u32v).toArray tt (0, 0))
theorem RowU.num {w : World} {g : Nat} {ns : List (BitVec 32)} {tt : TypeId} (h : RowU w g ns tt) {i : Nat} {n : BitVec 32} (hn : ns[i]? = some n) : w.cell? ⟨g, i, none⟩ = some (u32v n) := by
  rw [cellOf h i, List.getElem?_toArray, List.getElem?_map, hn]; rfl

/-- What a level asks of each visit: J is what is known ahead of place i, E behind an error. -/
structure Steps (k g o len first f t L : Nat) (ch rec : Value) (holes : Bool) (V : Nat) (tt : TypeId) (J : Nat → List (BitVec 32) → World → Prop) (E : Int → World → Prop) : Prop where
  walk : ∀ i ns w, J i ns w → WalkAt w k ch f t holes (.func (.func V) #[rec] #[])
  row : ∀ i ns w, J i ns w → RowU w g ns tt ∧ ns.length = L
  skip : ∀ i ns w, i < len → (first + i + 1 ≤ f ∨ t ≤ first + i) → J i ns w → J (i + 1) ns w
  step : ∀ i ns w n, i < len → f ≤ first + i → first + i < t → ns[o + i]? = some n → J i ns w → Calls Tryz.prog V #[rec, .int .i64 ((first + i : Nat) : Int), u32v n] w fun e w' => ∃ (n' : BitVec 32) (er : Int), e = .returned (.tuple #[u32v n', .int .i64 er]) ∧ RowU w' g ns tt ∧ ((er = 0 ∧ J (i + 1) (ns.set (o + i) n') (w'.setCell ⟨g, o + i, none⟩ (u32v n'))) ∨ (er ≠ 0 ∧ E er (w'.setCell ⟨g, o + i, none⟩ (u32v n'))))

set_option maxRecDepth 8000 in
set_option maxHeartbeats 1000000 in
theorem level_visit {k g o len first f t L cp : Nat} {ch rec : Value} {holes : Bool} {V : Nat} {tt : TypeId} {J : Nat → List (BitVec 32) → World → Prop} {E : Int → World → Prop} (hS : Steps k g o len first f t L ch rec holes V tt J E)
    (hE : ∀ args w, (callFunc V args).run Tryz.prog w = .ok (.enter V args) w) (ho : o + len ≤ L) (hl : len ≤ 64) (hf : first ≤ 100000) (w : World) (ns : List (BitVec 32)) (h : J 0 ns w) :
    Calls Tryz.prog 46 #[.pointer (some ⟨k, 0, none⟩), .slice (some ⟨g, o, none⟩) len cp, .int .i64 (first : Nat), .int .i64 1] w fun e w' => (e = .returned (.int .i64 0) ∧ ∃ ns', J len ns' w') ∨ (∃ er : Int, er ≠ 0 ∧ e = .returned (.int .i64 er) ∧ E er w') := by
  have HS : Hid (Steps k g o len first f t L ch rec holes V tt J E) := hS
  have H0 : Hid (J 0 ns w) := h
  clear hS h
  go_enter Tryz.func46, Tryz.ntmps46
  go_wp2_with fail
  go_loopw [15] (fun ii wr => ∃ i : Nat, i ≤ len ∧ ii = .int .i64 i ∧ Hid (∃ ns, J i ns wr)) (fun ii _ => len - (intOf ii).toNat)
  case atStart => exact ⟨0, Nat.zero_le _, rfl, ns, H0.out⟩
  case round =>
    clear H0
    obtain ⟨i, hi, rfl, HJ⟩ := hrel
    by_cases hlt : i < len
    · have hlti : (i : Int) < len := by omega
      obtain ⟨ms, hJ⟩ := HJ.out
      have hk := HS.out.walk i ms wr hJ
      obtain ⟨hr, hL⟩ := HS.out.row i ms wr hJ
      have k1 : wr.cell? ⟨k, 1, none⟩ = some (.int .i64 (f : Nat)) := by rw [cellOf hk 1]; rfl
      have k2 : wr.cell? ⟨k, 2, none⟩ = some (.int .i64 (t : Nat)) := by rw [cellOf hk 2]; rfl
      have k4 : wr.cell? ⟨k, 4, none⟩ = some (.func (.func V) #[rec] #[]) := by rw [cellOf hk 4]; rfl
      obtain ⟨n, hn⟩ : ∃ n, ms[o + i]? = some n := ⟨_, List.getElem?_eq_getElem (by omega)⟩
      have d0 := hr.num hn
      unfold u32v at d0
      clear hk hr HJ
      by_cases h1 : first + i + 1 ≤ f
      · have h1' : (first : Int) + (i : Int) + 1 ≤ (f : Int) := by omega
        have HN : Hid (∃ ns, J (i + 1) ns wr) := ⟨ms, HS.out.skip i ms wr hlt (.inl h1) hJ⟩
        clear hJ hn
        go_wp2
        exact ⟨⟨i + 1, by omega, by go_num, HN.out⟩, by simp [intOf]; omega⟩
      · have h1' : ¬ (first : Int) + (i : Int) + 1 ≤ (f : Int) := by omega
        by_cases h2 : t ≤ first + i
        · have h2' : (t : Int) ≤ (first : Int) + (i : Int) := by omega
          have HN : Hid (∃ ns, J (i + 1) ns wr) := ⟨ms, HS.out.skip i ms wr hlt (.inr h2) hJ⟩
          clear hJ hn
          go_wp2
          exact ⟨⟨i + 1, by omega, by go_num, HN.out⟩, by simp [intOf]; omega⟩
        · have h2' : ¬ (t : Int) ≤ (first : Int) + (i : Int) := by omega
          have hV := HS.out.step i ms wr n hlt (by omega) (by omega) hn hJ
          have e1 : ((first + i : Nat) : Int) = (first : Int) + (i : Int) := by omega
          rw [e1] at hV
          have HM : Hid (ms.length = L) := hL
          unfold u32v at hV
          clear hJ hn hL
          go_wp2_with fail
          refine hV.mono ?_
          rintro e w1 ⟨n', er, rfl, hr1, hres⟩
          obtain ⟨x, hx⟩ : ∃ x, ms[o + i]? = some x := ⟨_, List.getElem?_eq_getElem (by have := HM.out; omega)⟩
          have d1 := hr1.num hx
          have f1 : w1.frozen? ⟨g, o + i, none⟩ = false := frozenOf hr1 _
          have HR : Hid ((er = 0 ∧ J (i + 1) (ms.set (o + i) n') (w1.setCell ⟨g, o + i, none⟩ (.int .u32 (n'.toNat : Int)))) ∨ (er ≠ 0 ∧ E er (w1.setCell ⟨g, o + i, none⟩ (.int .u32 (n'.toNat : Int))))) := hres
          unfold u32v at d1
          clear hV hres hr1 hx d0 k1 k2 k4
          by_cases her : er = 0
          · subst her
            have H1 : Hid (J (i + 1) (ms.set (o + i) n') (w1.setCell ⟨g, o + i, none⟩ (.int .u32 (n'.toNat : Int)))) := by
              rcases HR.out with ⟨_, h⟩ | ⟨h, _⟩
              · exact h
              · exact absurd rfl h
            clear HR
            go_wp2
            go_roundw
            case rel => exact ⟨i + 1, by omega, by go_num, _, H1.out⟩
            case measure => simp [intOf]; omega
          · have H1 : Hid (E er (w1.setCell ⟨g, o + i, none⟩ (.int .u32 (n'.toNat : Int)))) := by
              rcases HR.out with ⟨h, _⟩ | ⟨_, h⟩
              · exact absurd h her
              · exact h
            have q1 : (er != 0) = true := by simp [her]
            have q2 : (er == 0) = false := by simp [her]
            clear HR
            go_wp2
            go_ret
            exact .inr ⟨er, her, rfl, H1.out⟩
    · obtain rfl : i = len := by omega
      go_wp2
      go_ret
      exact .inl ⟨rfl, HJ.out⟩

end Go.Proofs.YtebdgcoandfocaaGreatDoor

/-
  Package inode: a walk's level over numbers of blocks of numbers.
-/
namespace Go.Proofs.YtebdgcoandfocaaGreatDoor
open Go.RowKit

/-- What a level asks of each block of numbers: J is what is known ahead of place i, E behind an error. -/
structure StepsT (k g o len first sp f t L : Nat) (ch vis : Value) (holes : Bool) (tt : TypeId) (J : Nat → List (BitVec 32) → World → Prop) (E : Int → World → Prop) : Prop where
  walk : ∀ i ns w, J i ns w → WalkAt w k ch f t holes vis
  row : ∀ i ns w, J i ns w → RowU w g ns tt ∧ ns.length = L
  skip : ∀ i ns w, i < len → (first + i * sp + sp ≤ f ∨ t ≤ first + i * sp) → J i ns w → J (i + 1) ns w
  step : ∀ i ns w n, i < len → f < first + i * sp + sp → first + i * sp < t → ns[o + i]? = some n → J i ns w → Calls Tryz.prog 67 #[.pointer (some ⟨k, 0, none⟩), .int .i64 ((first + i * sp : Nat) : Int), u32v n, .int .i64 ((sp / 64 : Nat) : Int)] w fun e w' => ∃ (n' : BitVec 32) (er : Int), e = .returned (.tuple #[u32v n', .int .i64 er]) ∧ RowU w' g ns tt ∧ ((er = 0 ∧ J (i + 1) (ns.set (o + i) n') (w'.setCell ⟨g, o + i, none⟩ (u32v n'))) ∨ (er ≠ 0 ∧ E er (w'.setCell ⟨g, o + i, none⟩ (u32v n'))))

set_option maxRecDepth 8000 in
set_option maxHeartbeats 1000000 in
theorem level_through {k g o len first sp f t L cp : Nat} {ch vis : Value} {holes : Bool} {tt : TypeId} {J : Nat → List (BitVec 32) → World → Prop} {E : Int → World → Prop} (hS : StepsT k g o len first sp f t L ch vis holes tt J E)
    (ho : o + len ≤ L) (hl : len ≤ 64) (hf : first ≤ 100000) (hs1 : 1 < sp) (hs2 : sp ≤ 4096) (w : World) (ns : List (BitVec 32)) (h : J 0 ns w) :
    Calls Tryz.prog 46 #[.pointer (some ⟨k, 0, none⟩), .slice (some ⟨g, o, none⟩) len cp, .int .i64 (first : Nat), .int .i64 (sp : Nat)] w fun e w' => (e = .returned (.int .i64 0) ∧ ∃ ns', J len ns' w') ∨ (∃ er : Int, er ≠ 0 ∧ e = .returned (.int .i64 er) ∧ E er w') := by
  have HS : Hid (StepsT k g o len first sp f t L ch vis holes tt J E) := hS
  have H0 : Hid (J 0 ns w) := h
  have hsp : ((sp : Int) == 1) = false := by simp; omega
  obtain ⟨u, hu⟩ : ∃ u, sp / 64 = u := ⟨_, rfl⟩
  have hsq : (sp : Int) / 64 = (u : Nat) := by omega
  have hsr : Int.tdiv (sp : Int) 64 = (u : Nat) := by rw [Int.tdiv_eq_ediv_of_nonneg (by omega)]; exact hsq
  have HU : Hid (sp / 64 = u) := hu
  clear hu
  clear hS h
  go_enter Tryz.func46, Tryz.ntmps46
  go_wp2_with fail
  go_loopw [15] (fun ii wr => ∃ i : Nat, i ≤ len ∧ ii = .int .i64 i ∧ Hid (∃ ns, J i ns wr)) (fun ii _ => len - (intOf ii).toNat)
  case atStart => exact ⟨0, Nat.zero_le _, rfl, ns, H0.out⟩
  case round =>
    clear H0
    obtain ⟨i, hi, rfl, HJ⟩ := hrel
    by_cases hlt : i < len
    · have hlti : (i : Int) < len := by omega
      obtain ⟨ms, hJ⟩ := HJ.out
      have hk := HS.out.walk i ms wr hJ
      obtain ⟨hr, hL⟩ := HS.out.row i ms wr hJ
      have k1 : wr.cell? ⟨k, 1, none⟩ = some (.int .i64 (f : Nat)) := by rw [cellOf hk 1]; rfl
      have k2 : wr.cell? ⟨k, 2, none⟩ = some (.int .i64 (t : Nat)) := by rw [cellOf hk 2]; rfl
      obtain ⟨q, hq⟩ : ∃ q, i * sp = q := ⟨_, rfl⟩
      have hq2 : q ≤ 64 * 4096 := by rw [← hq]; exact Nat.mul_le_mul (by omega) hs2
      have e0 : (i : Int) * (sp : Int) = (q : Nat) := by rw [← hq]; simp
      obtain ⟨n, hn⟩ : ∃ n, ms[o + i]? = some n := ⟨_, List.getElem?_eq_getElem (by omega)⟩
      have d0 := hr.num hn
      unfold u32v at d0
      clear hk hr HJ
      by_cases h1 : first + q + sp ≤ f
      · have h1' : (first : Int) + (q : Int) + (sp : Int) ≤ (f : Int) := by omega
        have HN : Hid (∃ ns, J (i + 1) ns wr) := ⟨ms, HS.out.skip i ms wr hlt (.inl (by rw [hq]; exact h1)) hJ⟩
        clear hJ hn hq
        go_wp2_with (simp only [e0])
        exact ⟨⟨i + 1, by omega, by go_num, HN.out⟩, by simp [intOf]; omega⟩
      · have h1' : ¬ (first : Int) + (q : Int) + (sp : Int) ≤ (f : Int) := by omega
        by_cases h2 : t ≤ first + q
        · have h2' : (t : Int) ≤ (first : Int) + (q : Int) := by omega
          have HN : Hid (∃ ns, J (i + 1) ns wr) := ⟨ms, HS.out.skip i ms wr hlt (.inr (by rw [hq]; exact h2)) hJ⟩
          clear hJ hn hq
          go_wp2_with (simp only [e0])
          exact ⟨⟨i + 1, by omega, by go_num, HN.out⟩, by simp [intOf]; omega⟩
        · have h2' : ¬ (t : Int) ≤ (first : Int) + (q : Int) := by omega
          have hV := HS.out.step i ms wr n hlt (by omega) (by omega) hn hJ
          rw [hq, HU.out] at hV
          have e1 : ((first + q : Nat) : Int) = (first : Int) + (q : Int) := by omega
          rw [e1] at hV
          have HM : Hid (ms.length = L) := hL
          unfold u32v at hV
          clear hJ hn hL hq
          go_wp2_with (first | (go_at_call 67; refine hV.mono ?_; rintro e w1 ⟨n', er, rfl, hr1, hres⟩; refine Stop.out ?_) | rw [e0])
          refine Stop.mk ?_
          obtain ⟨x, hx⟩ : ∃ x, ms[o + i]? = some x := ⟨_, List.getElem?_eq_getElem (by have := HM.out; omega)⟩
          have d1 := hr1.num hx
          have f1 : w1.frozen? ⟨g, o + i, none⟩ = false := frozenOf hr1 _
          have HR : Hid ((er = 0 ∧ J (i + 1) (ms.set (o + i) n') (w1.setCell ⟨g, o + i, none⟩ (.int .u32 (n'.toNat : Int)))) ∨ (er ≠ 0 ∧ E er (w1.setCell ⟨g, o + i, none⟩ (.int .u32 (n'.toNat : Int))))) := hres
          unfold u32v at d1
          clear hV hres hr1 hx d0 k1 k2
          by_cases her : er = 0
          · subst her
            have H1 : Hid (J (i + 1) (ms.set (o + i) n') (w1.setCell ⟨g, o + i, none⟩ (.int .u32 (n'.toNat : Int)))) := by
              rcases HR.out with ⟨_, h⟩ | ⟨h, _⟩
              · exact h
              · exact absurd rfl h
            clear HR
            go_wp2
            go_roundw
            case rel => exact ⟨i + 1, by omega, by go_num, _, H1.out⟩
            case measure => simp [intOf]; omega
          · have H1 : Hid (E er (w1.setCell ⟨g, o + i, none⟩ (.int .u32 (n'.toNat : Int)))) := by
              rcases HR.out with ⟨h, _⟩ | ⟨_, h⟩
              · exact absurd h her
              · exact h
            have q1 : (er != 0) = true := by simp [her]
            have q2 : (er == 0) = false := by simp [her]
            clear HR
            go_wp2
            go_ret
            exact .inr ⟨er, her, rfl, H1.out⟩
    · obtain rfl : i = len := by omega
      go_wp2
      go_ret
      exact .inl ⟨rfl, HJ.out⟩

end Go.Proofs.YtebdgcoandfocaaGreatDoor

/-
  Whole tables compared.
-/
namespace Go.Proofs.YtebdgcoandfocaaGreatDoor
open Go.RowKit

theorem partT (ns : List (BitVec 32)) (k : Nat) (x : BitVec 32) (hx : ns[k]? = some x) (w : World) : (part 53 (rowT ns) k).run Tryz.prog w = .ok (.int .u32 (x.toNat : Int)) w := by
  have h2 : (rowT ns)[k]? = some (u32v x) := by rw [rowT, List.getElem?_toArray, List.getElem?_map, hx]; rfl
  simp [part, go_sem, h2, u32v]

theorem eqLoop (xs ys : List (BitVec 32)) (d : Nat) (hx : xs.length = 64) (hy : ys.length = 64) (w : World) : ∀ (n s : Nat), s + n = 64 →
    (forIn (List.range' s n) ((none, ()) : Option Bool × Unit) (fun i _ => do
      let a ← part 53 (rowT xs) i
      let b ← part 53 (rowT ys) i
      let r ← Op.equalIn (d + 1) 53 a b
      if (!r) = true then pure (ForInStep.done (some false, ())) else pure (ForInStep.yield (none, ()))) : Sem (Option Bool × Unit)).run Tryz.prog w = .ok (if xs.drop s = ys.drop s then none else some false, ()) w
  | 0, s, h => by
    rw [List.range'_zero, List.forIn_nil, Sem.run_pure, List.drop_of_length_le (by omega), List.drop_of_length_le (by omega), if_pos rfl]
  | n + 1, s, h => by
    obtain ⟨x, h1⟩ : ∃ x, xs[s]? = some x := ⟨_, List.getElem?_eq_getElem (by omega)⟩
    obtain ⟨y, h2⟩ : ∃ y, ys[s]? = some y := ⟨_, List.getElem?_eq_getElem (by omega)⟩
    have e1 : xs.drop s = x :: xs.drop (s + 1) := by
      obtain ⟨h3, rfl⟩ := List.getElem?_eq_some_iff.1 h1
      exact List.drop_eq_getElem_cons h3
    have e2 : ys.drop s = y :: ys.drop (s + 1) := by
      obtain ⟨h3, rfl⟩ := List.getElem?_eq_some_iff.1 h2
      exact List.drop_eq_getElem_cons h3
    rw [List.range'_succ, List.forIn_cons]
    simp only [Sem.run_bind, partT xs s x h1, partT ys s y h2, Result.andThen_ok, run_equalIn_int w d 53 .u32 .u32 _ _ Tryz.underlying53]
    rw [e1, e2]
    by_cases he : x = y
    · subst he
      simp only [beq_self_eq_true, Bool.not_true, Bool.false_eq_true, if_false, Sem.run_pure, Result.andThen_ok, List.cons.injEq, true_and]
      exact eqLoop xs ys d hx hy w n (s + 1) (by omega)
    · have hb : ((x.toNat : Int) == (y.toNat : Int)) = false := by
        rw [beq_eq_false_iff_ne]
        intro h3
        exact he (BitVec.eq_of_toNat_eq (by omega))
      simp only [hb, Bool.not_false, if_true, Sem.run_pure, Result.andThen_ok, List.cons.injEq, he, false_and, if_false]

theorem eqT (xs ys : List (BitVec 32)) (d : Nat) (hx : xs.length = 64) (hy : ys.length = 64) (w : World) : (Op.equalIn (d + 2) 145 (.agg (rowT xs)) (.agg (rowT ys))).run Tryz.prog w = .ok (decide (xs = ys)) w := by
  have hz : ∀ w, (sizeOf 53).run Tryz.prog w = .ok 1 w := fun w => by kernel_rfl
  have := eqLoop xs ys d hx hy w 64 0 rfl
  simp only [List.drop_zero] at this
  rw [Op.equalIn]
  simp only [Sem.run_bind, run_underlying Tryz.underlying145, Result.andThen_ok, hz, Nat.mul_one]
  rw [Std.Legacy.Range.forIn_eq_forIn_range', show (Std.Legacy.Range.size [:64]) = 64 from rfl]
  show ((Sem.run Tryz.prog (forIn (List.range' 0 64) _ _) w).andThen _) = _
  rw [this, Result.andThen_ok]
  by_cases he : xs = ys
  · rw [if_pos he, decide_eq_true he]; rfl
  · rw [if_neg he, decide_eq_false he]; rfl

end Go.Proofs.YtebdgcoandfocaaGreatDoor

/-
  Package inode: operations on whole tables for a walk; through of a hole that is not filled.
-/
namespace Go.Proofs.YtebdgcoandfocaaGreatDoor
open Go.RowKit

theorem hide {p : Prop} (h : p) : Hid p := h
theorem zeroT (w : World) : (zeroValue 145).run Tryz.prog w = .ok (.agg (rowT Ino.zT)) w := by
  rw [Tryz.zeroValue145 w]
  rfl
theorem wpList_allocT {w : World} {ops : Array Oper} {rest : List Oper} {o : Oper} {a : Act} {Q : Exit → Act → World → Prop} (hgd : o.guard = none) (ho : o.op = .alloc 145) (g : Nat) (hg : Hid (w.heap.size = g))
    (h : ∀ w', Hid (TabAt w' g Ino.zT ∧ Below g w w' ∧ w'.heap.size = g + 1) → wpList Tryz.prog ops Q rest (a.put o.dst (.pointer (some ⟨g, 0, none⟩))) w') : wpList Tryz.prog ops Q (o :: rest) a w := by
  obtain rfl := hg.out
  refine wpList_plain hgd fun K hK => ?_
  unfold Oper.wp execOp
  simp only [ho, Sem.run_bind, Instr.alloc, newVar, newRow, zeroT, run_newObj_alloc, Sem.run_pure, Result.andThen_ok, Value.cells]
  exact hK _ _ (h _ ⟨heap_alloc_new w _, (Below.refl _ w).alloc (Nat.le_refl _) _, by simp⟩)
theorem wpList_setT {w : World} {ops : Array Oper} {rest : List Oper} {o : Oper} {a : Act} {Q : Exit → Act → World → Prop} (hgd : o.guard = none) (x y : Operand) (ho : o.op = .store 145 x y)
    (g : Nat) (hx : a.eval x = .pointer (some ⟨g, 0, none⟩)) (ns ms : List (BitVec 32)) (hy : a.eval y = .agg (rowT ms)) (hb : Hid (TabAt w g ns ∧ ns.length = 64)) (hm : ms.length = 64)
    (h : ∀ w', Hid (TabAt w' g ms ∧ Below g w w' ∧ w'.heap.size = w.heap.size) → wpList Tryz.prog ops Q rest (a.put o.dst undef) w') : wpList Tryz.prog ops Q (o :: rest) a w :=
  wpList_storeT hgd x y ho g hx ns ms hy hb hm fun hT => h _ ⟨hT.out, below_setRow (Below.refl _ w) (Nat.le_refl _) _, by simp⟩
theorem wpList_eqlT {w : World} {ops : Array Oper} {rest : List Oper} {o : Oper} {a : Act} {Q : Exit → Act → World → Prop} (hgd : o.guard = none) (x y : Operand) (ho : o.op = .binOp .eql 145 x y 145) (xs ys : List (BitVec 32)) (hx : a.eval x = .agg (rowT xs)) (hy : a.eval y = .agg (rowT ys)) (h1 : xs.length = 64) (h2 : ys.length = 64)
    (h : wpList Tryz.prog ops Q rest (a.put o.dst (.bool (decide (xs = ys)))) w) : wpList Tryz.prog ops Q (o :: rest) a w := by
  refine wpList_plain hgd fun K hK => ?_
  have hq : ∀ W, (binOp .eql 145 (.agg (rowT xs)) (.agg (rowT ys))).run Tryz.prog W = .ok (.bool (decide (xs = ys))) W := fun W => by
    rw [run_eql_struct, eqT xs ys 9998 h1 h2]; rfl
  have hm : Tryz.prog.eqGuardType Tryz.prog.depth 145 = false := by kernel_rfl
  unfold Oper.wp execOp
  simp only [ho, hx, hy, Sem.run_bind, run_eqGuard_agg _ _ _ _ _ _ _ hm, hq, Sem.run_pure, Result.andThen_ok]
  exact hK _ _ h
theorem wpList_neqT {w : World} {ops : Array Oper} {rest : List Oper} {o : Oper} {a : Act} {Q : Exit → Act → World → Prop} (hgd : o.guard = none) (x y : Operand) (ho : o.op = .binOp .neq 145 x y 145) (xs ys : List (BitVec 32)) (hx : a.eval x = .agg (rowT xs)) (hy : a.eval y = .agg (rowT ys)) (h1 : xs.length = 64) (h2 : ys.length = 64)
    (h : wpList Tryz.prog ops Q rest (a.put o.dst (.bool (!decide (xs = ys)))) w) : wpList Tryz.prog ops Q (o :: rest) a w := by
  refine wpList_plain hgd fun K hK => ?_
  have hq : ∀ W, (binOp .neq 145 (.agg (rowT xs)) (.agg (rowT ys))).run Tryz.prog W = .ok (.bool (!decide (xs = ys))) W := fun W => by
    rw [run_neq_struct, eqT xs ys 9998 h1 h2]; rfl
  have hm : Tryz.prog.eqGuardType Tryz.prog.depth 145 = false := by kernel_rfl
  unfold Oper.wp execOp
  simp only [ho, hx, hy, Sem.run_bind, run_eqGuard_agg _ _ _ _ _ _ _ hm, hq, Sem.run_pure, Result.andThen_ok]
  exact hK _ _ h
theorem sliceT (g : Nat) (w : World) : (Instr.sliceAt 145 (.pointer (some ⟨g, 0, none⟩)) none none none).run Tryz.prog w = .ok (.slice (some ⟨g, 0, none⟩) 64 64) w := by
  simp [Instr.sliceAt, run_underlying Tryz.underlying145, Instr.sureAddr, Instr.sliceBounds, Addr.add_lit]

set_option maxRecDepth 8000 in
set_option maxHeartbeats 1000000 in
theorem through_hole (k place q f t : Nat) (ch vis : Value) (w : World) (hk : WalkAt w k ch f t false vis) : Calls Tryz.prog 67 #[.pointer (some ⟨k, 0, none⟩), .int .i64 (place : Nat), u32v 0, .int .i64 (q : Nat)] w fun e w' => e = .returned (.tuple #[u32v 0, .int .i64 0]) ∧ Below w.heap.size w w' := by
  have k3 : w.cell? ⟨k, 3, none⟩ = some (.bool false) := by rw [cellOf hk 3]; rfl
  clear hk
  go_enter Tryz.func67, Tryz.ntmps67
  go_wp2
  go_ret2
  exact ⟨rfl, Below.refl _ _⟩

end Go.Proofs.YtebdgcoandfocaaGreatDoor

/-
  Package inode: through, over what open, level, give and put do.
-/
namespace Go.Proofs.YtebdgcoandfocaaGreatDoor
open Go.RowKit

/-- A region of a body, by its number. -/
def regI (n : Nat) : Code → Option (Array Oper)
  | .region k ops _ => if k = n then some ops else none
  | .seq a b => match regI n a with | some x => some x | none => regI n b
  | .cond _ a b => match regI n a with | some x => some x | none => regI n b
  | .block _ b => regI n b
  | .loop b => regI n b
  | .scope b => regI n b
  | .rangeFunc _ _ a b => match regI n a with | some x => some x | none => regI n b
  | _ => none

def thrL (k c : Nat) (n1 : BitVec 32) (now : List (BitVec 32)) (g : Nat) : List (Option Tmp × Value) := [(some 54, .pointer (some ⟨k, 0, none⟩)), (some 55, .pointer (some ⟨k, 0, none⟩)), (some 56, .pointer (some ⟨k, 0, none⟩)), (some 57, .pointer (some ⟨c, 0, none⟩)), (some 58, .int .u32 (n1.toNat : Int)), (some 59, .agg (rowT now)), (some 60, .slice (some ⟨g, 0, none⟩) 512 512), (some 61, .tuple #[])]

set_option maxRecDepth 8000 in
set_option maxHeartbeats 4000000 in
theorem through_put {Q : Exit → Act → World → Prop} {base : Array Value} {dd : List Deferred} {ops : Array Oper} (hops : Tryz.f67.body.bind (regI 14) = some ops) (hsz : base.size = 63) (k c b1 : Nat) (n1 : BitVec 32) (now : List (BitVec 32)) (w6 : World) (D : World → Prop)
    (b0 : base.getD 0 undef = .pointer (some ⟨k, 0, none⟩)) (b2 : base.getD 2 undef = .int .u32 (n1.toNat : Int)) (b12 : base.getD 12 undef = .pointer (some ⟨b1, 0, none⟩))
    (k0 : w6.cell? ⟨k, 0, none⟩ = some (.pointer (some ⟨c, 0, none⟩))) (hkl : k < w6.heap.size) (hT : TabAt w6 b1 now) (hl : now.length = 64)
    (hP : ∀ W g, Below w6.heap.size w6 W → w6.heap.size ≤ g → W.heap[g]? = some (.cells ((Ino.tabB now).map u8v).toArray 5 (0, 0)) → Calls Tryz.prog 64 #[.pointer (some ⟨c, 0, none⟩), .int .u32 (n1.toNat : Int), .slice (some ⟨g, 0, none⟩) 512 512] W fun e w' => e = .returned (.tuple #[]) ∧ D w')
    (hQ : ∀ W g, D W → Q .normal ⟨putAll base (thrL k c n1 now g), dd⟩ W) :
    (Code.region 14 ops true).wp Tryz.prog Q ⟨base, dd⟩ w6 := by
  have hmix : Tryz.prog.follows .mixedOrders = true := by kernel_rfl
  have h2 := (show Tryz.f67.body.bind (regI 14) = some _ from rfl).symm.trans hops
  obtain rfl := Option.some.inj h2
  clear h2 hops
  have vv0 : ∀ g, vals (thrL k c n1 now g) 0 = .pointer (some ⟨k, 0, none⟩) := fun _ => rfl
  have vv1 : ∀ g, vals (thrL k c n1 now g) 1 = .pointer (some ⟨k, 0, none⟩) := fun _ => rfl
  have vv2 : ∀ g, vals (thrL k c n1 now g) 2 = .pointer (some ⟨k, 0, none⟩) := fun _ => rfl
  have vv3 : ∀ g, vals (thrL k c n1 now g) 3 = .pointer (some ⟨c, 0, none⟩) := fun _ => rfl
  have vv4 : ∀ g, vals (thrL k c n1 now g) 4 = .int .u32 (n1.toNat : Int) := fun _ => rfl
  have vv5 : ∀ g, vals (thrL k c n1 now g) 5 = .agg (rowT now) := fun _ => rfl
  have vv6 : ∀ g, vals (thrL k c n1 now g) 6 = .slice (some ⟨g, 0, none⟩) 512 512 := fun _ => rfl
  have vv7 : ∀ g, vals (thrL k c n1 now g) 7 = .tuple #[] := fun _ => rfl
  refine region_laidg hmix (by kernel_rfl) 63 hsz (by kernel_rfl) 0 (thrL k c n1 now) (fun _ => rfl) (fun g b W => (b 7 = true → D W) ∧ (b 7 = false → Below w6.heap.size w6 W ∧ (b 6 = true → w6.heap.size ≤ g ∧ W.heap[g]? = some (.cells ((Ino.tabB now).map u8v).toArray 5 (0, 0))))) ⟨fun h => absurd h (by simp), fun _ => ⟨(Below.refl _ w6).drew, fun h => absurd h (by simp)⟩⟩ ?_ ?_
  · intro g b W io o a hS hcl ho hb hd ev kp yl
    have h73 : b 7 = true → b 3 = true := fun h => hcl 7 _ rfl h ⟨3, .data⟩ (by simp) rfl
    have h74 : b 7 = true → b 4 = true := fun h => hcl 7 _ rfl h ⟨4, .data⟩ (by simp) rfl
    have h76 : b 7 = true → b 6 = true := fun h => hcl 7 _ rfl h ⟨6, .data⟩ (by simp) rfl
    have h65 : b 6 = true → b 5 = true := fun h => hcl 6 _ rfl h ⟨5, .data⟩ (by simp) rfl
    have h32 : b 3 = true → b 2 = true := fun h => hcl 3 _ rfl h ⟨2, .data⟩ (by simp) rfl
    have h21 : b 2 = true → b 1 = true := fun h => hcl 2 _ rfl h ⟨1, .data⟩ (by simp) rfl
    have h10 : b 1 = true → b 0 = true := fun h => hcl 1 _ rfl h ⟨0, .data⟩ (by simp) rfl
    have no7 : (b 7 = true → False) → b 7 = false := fun h => by cases hx : b 7 with | false => rfl | true => exact absurd hx h
    match io with
    | 0 =>
      simp only [List.getElem?_toArray, List.getElem?_cons_zero, Option.some.injEq] at ho
      subst ho
      have z7 : b 7 = false := no7 fun h => by rw [h10 (h21 (h32 (h73 h)))] at hb; cases hb
      obtain ⟨hW, hS6⟩ := hS.2 z7
      have e0 : a.tmps[0]?.getD undef = .pointer (some ⟨k, 0, none⟩) := (kp 0 (none_till (by kernel_rfl))).trans b0
      refine doesg_value rfl (by intro c h; cases h) (v := .pointer (some ⟨k, 0, none⟩)) (w' := W) ?_ ⟨g, fun _ _ => rfl, (vv0 g).symm, ?_⟩
      · simp [execOp, go_sem, e0]
      · refine ⟨fun h => absurd (show b 7 = true from by simpa [did] using h) (by rw [z7]; simp), fun _ => ⟨hW, fun h => hS6 (by simpa [did] using h)⟩⟩
    | 1 =>
      simp only [List.getElem?_toArray, List.getElem?_cons_zero, List.getElem?_cons_succ, Option.some.injEq] at ho
      subst ho
      have p0 : b 0 = true := hd ⟨0, .data⟩ (by simp) rfl
      have e54 := (ev 0 54 rfl p0).trans (vv0 g)
      have z7 : b 7 = false := no7 fun h => by rw [h21 (h32 (h73 h))] at hb; cases hb
      obtain ⟨hW, hS6⟩ := hS.2 z7
      refine doesg_value rfl (by intro c h; cases h) (v := .pointer (some ⟨k, 0, none⟩)) (w' := W) ?_ ⟨g, fun _ _ => rfl, (vv1 g).symm, ?_⟩
      · simp [execOp, go_sem, e54]
      · refine ⟨fun h => absurd (show b 7 = true from by simpa [did] using h) (by rw [z7]; simp), fun _ => ⟨hW, fun h => hS6 (by simpa [did] using h)⟩⟩
    | 2 =>
      simp only [List.getElem?_toArray, List.getElem?_cons_zero, List.getElem?_cons_succ, Option.some.injEq] at ho
      subst ho
      have p1 : b 1 = true := hd ⟨1, .data⟩ (by simp) rfl
      have e55 := (ev 1 55 rfl p1).trans (vv1 g)
      have z7 : b 7 = false := no7 fun h => by rw [h32 (h73 h)] at hb; cases hb
      obtain ⟨hW, hS6⟩ := hS.2 z7
      refine doesg_value rfl (by intro c h; cases h) (v := .pointer (some ⟨k, 0, none⟩)) (w' := W) ?_ ⟨g, fun _ _ => rfl, (vv2 g).symm, ?_⟩
      · simp [execOp, go_sem, e55]
      · refine ⟨fun h => absurd (show b 7 = true from by simpa [did] using h) (by rw [z7]; simp), fun _ => ⟨hW, fun h => hS6 (by simpa [did] using h)⟩⟩
    | 3 =>
      simp only [List.getElem?_toArray, List.getElem?_cons_zero, List.getElem?_cons_succ, Option.some.injEq] at ho
      subst ho
      have p2 : b 2 = true := hd ⟨2, .data⟩ (by simp) rfl
      have e56 := (ev 2 56 rfl p2).trans (vv2 g)
      have z7 : b 7 = false := no7 fun h => by rw [h73 h] at hb; cases hb
      obtain ⟨hW, hS6⟩ := hS.2 z7
      have d0 := (hW.cell (p := ⟨k, 0, none⟩) hkl).trans k0
      refine doesg_value rfl (by intro c h; cases h) (v := .pointer (some ⟨c, 0, none⟩)) (w' := W) ?_ ⟨g, fun _ _ => rfl, (vv3 g).symm, ?_⟩
      · simp [execOp, go_sem, e56, d0]
      · refine ⟨fun h => absurd (show b 7 = true from by simpa [did] using h) (by rw [z7]; simp), fun _ => ⟨hW, fun h => hS6 (by simpa [did] using h)⟩⟩
    | 4 =>
      simp only [List.getElem?_toArray, List.getElem?_cons_zero, List.getElem?_cons_succ, Option.some.injEq] at ho
      subst ho
      have z7 : b 7 = false := no7 fun h => by rw [h74 h] at hb; cases hb
      obtain ⟨hW, hS6⟩ := hS.2 z7
      have e2 : a.tmps[2]?.getD undef = .int .u32 (n1.toNat : Int) := (kp 2 (none_till (by kernel_rfl))).trans b2
      refine doesg_value rfl (by intro c h; cases h) (v := .int .u32 (n1.toNat : Int)) (w' := W) ?_ ⟨g, fun _ _ => rfl, (vv4 g).symm, ?_⟩
      · simp [execOp, go_sem, e2]
      · refine ⟨fun h => absurd (show b 7 = true from by simpa [did] using h) (by rw [z7]; simp), fun _ => ⟨hW, fun h => hS6 (by simpa [did] using h)⟩⟩
    | 5 =>
      simp only [List.getElem?_toArray, List.getElem?_cons_zero, List.getElem?_cons_succ, Option.some.injEq] at ho
      subst ho
      have z7 : b 7 = false := no7 fun h => by rw [h65 (h76 h)] at hb; cases hb
      obtain ⟨hW, hS6⟩ := hS.2 z7
      have e12 : a.tmps[12]?.getD undef = .pointer (some ⟨b1, 0, none⟩) := (kp 12 (none_till (by kernel_rfl))).trans b12
      have hT' : TabAt W b1 now := (hW.block b1 hT.lt).trans hT
      have hld := run_loadVar_row (P := Tryz.prog) W b1 145 145 (rowT now) (0, 0) _ hT' Tryz.underlying145 rfl (by rw [rowT_size, hl]; exact Tryz.infoTable)
      refine doesg_value rfl (by intro c h; cases h) (v := .agg (rowT now)) (w' := W) ?_ ⟨g, fun _ _ => rfl, (vv5 g).symm, ?_⟩
      · have e12' : a.eval (.tmp 12) = .pointer (some ⟨b1, 0, none⟩) := by simpa [Act.eval] using e12
        unfold execOp
        simp only [e12', Sem.run_bind, Instr.loadAt, Instr.sureAddr, Sem.run_pure, Result.andThen_ok, hld]
      · refine ⟨fun h => absurd (show b 7 = true from by simpa [did] using h) (by rw [z7]; simp), fun _ => ⟨hW, fun h => hS6 (by simpa [did] using h)⟩⟩
    | 6 =>
      simp only [List.getElem?_toArray, List.getElem?_cons_zero, List.getElem?_cons_succ, Option.some.injEq] at ho
      subst ho
      have p5 : b 5 = true := hd ⟨5, .data⟩ (by simp) rfl
      have e59 := (ev 5 59 rfl p5).trans (vv5 g)
      have z7 : b 7 = false := no7 fun h => by rw [h76 h] at hb; cases hb
      obtain ⟨hW, hS6⟩ := hS.2 z7
      refine doesg_call rfl (by intro c h; cases h) (f := 89) (args := #[.agg (rowT now)]) ?_ ?_
      · simp [go_sem, e59]
      · refine (tblock_any now hl W).mono ?_
        rintro e w' ⟨rfl, hg, hB⟩
        have hsz' := hW.size
        refine ⟨_, rfl, W.heap.size + 1, fun j hj => ?_, (vv6 _).symm, fun h => absurd (show b 7 = true from by simpa [did] using h) (by rw [z7]; simp), fun _ => ⟨hW.trans (hB.mono hsz'), fun _ => ⟨by omega, hg⟩⟩⟩
        have hj6 : j ≠ 6 := fun e => by rw [e, hb] at hj; cases hj
        unfold vals thrL
        rcases j with _ | _ | _ | _ | _ | _ | _ | j
        · rfl
        · rfl
        · rfl
        · rfl
        · rfl
        · rfl
        · exact absurd rfl hj6
        · rfl
    | 7 =>
      simp only [List.getElem?_toArray, List.getElem?_cons_zero, List.getElem?_cons_succ, Option.some.injEq] at ho
      subst ho
      have p3 : b 3 = true := hd ⟨3, .data⟩ (by simp) rfl
      have p4 : b 4 = true := hd ⟨4, .data⟩ (by simp) rfl
      have p6 : b 6 = true := hd ⟨6, .data⟩ (by simp) rfl
      have e57 := (ev 3 57 rfl p3).trans (vv3 g)
      have e58 := (ev 4 58 rfl p4).trans (vv4 g)
      have e60 := (ev 6 60 rfl p6).trans (vv6 g)
      obtain ⟨hW, hS6⟩ := hS.2 hb
      obtain ⟨h1, h2⟩ := hS6 p6
      refine doesg_call rfl (by intro c h; cases h) (f := 64) (args := #[.pointer (some ⟨c, 0, none⟩), .int .u32 (n1.toNat : Int), .slice (some ⟨g, 0, none⟩) 512 512]) ?_ ?_
      · simp [go_sem, e57, e58, e60]
      · refine (hP W g hW h1 h2).mono ?_
        rintro e w' ⟨rfl, hD⟩
        exact ⟨_, rfl, g, fun _ _ => rfl, (vv7 _).symm, fun _ => hD, fun h => absurd h (by simp [did])⟩
    | j + 8 => simp at ho
  · intro g b W hS hall
    exact hQ W g (hS.1 (hall 7 (by decide)))

set_option maxRecDepth 8000 in
set_option maxHeartbeats 2000000 in
theorem through_any (k place q f t c : Nat) (n : BitVec 32) (vis : Value) (holes : Bool) (w : World) (E : Int → World → Prop) (O : BitVec 32 → List (BitVec 32) → World → Prop) (M : BitVec 32 → List (BitVec 32) → List (BitVec 32) → World → Prop) (D : BitVec 32 → World → Prop) (hk : WalkAt w k (.pointer (some ⟨c, 0, none⟩)) f t holes vis) (hnz : n ≠ 0 ∨ holes = true)
    (hO : Calls Tryz.prog 88 #[.pointer (some ⟨k, 0, none⟩), u32v n] w fun e w1 => ∃ (n1 : BitVec 32) (was : List (BitVec 32)) (er : Int), e = .returned (.tuple #[u32v n1, .agg (rowT was), .int .i64 er]) ∧ was.length = 64 ∧ ((er ≠ 0 ∧ E er w1) ∨ (er = 0 ∧ O n1 was w1)))
    (hX : ∀ er w1 w2, E er w1 → Below w1.heap.size w1 w2 → E er w2)
    (hL : ∀ n1 was w1, was.length = 64 → O n1 was w1 → ∀ w5 b, w1.heap.size = b → Below b w1 w5 → TabAt w5 (b + 1) was → w5.heap.size = b + 2 → TabAt w5 b was → Calls Tryz.prog 46 #[.pointer (some ⟨k, 0, none⟩), .slice (some ⟨b + 1, 0, none⟩) 64 64, .int .i64 (place : Nat), .int .i64 (q : Nat)] w5 fun e w6 => ∃ er : Int, e = .returned (.int .i64 er) ∧ ((er ≠ 0 ∧ E er w6) ∨ (er = 0 ∧ ∃ now, now.length = 64 ∧ TabAt w6 (b + 1) now ∧ w6.heap[b]? = w5.heap[b]? ∧ WalkAt w6 k (.pointer (some ⟨c, 0, none⟩)) f t holes vis ∧ M n1 was now w6)))
    (hG : ∀ n1 was now w6, M n1 was now w6 → now = Ino.zT → Calls Tryz.prog 45 #[.pointer (some ⟨c, 0, none⟩), u32v n1] w6 fun e w7 => e = .returned (.tuple #[]) ∧ D 0 w7)
    (hP : ∀ n1 was now w6, M n1 was now w6 → now.length = 64 → now ≠ Ino.zT → now ≠ was → ∀ w7 g, Below w6.heap.size w6 w7 → w6.heap.size ≤ g → w7.heap[g]? = some (.cells ((Ino.tabB now).map u8v).toArray 5 (0, 0)) → Calls Tryz.prog 64 #[.pointer (some ⟨c, 0, none⟩), u32v n1, .slice (some ⟨g, 0, none⟩) 512 512] w7 fun e w8 => e = .returned (.tuple #[]) ∧ D n1 w8)
    (hS : ∀ n1 was now w6, M n1 was now w6 → now ≠ Ino.zT → now = was → D n1 w6) :
    Calls Tryz.prog 67 #[.pointer (some ⟨k, 0, none⟩), .int .i64 (place : Nat), u32v n, .int .i64 (q : Nat)] w fun e w' => ∃ (n' : BitVec 32) (er : Int), e = .returned (.tuple #[u32v n', .int .i64 er]) ∧ ((er ≠ 0 ∧ n' = 0 ∧ E er w') ∨ (er = 0 ∧ D n' w')) := by
  have k3 : w.cell? ⟨k, 3, none⟩ = some (.bool holes) := by rw [cellOf hk 3]; rfl
  have HL := hide hL
  have HX := hide hX
  have HG := hide hG
  have HP := hide hP
  have HS := hide hS
  clear hL hX hG hP hS hk
  unfold u32v at hO ⊢
  by_cases hz : n = 0
  · have hho : holes = true := by
      rcases hnz with h | h
      · exact absurd hz h
      · exact h
    rw [hho] at k3
    subst hz
    clear hnz hho
    go_enter Tryz.func67, Tryz.ntmps67
    go_wp2_with (go_at_call 88; refine hO.mono ?_; rintro e w1 ⟨n1, was, er, rfl, hwas, hres⟩; refine Stop.out ?_)
    refine Stop.mk ?_
    clear hO k3
    obtain ⟨b, hb⟩ : ∃ b, w1.heap.size = b := ⟨_, rfl⟩
    have HB : Hid (w1.heap.size = b) := hb
    clear hb
    have hsl : ∀ W, (Instr.sliceAt 145 (.pointer (some ⟨b + 1, 0, none⟩)) none none none).run Tryz.prog W = .ok (.slice (some ⟨b + 1, 0, none⟩) 64 64) W := fun W => sliceT _ W
    go_wp2_with (first | (refine wpList_allocT rfl rfl b HB ?_; intro w2 H2; refine Stop.out ?_))
    refine Stop.mk ?_
    have H2' : Hid (TabAt w2 b Ino.zT ∧ Ino.zT.length = 64) := ⟨H2.out.1, rfl⟩
    go_wp2_with (first | (refine wpList_setT rfl _ _ rfl b rfl Ino.zT was rfl H2' hwas ?_; intro w3 H3; refine Stop.out ?_))
    refine Stop.mk ?_
    have H3s : Hid (w3.heap.size = b + 1) := H3.out.2.2.trans H2.out.2.2
    have H3w : Hid (Below b w1 w3) := H2.out.2.1.trans H3.out.2.1
    clear H2'
    by_cases her : er = 0
    · subst her
      have HO : Hid (O n1 was w1) := by
        rcases hres with ⟨h, _⟩ | ⟨_, h⟩
        · exact absurd rfl h
        · exact h
      clear hres
      have H3b : Hid (TabAt w3 b was ∧ was.length = 64) := ⟨H3.out.1, hwas⟩
      go_wp2_with (first | (refine wpList_loadT rfl _ rfl b rfl was H3b ?_) | (refine wpList_allocT rfl rfl (b + 1) H3s ?_; intro w4 H4; refine Stop.out ?_))
      refine Stop.mk ?_
      have H4b : Hid (TabAt w4 b was ∧ was.length = 64) := ⟨(H4.out.2.1.block b (by omega)).trans H3.out.1, hwas⟩
      have H4n : Hid (TabAt w4 (b + 1) Ino.zT ∧ Ino.zT.length = 64) := ⟨H4.out.1, rfl⟩
      go_wp2_with (first | (refine wpList_setT rfl _ _ rfl (b + 1) rfl Ino.zT was rfl H4n hwas ?_; intro w5 H5; refine Stop.out ?_))
      refine Stop.mk ?_
      have HB5 : Hid (Below b w1 w5 ∧ w5.heap.size = b + 2 ∧ TabAt w5 b was) := ⟨(H3w.out.trans (H4.out.2.1.mono (Nat.le_succ _))).trans (H5.out.2.1.mono (Nat.le_succ _)), H5.out.2.2.trans H4.out.2.2, (H5.out.2.1.block b (by omega)).trans H4b.out.1⟩
      have cL := HL.out n1 was w1 hwas HO.out w5 b HB.out HB5.out.1 H5.out.1 HB5.out.2.1 HB5.out.2.2
      clear H2 H3 H3s H3b H3w H4 H4b H4n
      go_wp2_with (go_at_call 46; refine cL.mono ?_; rintro e w6 ⟨er, rfl, hres⟩; refine Stop.out ?_)
      refine Stop.mk ?_
      clear cL hsl
      by_cases her : er = 0
      · subst her
        obtain ⟨now, hnow, hT6, hb6, hk6, hM⟩ : ∃ now, now.length = 64 ∧ TabAt w6 (b + 1) now ∧ w6.heap[b]? = w5.heap[b]? ∧ WalkAt w6 k (.pointer (some ⟨c, 0, none⟩)) f t holes vis ∧ M n1 was now w6 := by
          rcases hres with ⟨h, _⟩ | ⟨_, h⟩
          · exact absurd rfl h
          · exact h
        clear hres
        have H6 : Hid (TabAt w6 (b + 1) now ∧ now.length = 64) := ⟨hT6, hnow⟩
        have H6b : Hid (TabAt w6 b was ∧ was.length = 64) := ⟨hb6.trans HB5.out.2.2, hwas⟩
        have k0 : w6.cell? ⟨k, 0, none⟩ = some (.pointer (some ⟨c, 0, none⟩)) := by rw [cellOf hk6 0]; rfl
        have hk6l : k < w6.heap.size := (Array.getElem?_eq_some_iff.1 hk6).1
        have HM : Hid (M n1 was now w6) := hM
        clear hT6 hb6 hk6 hM
        by_cases hz0 : now = Ino.zT
        · have hd : decide (now = Ino.zT) = true := decide_eq_true hz0
          have cG := HG.out n1 was now w6 HM.out hz0
          unfold u32v at cG
          clear hz0
          go_wp2_with (first | (refine wpList_loadT rfl _ rfl (b + 1) rfl now H6 ?_) | (refine wpList_eqlT rfl _ _ rfl now Ino.zT rfl rfl H6.out.2 rfl ?_; rw [hd]) | (go_at_call 45; refine cG.mono ?_; rintro e w7 ⟨rfl, hD⟩; refine Stop.out ?_))
          refine Stop.mk ?_
          have HD : Hid (D 0 w7) := hD
          clear cG hD k0
          go_wp2
          go_ret2
          exact ⟨0, 0, rfl, .inr ⟨rfl, HD.out⟩⟩
        · have hd : decide (now = Ino.zT) = false := decide_eq_false hz0
          have HZ : Hid (now ≠ Ino.zT) := hz0
          clear hz0
          go_wp2_with (first | (refine wpList_loadT rfl _ rfl (b + 1) rfl now H6 ?_) | (refine wpList_eqlT rfl _ _ rfl now Ino.zT rfl rfl H6.out.2 rfl ?_; rw [hd]; refine Stop.out ?_))
          refine Stop.mk ?_
          clear hd
          by_cases hw0 : now = was
          · have hd : (!decide (now = was)) = false := by rw [decide_eq_true hw0]; rfl
            have HD : Hid (D n1 w6) := HS.out n1 was now w6 HM.out HZ.out hw0
            clear hw0
            go_wp2_with (first | (refine wpList_loadT rfl _ rfl (b + 1) rfl now H6 ?_) | (refine wpList_loadT rfl _ rfl b rfl was H6b ?_) | (refine wpList_neqT rfl _ _ rfl now was rfl rfl H6.out.2 H6b.out.2 ?_; rw [hd]))
            go_ret2
            exact ⟨n1, 0, rfl, .inr ⟨rfl, HD.out⟩⟩
          · have hd : (!decide (now = was)) = true := by rw [decide_eq_false hw0]; rfl
            have HP' := hide (HP.out n1 was now w6 HM.out H6.out.2 HZ.out hw0)
            have HT6 : Hid (TabAt w6 (b + 1) now ∧ now.length = 64 ∧ k < w6.heap.size) := ⟨H6.out.1, H6.out.2, hk6l⟩
            have K0 : Hid (w6.cell? ⟨k, 0, none⟩ = some (.pointer (some ⟨c, 0, none⟩))) := k0
            clear hw0
            go_wp2_with (first | (refine wpList_loadT rfl _ rfl (b + 1) rfl now H6 ?_) | (refine wpList_loadT rfl _ rfl b rfl was H6b ?_) | (refine wpList_neqT rfl _ _ rfl now was rfl rfl H6.out.2 H6b.out.2 ?_; rw [hd]))
            clear k0 HM H6 H6b HB5 hd
            refine through_put (by kernel_rfl) rfl k c (b + 1) n1 now w6 (D n1) rfl rfl rfl K0.out HT6.out.2.2 HT6.out.1 HT6.out.2.1 (fun W g hW hg hd => HP'.out W g hW hg hd) ?_
            intro w7 g hD
            have HD : Hid (D n1 w7) := hD
            clear hD HP' HT6 K0
            unfold thrL putAll putAll putAll putAll putAll putAll putAll putAll putAll
            go_wp2
            go_ret2
            exact ⟨n1, 0, rfl, .inr ⟨rfl, HD.out⟩⟩
      · have H6 : Hid (E er w6) := by
          rcases hres with ⟨_, h⟩ | ⟨h, _⟩
          · exact h
          · exact absurd h her
        have q1 : (er != 0) = true := by simp [her]
        have q2 : (er == 0) = false := by simp [her]
        clear hres
        go_wp2
        go_ret2
        exact ⟨0, er, rfl, .inl ⟨her, rfl, H6.out⟩⟩
    · have H6 : Hid (E er w3) := by
        rcases hres with ⟨_, h⟩ | ⟨h, _⟩
        · exact HX.out er w1 w3 h (by rw [HB.out]; exact H3w.out)
        · exact absurd h her
      have q1 : (er != 0) = true := by simp [her]
      have q2 : (er == 0) = false := by simp [her]
      clear hres
      go_wp2
      go_ret2
      exact ⟨0, er, rfl, .inl ⟨her, rfl, H6.out⟩⟩
  · have q0 : ¬ (n.toNat : Int) = 0 := fun h => hz (BitVec.eq_of_toNat_eq (by simpa using h))
    have q3 : ((n.toNat : Int) == 0) = false := by rw [beq_eq_false_iff_ne]; exact q0
    clear hnz hz q0
    go_enter Tryz.func67, Tryz.ntmps67
    go_wp2_with (go_at_call 88; refine hO.mono ?_; rintro e w1 ⟨n1, was, er, rfl, hwas, hres⟩; refine Stop.out ?_)
    refine Stop.mk ?_
    clear hO k3
    obtain ⟨b, hb⟩ : ∃ b, w1.heap.size = b := ⟨_, rfl⟩
    have HB : Hid (w1.heap.size = b) := hb
    clear hb
    have hsl : ∀ W, (Instr.sliceAt 145 (.pointer (some ⟨b + 1, 0, none⟩)) none none none).run Tryz.prog W = .ok (.slice (some ⟨b + 1, 0, none⟩) 64 64) W := fun W => sliceT _ W
    go_wp2_with (first | (refine wpList_allocT rfl rfl b HB ?_; intro w2 H2; refine Stop.out ?_))
    refine Stop.mk ?_
    have H2' : Hid (TabAt w2 b Ino.zT ∧ Ino.zT.length = 64) := ⟨H2.out.1, rfl⟩
    go_wp2_with (first | (refine wpList_setT rfl _ _ rfl b rfl Ino.zT was rfl H2' hwas ?_; intro w3 H3; refine Stop.out ?_))
    refine Stop.mk ?_
    have H3s : Hid (w3.heap.size = b + 1) := H3.out.2.2.trans H2.out.2.2
    have H3w : Hid (Below b w1 w3) := H2.out.2.1.trans H3.out.2.1
    clear H2'
    by_cases her : er = 0
    · subst her
      have HO : Hid (O n1 was w1) := by
        rcases hres with ⟨h, _⟩ | ⟨_, h⟩
        · exact absurd rfl h
        · exact h
      clear hres
      have H3b : Hid (TabAt w3 b was ∧ was.length = 64) := ⟨H3.out.1, hwas⟩
      go_wp2_with (first | (refine wpList_loadT rfl _ rfl b rfl was H3b ?_) | (refine wpList_allocT rfl rfl (b + 1) H3s ?_; intro w4 H4; refine Stop.out ?_))
      refine Stop.mk ?_
      have H4b : Hid (TabAt w4 b was ∧ was.length = 64) := ⟨(H4.out.2.1.block b (by omega)).trans H3.out.1, hwas⟩
      have H4n : Hid (TabAt w4 (b + 1) Ino.zT ∧ Ino.zT.length = 64) := ⟨H4.out.1, rfl⟩
      go_wp2_with (first | (refine wpList_setT rfl _ _ rfl (b + 1) rfl Ino.zT was rfl H4n hwas ?_; intro w5 H5; refine Stop.out ?_))
      refine Stop.mk ?_
      have HB5 : Hid (Below b w1 w5 ∧ w5.heap.size = b + 2 ∧ TabAt w5 b was) := ⟨(H3w.out.trans (H4.out.2.1.mono (Nat.le_succ _))).trans (H5.out.2.1.mono (Nat.le_succ _)), H5.out.2.2.trans H4.out.2.2, (H5.out.2.1.block b (by omega)).trans H4b.out.1⟩
      have cL := HL.out n1 was w1 hwas HO.out w5 b HB.out HB5.out.1 H5.out.1 HB5.out.2.1 HB5.out.2.2
      clear H2 H3 H3s H3b H3w H4 H4b H4n
      go_wp2_with (go_at_call 46; refine cL.mono ?_; rintro e w6 ⟨er, rfl, hres⟩; refine Stop.out ?_)
      refine Stop.mk ?_
      clear cL hsl
      by_cases her : er = 0
      · subst her
        obtain ⟨now, hnow, hT6, hb6, hk6, hM⟩ : ∃ now, now.length = 64 ∧ TabAt w6 (b + 1) now ∧ w6.heap[b]? = w5.heap[b]? ∧ WalkAt w6 k (.pointer (some ⟨c, 0, none⟩)) f t holes vis ∧ M n1 was now w6 := by
          rcases hres with ⟨h, _⟩ | ⟨_, h⟩
          · exact absurd rfl h
          · exact h
        clear hres
        have H6 : Hid (TabAt w6 (b + 1) now ∧ now.length = 64) := ⟨hT6, hnow⟩
        have H6b : Hid (TabAt w6 b was ∧ was.length = 64) := ⟨hb6.trans HB5.out.2.2, hwas⟩
        have k0 : w6.cell? ⟨k, 0, none⟩ = some (.pointer (some ⟨c, 0, none⟩)) := by rw [cellOf hk6 0]; rfl
        have hk6l : k < w6.heap.size := (Array.getElem?_eq_some_iff.1 hk6).1
        have HM : Hid (M n1 was now w6) := hM
        clear hT6 hb6 hk6 hM
        by_cases hz0 : now = Ino.zT
        · have hd : decide (now = Ino.zT) = true := decide_eq_true hz0
          have cG := HG.out n1 was now w6 HM.out hz0
          unfold u32v at cG
          clear hz0
          go_wp2_with (first | (refine wpList_loadT rfl _ rfl (b + 1) rfl now H6 ?_) | (refine wpList_eqlT rfl _ _ rfl now Ino.zT rfl rfl H6.out.2 rfl ?_; rw [hd]) | (go_at_call 45; refine cG.mono ?_; rintro e w7 ⟨rfl, hD⟩; refine Stop.out ?_))
          refine Stop.mk ?_
          have HD : Hid (D 0 w7) := hD
          clear cG hD k0
          go_wp2
          go_ret2
          exact ⟨0, 0, rfl, .inr ⟨rfl, HD.out⟩⟩
        · have hd : decide (now = Ino.zT) = false := decide_eq_false hz0
          have HZ : Hid (now ≠ Ino.zT) := hz0
          clear hz0
          go_wp2_with (first | (refine wpList_loadT rfl _ rfl (b + 1) rfl now H6 ?_) | (refine wpList_eqlT rfl _ _ rfl now Ino.zT rfl rfl H6.out.2 rfl ?_; rw [hd]; refine Stop.out ?_))
          refine Stop.mk ?_
          clear hd
          by_cases hw0 : now = was
          · have hd : (!decide (now = was)) = false := by rw [decide_eq_true hw0]; rfl
            have HD : Hid (D n1 w6) := HS.out n1 was now w6 HM.out HZ.out hw0
            clear hw0
            go_wp2_with (first | (refine wpList_loadT rfl _ rfl (b + 1) rfl now H6 ?_) | (refine wpList_loadT rfl _ rfl b rfl was H6b ?_) | (refine wpList_neqT rfl _ _ rfl now was rfl rfl H6.out.2 H6b.out.2 ?_; rw [hd]))
            go_ret2
            exact ⟨n1, 0, rfl, .inr ⟨rfl, HD.out⟩⟩
          · have hd : (!decide (now = was)) = true := by rw [decide_eq_false hw0]; rfl
            have HP' := hide (HP.out n1 was now w6 HM.out H6.out.2 HZ.out hw0)
            have HT6 : Hid (TabAt w6 (b + 1) now ∧ now.length = 64 ∧ k < w6.heap.size) := ⟨H6.out.1, H6.out.2, hk6l⟩
            have K0 : Hid (w6.cell? ⟨k, 0, none⟩ = some (.pointer (some ⟨c, 0, none⟩))) := k0
            clear hw0
            go_wp2_with (first | (refine wpList_loadT rfl _ rfl (b + 1) rfl now H6 ?_) | (refine wpList_loadT rfl _ rfl b rfl was H6b ?_) | (refine wpList_neqT rfl _ _ rfl now was rfl rfl H6.out.2 H6b.out.2 ?_; rw [hd]))
            clear k0 HM H6 H6b HB5 hd
            refine through_put (by kernel_rfl) rfl k c (b + 1) n1 now w6 (D n1) rfl rfl rfl K0.out HT6.out.2.2 HT6.out.1 HT6.out.2.1 (fun W g hW hg hd => HP'.out W g hW hg hd) ?_
            intro w7 g hD
            have HD : Hid (D n1 w7) := hD
            clear hD HP' HT6 K0
            unfold thrL putAll putAll putAll putAll putAll putAll putAll putAll putAll
            go_wp2
            go_ret2
            exact ⟨n1, 0, rfl, .inr ⟨rfl, HD.out⟩⟩
      · have H6 : Hid (E er w6) := by
          rcases hres with ⟨_, h⟩ | ⟨h, _⟩
          · exact h
          · exact absurd h her
        have q1 : (er != 0) = true := by simp [her]
        have q2 : (er == 0) = false := by simp [her]
        clear hres
        go_wp2
        go_ret2
        exact ⟨0, er, rfl, .inl ⟨her, rfl, H6.out⟩⟩
    · have H6 : Hid (E er w3) := by
        rcases hres with ⟨_, h⟩ | ⟨h, _⟩
        · exact HX.out er w1 w3 h (by rw [HB.out]; exact H3w.out)
        · exact absurd h her
      have q1 : (er != 0) = true := by simp [her]
      have q2 : (er == 0) = false := by simp [her]
      clear hres
      go_wp2
      go_ret2
      exact ⟨0, er, rfl, .inl ⟨her, rfl, H6.out⟩⟩

end Go.Proofs.YtebdgcoandfocaaGreatDoor

/-
  A walk over numbers as a function. Pure: no program.
-/
namespace Go.Proofs.YtebdgcoandfocaaGreatDoor
namespace Ino

abbrev Stp (σ : Type) := Nat → Num → σ → Num × Int × σ

def lev {σ : Type} (step : Stp σ) (f t first sp : Nat) : List Num → Nat → σ → List Num × Int × σ
  | [], _, s => ([], 0, s)
  | n :: l, i, s =>
    if first + i * sp + sp ≤ f ∨ t ≤ first + i * sp then (n :: (lev step f t first sp l (i + 1) s).1, (lev step f t first sp l (i + 1) s).2)
    else if (step (first + i * sp) n s).2.1 = 0 then ((step (first + i * sp) n s).1 :: (lev step f t first sp l (i + 1) (step (first + i * sp) n s).2.2).1, (lev step f t first sp l (i + 1) (step (first + i * sp) n s).2.2).2)
    else ((step (first + i * sp) n s).1 :: l, (step (first + i * sp) n s).2.1, (step (first + i * sp) n s).2.2)

section
variable {σ : Type} {step : Stp σ} {f t first sp : Nat}
theorem lev_nil (i : Nat) (s : σ) : lev step f t first sp [] i s = ([], 0, s) := rfl
theorem lev_skip {n : Num} {l : List Num} {i : Nat} {s : σ} (h : first + i * sp + sp ≤ f ∨ t ≤ first + i * sp) : lev step f t first sp (n :: l) i s = (n :: (lev step f t first sp l (i + 1) s).1, (lev step f t first sp l (i + 1) s).2) := by
  rw [lev, if_pos h]
theorem lev_step {n n' : Num} {l : List Num} {i : Nat} {s s' : σ} (h : ¬ (first + i * sp + sp ≤ f ∨ t ≤ first + i * sp)) (hs : step (first + i * sp) n s = (n', 0, s')) : lev step f t first sp (n :: l) i s = (n' :: (lev step f t first sp l (i + 1) s').1, (lev step f t first sp l (i + 1) s').2) := by
  rw [lev, if_neg h, hs]; rfl
theorem lev_fail {n n' : Num} {l : List Num} {i : Nat} {s s' : σ} {er : Int} (h : ¬ (first + i * sp + sp ≤ f ∨ t ≤ first + i * sp)) (hs : step (first + i * sp) n s = (n', er, s')) (he : er ≠ 0) : lev step f t first sp (n :: l) i s = (n' :: l, er, s') := by
  rw [lev, if_neg h, hs]; exact if_neg he
theorem lev_length : ∀ (l : List Num) (i : Nat) (s : σ), (lev step f t first sp l i s).1.length = l.length
  | [], _, _ => rfl
  | n :: l, i, s => by
    rw [lev]
    split
    · simp [lev_length l]
    · split
      · simp [lev_length l]
      · simp

theorem lev_cost (m : σ → Nat) (K : Nat) (hK : ∀ p n s, m (step p n s).2.2 ≤ m s + K) : ∀ (l : List Num) (i : Nat) (s : σ), m (lev step f t first sp l i s).2.2 ≤ m s + l.length * K
  | [], _, _ => by rw [lev_nil]; exact Nat.le_add_right _ _
  | n :: l, i, s => by
    have hk := hK (first + i * sp) n s
    rw [List.length_cons, Nat.add_mul, Nat.one_mul, lev]
    split
    · have := lev_cost m K hK l (i + 1) s
      show m (lev step f t first sp l (i + 1) s).2.2 ≤ _
      omega
    · split
      · have := lev_cost m K hK l (i + 1) (step (first + i * sp) n s).2.2
        show m (lev step f t first sp l (i + 1) (step (first + i * sp) n s).2.2).2.2 ≤ _
        omega
      · show m (step (first + i * sp) n s).2.2 ≤ _
        omega

/-- What is known of a level at place i: pre is done. -/
def At (step : Stp σ) (f t first sp : Nat) (seg : List Num) (s0 : σ) (i : Nat) (pre : List Num) (s : σ) : Prop :=
  i ≤ seg.length ∧ pre.length = i ∧ lev step f t first sp seg 0 s0 = (pre ++ (lev step f t first sp (seg.drop i) i s).1, (lev step f t first sp (seg.drop i) i s).2)
theorem At.start (seg : List Num) (s0 : σ) : At step f t first sp seg s0 0 [] s0 := ⟨Nat.zero_le _, rfl, by simp⟩
theorem At.skip {seg pre : List Num} {s0 s : σ} {i : Nat} {n : Num} (h : At step f t first sp seg s0 i pre s) (hn : seg[i]? = some n) (hc : first + i * sp + sp ≤ f ∨ t ≤ first + i * sp) : At step f t first sp seg s0 (i + 1) (pre ++ [n]) s := by
  obtain ⟨hi, he⟩ := List.getElem?_eq_some_iff.1 hn
  obtain ⟨h1, h2, h3⟩ := h
  refine ⟨hi, by simp [h2], ?_⟩
  rw [h3, List.drop_eq_getElem_cons hi, he, lev_skip hc]
  simp
theorem At.go {seg pre : List Num} {s0 s s' : σ} {i : Nat} {n n' : Num} (h : At step f t first sp seg s0 i pre s) (hn : seg[i]? = some n) (hc : ¬ (first + i * sp + sp ≤ f ∨ t ≤ first + i * sp)) (hs : step (first + i * sp) n s = (n', 0, s')) : At step f t first sp seg s0 (i + 1) (pre ++ [n']) s' := by
  obtain ⟨hi, he⟩ := List.getElem?_eq_some_iff.1 hn
  obtain ⟨h1, h2, h3⟩ := h
  refine ⟨hi, by simp [h2], ?_⟩
  rw [h3, List.drop_eq_getElem_cons hi, he, lev_step hc hs]
  simp
theorem At.err {seg pre : List Num} {s0 s s' : σ} {i : Nat} {n n' : Num} {er : Int} (h : At step f t first sp seg s0 i pre s) (hn : seg[i]? = some n) (hc : ¬ (first + i * sp + sp ≤ f ∨ t ≤ first + i * sp)) (hs : step (first + i * sp) n s = (n', er, s')) (hx : er ≠ 0) : (lev step f t first sp seg 0 s0).2 = (er, s') := by
  obtain ⟨hi, he⟩ := List.getElem?_eq_some_iff.1 hn
  obtain ⟨h1, h2, h3⟩ := h
  rw [h3, List.drop_eq_getElem_cons hi, he, lev_fail hc hs hx]
theorem At.done {seg pre : List Num} {s0 s : σ} {i : Nat} (h : At step f t first sp seg s0 i pre s) (hi : i = seg.length) : lev step f t first sp seg 0 s0 = (pre, 0, s) := by
  subst hi
  obtain ⟨h1, h2, h3⟩ := h
  rw [h3, List.drop_length, lev_nil, List.append_nil]
end

/-- What a walk's hands do. -/
structure Ops (σ : Type) where
  take : σ → Num × Int × σ
  get : σ → Num → List Num × Int × σ
  give : σ → Num → σ
  put : σ → Num → By → σ

def opn {σ : Type} (o : Ops σ) (n : Num) (s : σ) : Num × List Num × Int × σ :=
  if n = 0 then ((o.take s).1, zT, (o.take s).2) else if (o.get s n).2.1 = 0 then (n, o.get s n) else (0, zT, (o.get s n).2)
def thr {σ : Type} (o : Ops σ) (holes : Bool) (lv : List Num → σ → List Num × Int × σ) (n : Num) (s : σ) : Num × Int × σ :=
  if n = 0 ∧ holes = false then (0, 0, s) else
  if (opn o n s).2.2.1 ≠ 0 then (0, (opn o n s).2.2) else
  if (lv (opn o n s).2.1 (opn o n s).2.2.2).2.1 ≠ 0 then (0, (lv (opn o n s).2.1 (opn o n s).2.2.2).2) else
  if (lv (opn o n s).2.1 (opn o n s).2.2.2).1 = zT then (0, 0, o.give (lv (opn o n s).2.1 (opn o n s).2.2.2).2.2 (opn o n s).1) else
  if (lv (opn o n s).2.1 (opn o n s).2.2.2).1 = (opn o n s).2.1 then ((opn o n s).1, 0, (lv (opn o n s).2.1 (opn o n s).2.2.2).2.2) else
  ((opn o n s).1, 0, o.put (lv (opn o n s).2.1 (opn o n s).2.2.2).2.2 (opn o n s).1 (tabB (lv (opn o n s).2.1 (opn o n s).2.2.2).1))

section
variable {σ : Type} {o : Ops σ} {holes : Bool} {lv : List Num → σ → List Num × Int × σ} {n n1 : Num} {s s1 s2 : σ} {was now : List Num} {er : Int}
theorem thr_hole (h : n = 0) (hh : holes = false) : thr o holes lv n s = (0, 0, s) := if_pos ⟨h, hh⟩
theorem thr_open (h : ¬ (n = 0 ∧ holes = false)) (ho : opn o n s = (n1, was, er, s1)) (he : er ≠ 0) : thr o holes lv n s = (0, er, s1) := by
  rw [thr, if_neg h, ho, if_pos he]
theorem thr_level (h : ¬ (n = 0 ∧ holes = false)) (ho : opn o n s = (n1, was, 0, s1)) (hl : lv was s1 = (now, er, s2)) (he : er ≠ 0) : thr o holes lv n s = (0, er, s2) := by
  rw [thr, if_neg h, ho, if_neg (by simp), hl, if_pos he]
theorem thr_give (h : ¬ (n = 0 ∧ holes = false)) (ho : opn o n s = (n1, was, 0, s1)) (hl : lv was s1 = (now, 0, s2)) (hz : now = zT) : thr o holes lv n s = (0, 0, o.give s2 n1) := by
  rw [thr, if_neg h, ho, if_neg (by simp), hl, if_neg (by simp), if_pos hz]
theorem thr_same (h : ¬ (n = 0 ∧ holes = false)) (ho : opn o n s = (n1, was, 0, s1)) (hl : lv was s1 = (now, 0, s2)) (hz : now ≠ zT) (hw : now = was) : thr o holes lv n s = (n1, 0, s2) := by
  rw [thr, if_neg h, ho, if_neg (by simp), hl, if_neg (by simp), if_neg hz, if_pos hw]
theorem thr_put (h : ¬ (n = 0 ∧ holes = false)) (ho : opn o n s = (n1, was, 0, s1)) (hl : lv was s1 = (now, 0, s2)) (hz : now ≠ zT) (hw : now ≠ was) : thr o holes lv n s = (n1, 0, o.put s2 n1 (tabB now)) := by
  rw [thr, if_neg h, ho, if_neg (by simp), hl, if_neg (by simp), if_neg hz, if_neg hw]
end

/-- Each of the hands costs one. -/
structure Cost {σ : Type} (o : Ops σ) (m : σ → Nat) : Prop where
  take : ∀ s, m (o.take s).2.2 ≤ m s + 1
  get : ∀ s n, m (o.get s n).2.2 ≤ m s + 1
  give : ∀ s n, m (o.give s n) ≤ m s + 1
  put : ∀ s n b, m (o.put s n b) ≤ m s + 1
theorem opn_cost {σ : Type} {o : Ops σ} {m : σ → Nat} (h : Cost o m) (n : Num) (s : σ) : m (opn o n s).2.2.2 ≤ m s + 1 := by
  unfold opn
  split
  · exact h.take s
  · split
    · exact h.get s n
    · exact h.get s n
theorem thr_cost {σ : Type} {o : Ops σ} {m : σ → Nat} (h : Cost o m) {holes : Bool} {lv : List Num → σ → List Num × Int × σ} {K : Nat} (hl : ∀ l s, (l.length = 64 → m (lv l s).2.2 ≤ m s + K)) (hg : ∀ s n, (o.get s n).1.length = 64 ∨ (o.get s n).2.1 ≠ 0) (n : Num) (s : σ) : m (thr o holes lv n s).2.2 ≤ m s + (K + 2) := by
  have h1 := opn_cost h n s
  have hlen : (opn o n s).2.1.length = 64 := by
    unfold opn
    split
    · rfl
    · split
      · rename_i he
        rcases hg s n with h | h
        · exact h
        · exact absurd he h
      · rfl
  have h2 := hl (opn o n s).2.1 (opn o n s).2.2.2 hlen
  have h3 := h.give (lv (opn o n s).2.1 (opn o n s).2.2.2).2.2 (opn o n s).1
  have h4 := h.put (lv (opn o n s).2.1 (opn o n s).2.2.2).2.2 (opn o n s).1 (tabB (lv (opn o n s).2.1 (opn o n s).2.2.2).1)
  unfold thr
  split
  · show m s ≤ _; omega
  split
  · show m (opn o n s).2.2.2 ≤ _; omega
  split
  · show m (lv (opn o n s).2.1 (opn o n s).2.2.2).2.2 ≤ _; omega
  split
  · show m (o.give (lv (opn o n s).2.1 (opn o n s).2.2.2).2.2 (opn o n s).1) ≤ _; omega
  split
  · show m (lv (opn o n s).2.1 (opn o n s).2.2.2).2.2 ≤ _; omega
  · show m (o.put (lv (opn o n s).2.1 (opn o n s).2.2.2).2.2 (opn o n s).1 (tabB (lv (opn o n s).2.1 (opn o n s).2.2.2).1)) ≤ _; omega

def thr1 {σ : Type} (o : Ops σ) (holes : Bool) (f t : Nat) (vis : Stp σ) : Stp σ := fun place n s => thr o holes (fun l s => lev vis f t place 1 l 0 s) n s
def thr2 {σ : Type} (o : Ops σ) (holes : Bool) (f t : Nat) (vis : Stp σ) : Stp σ := fun place n s => thr o holes (fun l s => lev (thr1 o holes f t vis) f t place 64 l 0 s) n s

/-- All numbers of an inode. -/
def ovr {σ : Type} (o : Ops σ) (holes : Bool) (f t : Nat) (vis : Stp σ) (ns : List Num) (s : σ) : List Num × Int × σ :=
  let a := lev vis f t 0 1 (ns.take 8) 0 s
  if a.2.1 ≠ 0 then (ns, a.2) else
  let b := lev (thr1 o holes f t vis) f t 8 64 ((ns.drop 8).take 1) 0 a.2.2
  if b.2.1 ≠ 0 then (ns, b.2) else
  let c := lev (thr2 o holes f t vis) f t 72 4096 (ns.drop 9) 0 b.2.2
  if c.2.1 ≠ 0 then (ns, c.2) else (a.1 ++ b.1 ++ c.1, 0, c.2.2)

end Ino
end Go.Proofs.YtebdgcoandfocaaGreatDoor

/-
  Package inode: a walk over hands of which all is known: level, through, over as functions.
-/
namespace Go.Proofs.YtebdgcoandfocaaGreatDoor
open Go.RowKit

theorem results_row3 {fn : Func} {p t u : Tmp} {ty : TypeId} {P : Program} (h : fn.results = #[.tmp t, .cell p ty, .tmp u]) (tmps : Array Value) (w : World) (g : Nat) (cs : Array Value)
    (hp : tmps.getD p undef = .pointer (some ⟨g, 0, none⟩)) (hld : (loadVar ty ⟨g, 0, none⟩).run P w = .ok (.agg cs) w) :
    (results fn tmps).run P w = .ok (.tuple #[tmps.getD t undef, .agg cs, tmps.getD u undef]) w := by
  have hp' : tmps[p]?.getD undef = .pointer (some ⟨g, 0, none⟩) := by simpa using hp
  simp [results, h, hp', asAddr, hld]
theorem loadT {w : World} {g : Nat} {ns : List (BitVec 32)} (h : TabAt w g ns) (hl : ns.length = 64) : (loadVar 145 ⟨g, 0, none⟩).run Tryz.prog w = .ok (.agg (rowT ns)) w :=
  run_loadVar_row (P := Tryz.prog) w g 145 145 (rowT ns) (0, 0) _ h Tryz.underlying145 rfl (by rw [rowT_size, hl]; exact Tryz.infoTable)

set_option maxRecDepth 8000 in
set_option maxHeartbeats 1000000 in
theorem open_any (k f t c : Nat) (n : BitVec 32) (holes : Bool) (vis : Value) (w : World) (E : Int → World → Prop) (O : BitVec 32 → List (BitVec 32) → World → Prop) (hk : WalkAt w k (.pointer (some ⟨c, 0, none⟩)) f t holes vis)
    (hT : n = 0 → ∀ W, Below w.heap.size w W → TabAt W w.heap.size Ino.zT → Calls Tryz.prog 63 #[.pointer (some ⟨c, 0, none⟩)] W fun e w1 => ∃ (r : BitVec 32) (er : Int), e = .returned (.tuple #[u32v r, .int .i64 er]) ∧ w.heap.size < w1.heap.size ∧ w1.heap[w.heap.size]? = W.heap[w.heap.size]? ∧ ∀ w2, But (fun j => j = w.heap.size) w1 w2 → ((er ≠ 0 ∧ E er w2) ∨ (er = 0 ∧ O r Ino.zT w2)))
    (hG : n ≠ 0 → ∀ W, Below w.heap.size w W → TabAt W w.heap.size Ino.zT → Calls Tryz.prog 47 #[.pointer (some ⟨c, 0, none⟩), u32v n] W fun e w1 => w1.heap[w.heap.size]? = W.heap[w.heap.size]? ∧ ((∃ bs g cap, e = .returned (.tuple #[.slice (some ⟨g, 0, none⟩) 512 cap, .int .i64 0]) ∧ Bytes w1 (some ⟨g, 0, none⟩) bs ∧ bs.length = 512 ∧ 512 ≤ cap ∧ ∀ w2, But (fun j => j = w.heap.size) w1 w2 → O n (tabOf bs) w2) ∨ (∃ v er, er ≠ 0 ∧ e = .returned (.tuple #[v, .int .i64 er]) ∧ ∀ w2, But (fun j => j = w.heap.size) w1 w2 → E er w2))) :
    Calls Tryz.prog 88 #[.pointer (some ⟨k, 0, none⟩), u32v n] w fun e w1 => ∃ (n1 : BitVec 32) (was : List (BitVec 32)) (er : Int), e = .returned (.tuple #[u32v n1, .agg (rowT was), .int .i64 er]) ∧ was.length = 64 ∧ ((er ≠ 0 ∧ E er w1) ∨ (er = 0 ∧ O n1 was w1)) := by
  have HZ : Hid (w.heap.size = w.heap.size) := rfl
  have HK : Hid (WalkAt w k (.pointer (some ⟨c, 0, none⟩)) f t holes vis) := hk
  have HT := hide hT
  have HG := hide hG
  clear hT hG hk
  have hi64 : (rowT Ino.zT).size = 64 := rfl
  by_cases hz : n = 0
  · subst hz
    have HT2 := hide (HT.out rfl)
    clear HT
    unfold u32v
    go_enter Tryz.func88, Tryz.ntmps88
    go_wp2_with (first | (refine wpList_allocT rfl rfl w.heap.size HZ ?_; intro w1 H1; refine Stop.out ?_))
    refine Stop.mk ?_
    have hk1 : WalkAt w1 k (.pointer (some ⟨c, 0, none⟩)) f t holes vis := (H1.out.2.1.block k HK.out.lt).trans HK.out
    have k0 : w1.cell? ⟨k, 0, none⟩ = some (.pointer (some ⟨c, 0, none⟩)) := by rw [cellOf hk1 0]; rfl
    have cT := HT2.out w1 H1.out.2.1 H1.out.1
    unfold u32v at cT
    clear HT2 HG hk1
    go_wp2_with (go_at_call 63; refine cT.mono ?_; rintro e w2 ⟨r, er, rfl, hl2, hb2, hO⟩; clear cT; refine Stop.out ?_)
    refine Stop.mk ?_
    have H2 : Hid (TabAt w2 w.heap.size Ino.zT ∧ Ino.zT.length = 64) := ⟨hb2.trans H1.out.1, rfl⟩
    have HO := hide hO
    clear hO hb2 k0
    go_wp2_with (first | (refine wpList_storeT rfl _ _ rfl w.heap.size rfl Ino.zT Ino.zT rfl H2 rfl ?_; intro H3; refine Stop.out ?_))
    refine Stop.mk ?_
    have hb : But (fun j => j = w.heap.size) w2 (w2.setRow w.heap.size (rowT Ino.zT)) := ⟨rfl, rfl, rfl, by simp, fun q _ hq => setRow_other w2 w.heap.size q _ hq⟩
    have HR := hide (HO.out _ hb)
    obtain ⟨w3, hw3⟩ : ∃ w3, w2.setRow w.heap.size (rowT Ino.zT) = w3 := ⟨_, rfl⟩
    rw [hw3] at HR H3 ⊢
    clear HO hb hw3 H2
    go_wp2
    refine bodyPost_ret (v := .tuple #[u32v r, .agg (rowT Ino.zT), .int .i64 er]) ?_ rfl ⟨r, Ino.zT, er, rfl, rfl, HR.out⟩
    refine (results_row3 rfl _ _ w.heap.size (rowT Ino.zT) rfl (loadT H3.out rfl)).trans ?_
    rfl
  · have q0 : ¬ (n.toNat : Int) = 0 := fun h => hz (BitVec.eq_of_toNat_eq (by simpa using h))
    have q3 : ((n.toNat : Int) == 0) = false := by rw [beq_eq_false_iff_ne]; exact q0
    have HG' := hide (HG.out hz)
    clear hz q0 HG HT
    unfold u32v
    go_enter Tryz.func88, Tryz.ntmps88
    go_wp2_with (first | (refine wpList_allocT rfl rfl w.heap.size HZ ?_; intro w1 H1; refine Stop.out ?_))
    refine Stop.mk ?_
    have hk1 : WalkAt w1 k (.pointer (some ⟨c, 0, none⟩)) f t holes vis := (H1.out.2.1.block k HK.out.lt).trans HK.out
    have k0 : w1.cell? ⟨k, 0, none⟩ = some (.pointer (some ⟨c, 0, none⟩)) := by rw [cellOf hk1 0]; rfl
    have cG := HG'.out w1 H1.out.2.1 H1.out.1
    unfold u32v at cG
    clear HG' hk1
    go_wp2_with (go_at_call 47; refine cG.mono ?_; rintro e w2 ⟨hb2, ⟨bs, g, cap, rfl, hby, hbl, hcap, hO⟩ | ⟨v, er, her, rfl, hO⟩⟩ <;> clear cG <;> refine Stop.out ?_)
    · refine Stop.mk ?_
      have H2 : Hid (TabAt w2 w.heap.size Ino.zT ∧ Ino.zT.length = 64) := ⟨hb2.trans H1.out.1, rfl⟩
      clear k0 hb2
      have cB := tableOf_any (some ⟨g, 0, none⟩) bs cap w2 hby (by omega) hbl
      have HO := hide hO
      have hlt : (tabOf bs).length = 64 := by simp [tabOf]
      clear hO hby hbl
      go_wp2_with (first | (go_at_call 108; refine cB.mono ?_; rintro e w3 ⟨rfl, hB3⟩; refine Stop.out ?_))
      refine Stop.mk ?_
      have H3 : Hid (TabAt w3 w.heap.size Ino.zT ∧ Ino.zT.length = 64) := ⟨(hB3.block _ H2.out.1.lt).trans H2.out.1, rfl⟩
      have HB3 := hide hB3
      clear cB hB3
      go_wp2_with (first | (refine wpList_storeT rfl _ _ rfl w.heap.size rfl Ino.zT (tabOf bs) rfl H3 hlt ?_; intro H4; refine Stop.out ?_))
      refine Stop.mk ?_
      have hb : But (fun j => j = w.heap.size) w2 (w3.setRow w.heap.size (rowT (tabOf bs))) := (But.of_below HB3.out).trans ⟨rfl, rfl, rfl, by simp, fun q _ hq => setRow_other w3 w.heap.size q _ hq⟩
      have HR := hide (HO.out _ hb)
      obtain ⟨w4, hw4⟩ : ∃ w4, w3.setRow w.heap.size (rowT (tabOf bs)) = w4 := ⟨_, rfl⟩
      rw [hw4] at HR H4 ⊢
      clear HO hb hw4 H2 H3
      go_wp2
      refine bodyPost_ret (v := .tuple #[u32v n, .agg (rowT (tabOf bs)), .int .i64 0]) ?_ rfl ⟨n, tabOf bs, 0, rfl, hlt, .inr ⟨rfl, HR.out⟩⟩
      refine (results_row3 rfl _ _ w.heap.size (rowT (tabOf bs)) rfl (loadT H4.out hlt)).trans ?_
      rfl
    · refine Stop.mk ?_
      have H2 : Hid (TabAt w2 w.heap.size Ino.zT ∧ Ino.zT.length = 64) := ⟨hb2.trans H1.out.1, rfl⟩
      clear k0 hb2
      have HO := hide hO
      have q1 : (er != 0) = true := by simp [her]
      have q2 : (er == 0) = false := by simp [her]
      clear hO
      go_wp2_with (first | (refine wpList_storeT rfl _ _ rfl w.heap.size rfl Ino.zT Ino.zT rfl H2 rfl ?_; intro H3; refine Stop.out ?_))
      refine Stop.mk ?_
      have hb : But (fun j => j = w.heap.size) w2 (w2.setRow w.heap.size (rowT Ino.zT)) := ⟨rfl, rfl, rfl, by simp, fun q _ hq => setRow_other w2 w.heap.size q _ hq⟩
      have HR := hide (HO.out _ hb)
      obtain ⟨w3, hw3⟩ : ∃ w3, w2.setRow w.heap.size (rowT Ino.zT) = w3 := ⟨_, rfl⟩
      rw [hw3] at HR H3 ⊢
      clear HO hb hw3 H2
      go_wp2
      refine bodyPost_ret (v := .tuple #[u32v 0, .agg (rowT Ino.zT), .int .i64 er]) ?_ rfl ⟨0, Ino.zT, er, rfl, rfl, .inl ⟨her, HR.out⟩⟩
      refine (results_row3 rfl _ _ w.heap.size (rowT Ino.zT) rfl (loadT H3.out rfl)).trans ?_
      rfl

end Go.Proofs.YtebdgcoandfocaaGreatDoor

/-
  Package inode: level, through and over as functions of what the hands do.
-/
namespace Go.Proofs.YtebdgcoandfocaaGreatDoor
open Go.RowKit

/-- Tables, lists of numbers and walks that lie in memory are kept, but the one in block x. -/
def wkT (t : TypeId) : Prop := t = 145 ∨ t = 55 ∨ t = 81
def Kp (x : Option Nat) (w w' : World) : Prop := w.heap.size ≤ w'.heap.size ∧ ∀ g cs t fr, w.heap[g]? = some (.cells cs t fr) → wkT t → some g ≠ x → w'.heap[g]? = some (.cells cs t fr)
theorem Kp.refl (x : Option Nat) (w : World) : Kp x w w := ⟨Nat.le_refl _, fun _ _ _ _ h _ _ => h⟩
theorem Kp.trans {x : Option Nat} {a b c : World} (h1 : Kp x a b) (h2 : Kp x b c) : Kp x a c := ⟨Nat.le_trans h1.1 h2.1, fun g cs t fr h ht hx => h2.2 g cs t fr (h1.2 g cs t fr h ht hx) ht hx⟩
theorem Kp.below {x : Option Nat} {a b : World} (h : Below a.heap.size a b) : Kp x a b := ⟨h.size, fun g _ _ _ hg _ _ => (h.block g (Array.getElem?_eq_some_iff.1 hg).1).trans hg⟩
theorem Kp.mono {x : Option Nat} {a b : World} (h : Kp none a b) : Kp x a b := ⟨h.1, fun g cs t fr hg ht _ => h.2 g cs t fr hg ht (by simp)⟩
theorem Kp.high {y : Nat} {a b c : World} (h1 : Kp none a b) (h2 : Kp (some y) b c) (hy : a.heap.size ≤ y) : Kp none a c :=
  ⟨Nat.le_trans h1.1 h2.1, fun g cs t fr h ht hx => h2.2 g cs t fr (h1.2 g cs t fr h ht hx) ht (fun e => by
    have := (Array.getElem?_eq_some_iff.1 h).1
    cases e; omega)⟩
theorem Kp.set {g : Nat} (w : World) (i : Nat) (v : Value) : Kp (some g) w (w.setCell ⟨g, i, none⟩ v) := ⟨by simp, fun q _ _ _ h _ hx => (heap_setCell_other _ _ _ _ (fun e => hx (by rw [e]))).trans h⟩
theorem Kp.row {x : Option Nat} {a b : World} (h : Kp x a b) {g : Nat} {ns : List (BitVec 32)} {tt : TypeId} (hr : RowU a g ns tt) (ht : wkT tt) (hx : some g ≠ x) : RowU b g ns tt := h.2 g _ _ _ hr ht hx
theorem Kp.walk {x : Option Nat} {a b : World} (h : Kp x a b) {k f t : Nat} {ch vis : Value} {holes : Bool} (hk : WalkAt a k ch f t holes vis) (hx : some k ≠ x) : WalkAt b k ch f t holes vis := h.2 k _ _ _ hk (.inr (.inr rfl)) hx
theorem walk_ne {w : World} {k g f t : Nat} {ch vis : Value} {holes : Bool} {ns : List (BitVec 32)} {tt : TypeId} (hk : WalkAt w k ch f t holes vis) (hr : RowU w g ns tt) (ht : tt = 145 ∨ tt = 55) : k ≠ g := fun e => by
  subst e
  have h1 : w.heap[k]? = _ := hk
  rw [show w.heap[k]? = _ from hr] at h1
  simp only [Option.some.injEq, Obj.cells.injEq] at h1
  rcases ht with rfl | rfl
  · exact absurd h1.2.1 (by decide)
  · exact absurd h1.2.1 (by decide)
theorem RowU.set {w : World} {g : Nat} {ns : List (BitVec 32)} {tt : TypeId} (h : RowU w g ns tt) (i : Nat) (n : BitVec 32) : RowU (w.setCell ⟨g, i, none⟩ (u32v n)) g (ns.set i n) tt := by
  unfold RowU at *
  simp [World.setCell, Array.getElem?_modify, h, List.map_set]

def tabT (t : TypeId) : Prop := t = 145 ∨ t = 55
/-- Hands of which all is known: their state is s. -/
structure Hands {σ : Type} (o : Ino.Ops σ) (vis : Ino.Stp σ) (c V lo f t : Nat) (rec : Value) (holes : Bool) (J : σ → World → Prop) (m : σ → Nat) (lim : Nat) : Prop where
  cost : Ino.Cost o m
  cvis : ∀ p n s, m (vis p n s).2.2 ≤ m s + 4
  len : ∀ s n, (o.get s n).1.length = 64 ∨ (o.get s n).2.1 ≠ 0
  low : ∀ s w, J s w → lo ≤ w.heap.size
  tab : ∀ s w w' S, J s w → But S w w' → (∀ k, S k → lo ≤ k ∧ ∃ cs t fr, w.heap[k]? = some (.cells cs t fr) ∧ tabT t) → J s w'
  enter : ∀ args w, (callFunc V args).run Tryz.prog w = .ok (.enter V args) w
  take : ∀ s w, J s w → m s < lim → holes = true → Calls Tryz.prog 63 #[.pointer (some ⟨c, 0, none⟩)] w fun e w' => e = .returned (.tuple #[u32v (o.take s).1, .int .i64 (o.take s).2.1]) ∧ J (o.take s).2.2 w' ∧ Kp none w w'
  get : ∀ s w n, J s w → m s < lim → n ≠ 0 → Calls Tryz.prog 47 #[.pointer (some ⟨c, 0, none⟩), u32v n] w fun e w' => J (o.get s n).2.2 w' ∧ Kp none w w' ∧ ((∃ bs g cap, (o.get s n).2.1 = 0 ∧ e = .returned (.tuple #[.slice (some ⟨g, 0, none⟩) 512 cap, .int .i64 0]) ∧ Bytes w' (some ⟨g, 0, none⟩) bs ∧ bs.length = 512 ∧ 512 ≤ cap ∧ (o.get s n).1 = tabOf bs) ∨ ((o.get s n).2.1 ≠ 0 ∧ ∃ v, e = .returned (.tuple #[v, .int .i64 (o.get s n).2.1])))
  give : ∀ s w n, J s w → m s < lim → Calls Tryz.prog 45 #[.pointer (some ⟨c, 0, none⟩), u32v n] w fun e w' => e = .returned (.tuple #[]) ∧ J (o.give s n) w' ∧ Kp none w w'
  put : ∀ s w n bs g, J s w → m s < lim → bs.length = 512 → w.heap[g]? = some (.cells (bs.map u8v).toArray 5 (0, 0)) → lo ≤ g → Calls Tryz.prog 64 #[.pointer (some ⟨c, 0, none⟩), u32v n, .slice (some ⟨g, 0, none⟩) 512 512] w fun e w' => e = .returned (.tuple #[]) ∧ J (o.put s n bs) w' ∧ Kp none w w'
  visit : ∀ s w p n, J s w → m s + 4 ≤ lim → f ≤ p → p < t → Calls Tryz.prog V #[rec, .int .i64 (p : Nat), u32v n] w fun e w' => e = .returned (.tuple #[u32v (vis p n s).1, .int .i64 (vis p n s).2.1]) ∧ J (vis p n s).2.2 w' ∧ Kp none w w'

section
variable {σ : Type} {o : Ino.Ops σ} {vis : Ino.Stp σ} {c V lo f t : Nat} {rec : Value} {holes : Bool} {J : σ → World → Prop} {m : σ → Nat} {lim : Nat}
theorem Hands.below (H : Hands o vis c V lo f t rec holes J m lim) {s : σ} {w w' : World} (h : J s w) (hb : Below w.heap.size w w') : J s w' := H.tab s w w' (fun _ => False) h (But.of_below hb) (fun _ h => h.elim)
theorem Hands.cell (H : Hands o vis c V lo f t rec holes J m lim) {s : σ} {w : World} {g : Nat} {ns : List (BitVec 32)} {tt : TypeId} (h : J s w) (hr : RowU w g ns tt) (ht : tabT tt) (hg : lo ≤ g) (i : Nat) (v : Value) : J s (w.setCell ⟨g, i, none⟩ v) :=
  H.tab s w _ (fun k => k = g) h ((But.refl (fun k => k = g) w).setCell ⟨g, i, none⟩ rfl v) (fun k e => by subst e; exact ⟨hg, _, _, _, hr, ht⟩)

theorem set_mid {ns pre : List (BitVec 32)} {o' i : Nat} {n' : BitVec 32} (hp : pre.length = i) (h : o' + i < ns.length) : (ns.take o' ++ pre ++ ns.drop (o' + i)).set (o' + i) n' = ns.take o' ++ (pre ++ [n']) ++ ns.drop (o' + (i + 1)) := by
  have hl : (ns.take o' ++ pre).length = o' + i := by rw [List.length_append, List.length_take, hp]; omega
  rw [List.set_append_right _ _ (by omega), hl, Nat.sub_self, List.drop_eq_getElem_cons h, List.set_cons_zero]
  simp [Nat.add_assoc]
theorem get_mid {ns pre : List (BitVec 32)} {o' i : Nat} (hp : pre.length = i) (h : o' + i < ns.length) : (ns.take o' ++ pre ++ ns.drop (o' + i))[o' + i]? = ns[o' + i]? := by
  have hl : (ns.take o' ++ pre).length = o' + i := by rw [List.length_append, List.length_take, hp]; omega
  rw [List.getElem?_append_right (by omega), hl, Nat.sub_self, List.getElem?_drop, Nat.add_zero]
theorem set_self {l : List (BitVec 32)} {i : Nat} {n : BitVec 32} (h : l[i]? = some n) : l.set i n = l := by
  obtain ⟨h1, rfl⟩ := List.getElem?_eq_some_iff.1 h
  exact List.set_getElem_self h1
theorem len_mid {ns pre : List (BitVec 32)} {o' i : Nat} (hp : pre.length = i) (h : o' + i ≤ ns.length) : (ns.take o' ++ pre ++ ns.drop (o' + i)).length = ns.length := by
  rw [List.length_append, List.length_append, List.length_take, List.length_drop, hp]; omega

/-- What is known within a level. -/
def LvJ (c k g o' len first sp f t : Nat) (vs : Value) (holes : Bool) (tt : TypeId) (J : σ → World → Prop) (m : σ → Nat) (K : Nat) (step : Ino.Stp σ) (ns : List (BitVec 32)) (s : σ) (w : World) (i : Nat) (ms : List (BitVec 32)) (w' : World) : Prop :=
  ∃ s' pre, J s' w' ∧ WalkAt w' k (.pointer (some ⟨c, 0, none⟩)) f t holes vs ∧ RowU w' g ms tt ∧ ms = ns.take o' ++ pre ++ ns.drop (o' + i) ∧ Ino.At step f t first sp ((ns.drop o').take len) s i pre s' ∧ Kp (some g) w w' ∧ m s' ≤ m s + i * K
def LvE (g o' len first sp f t : Nat) (J : σ → World → Prop) (step : Ino.Stp σ) (ns : List (BitVec 32)) (s : σ) (w : World) (er : Int) (w' : World) : Prop :=
  ∃ s', (Ino.lev step f t first sp ((ns.drop o').take len) 0 s).2 = (er, s') ∧ J s' w' ∧ Kp (some g) w w'
def LvP (g o' len first sp f t : Nat) (tt : TypeId) (J : σ → World → Prop) (step : Ino.Stp σ) (ns : List (BitVec 32)) (s : σ) (w : World) (e : Ending) (w' : World) : Prop :=
  ∃ l er s', Ino.lev step f t first sp ((ns.drop o').take len) 0 s = (l, er, s') ∧ e = .returned (.int .i64 er) ∧ J s' w' ∧ Kp (some g) w w' ∧ (er = 0 → RowU w' g (ns.take o' ++ l ++ ns.drop (o' + len)) tt)

theorem lv_post {g o' len first sp f t : Nat} {tt : TypeId} {J : σ → World → Prop} {step : Ino.Stp σ} {ns : List (BitVec 32)} {s : σ} {w : World} {k c : Nat} {vs : Value} {holes : Bool} {m : σ → Nat} {K : Nat} (hlen : o' + len ≤ ns.length) {e : Ending} {w' : World}
    (h : (e = .returned (.int .i64 0) ∧ ∃ ns', LvJ c k g o' len first sp f t vs holes tt J m K step ns s w len ns' w') ∨ (∃ er : Int, er ≠ 0 ∧ e = .returned (.int .i64 er) ∧ LvE g o' len first sp f t J step ns s w er w')) : LvP g o' len first sp f t tt J step ns s w e w' := by
  rcases h with ⟨rfl, ns', s', pre, hJ, _, hr, rfl, hA, hK, _⟩ | ⟨er, her, rfl, s', h1, h2, h3⟩
  · have hl : ((ns.drop o').take len).length = len := by rw [List.length_take, List.length_drop]; omega
    exact ⟨pre, 0, s', hA.done hl.symm, rfl, hJ, hK, fun _ => hr⟩
  · cases hx : Ino.lev step f t first sp ((ns.drop o').take len) 0 s with
    | mk l r =>
      rw [hx] at h1
      obtain rfl : r = (er, s') := h1
      exact ⟨l, er, s', hx, rfl, h2, h3, fun h => absurd h her⟩

theorem seg_get {ns : List (BitVec 32)} {o' len i : Nat} {n : BitVec 32} (hi : i < len) (h : ns[o' + i]? = some n) : ((ns.drop o').take len)[i]? = some n := by
  rw [List.getElem?_take, if_pos hi, List.getElem?_drop]; exact h

theorem level_J (H : Hands o vis c V lo f t rec holes J m lim) (k g o' len first cp : Nat) (tt : TypeId) (htt : tabT tt) (ns : List (BitVec 32)) (s : σ) (w : World) (hk : WalkAt w k (.pointer (some ⟨c, 0, none⟩)) f t holes (.func (.func V) #[rec] #[])) (hr : RowU w g ns tt) (hol : o' + len ≤ ns.length) (hlen : len ≤ 64) (hfi : first ≤ 100000) (hJ : J s w) (hlo : lo ≤ g) (hm : m s + len * 4 ≤ lim) :
    Calls Tryz.prog 46 #[.pointer (some ⟨k, 0, none⟩), .slice (some ⟨g, o', none⟩) len cp, .int .i64 (first : Nat), .int .i64 1] w fun e w' => LvP g o' len first 1 f t tt J vis ns s w e w' := by
  have hkg := walk_ne hk hr htt
  have hwk : wkT tt := by rcases htt with h | h; exact .inl h; exact .inr (.inl h)
  have hS : Steps k g o' len first f t ns.length (.pointer (some ⟨c, 0, none⟩)) rec holes V tt (LvJ c k g o' len first 1 f t (.func (.func V) #[rec] #[]) holes tt J m 4 vis ns s w) (LvE g o' len first 1 f t J vis ns s w) := by
    refine ⟨?_, ?_, ?_, ?_⟩
    · rintro i ms w' ⟨s', pre, h1, h2, _⟩; exact h2
    · rintro i ms w' ⟨s', pre, h1, h2, h3, rfl, h5, h6, h7⟩
      have hl5 := h5.1
      rw [List.length_take, List.length_drop] at hl5
      exact ⟨h3, len_mid h5.2.1 (by omega)⟩
    · rintro i ms w' hi hc ⟨s', pre, h1, h2, h3, rfl, h5, h6, h7⟩
      have hn : ∃ n, ns[o' + i]? = some n := ⟨_, List.getElem?_eq_getElem (by omega)⟩
      obtain ⟨n, hn⟩ := hn
      refine ⟨s', pre ++ [n], h1, h2, h3, ?_, h5.skip (seg_get hi hn) (by rw [Nat.mul_one]; exact hc), h6, by omega⟩
      rw [← set_mid (n' := n) h5.2.1 (by omega : o' + i < ns.length), set_self (by rw [get_mid h5.2.1 (by omega)]; exact hn)]
    · rintro i ms w' n hi hf1 ht1 hn ⟨s', pre, h1, h2, h3, rfl, h5, h6, h7⟩
      rw [get_mid h5.2.1 (by omega)] at hn
      have hc : ¬ (first + i * 1 + 1 ≤ f ∨ t ≤ first + i * 1) := by omega
      have hcv := H.cvis (first + i) n s'
      refine (H.visit s' w' (first + i) n h1 (by omega) hf1 ht1).mono ?_
      rintro e w1 ⟨rfl, hJ1, hK1⟩
      have hr1 := hK1.row h3 hwk (by simp)
      have hk1 := hK1.walk h2 (by simp)
      refine ⟨_, _, rfl, hr1, ?_⟩
      have hJ2 := H.cell hJ1 hr1 htt hlo (o' + i) (u32v (vis (first + i) n s').1)
      have hK2 : Kp (some g) w (w1.setCell ⟨g, o' + i, none⟩ (u32v (vis (first + i) n s').1)) := (h6.trans hK1.mono).trans (Kp.set _ _ _)
      have hst : vis (first + i * 1) n s' = ((vis (first + i) n s').1, (vis (first + i) n s').2.1, (vis (first + i) n s').2.2) := by rw [Nat.mul_one]
      by_cases her : (vis (first + i) n s').2.1 = 0
      · refine .inl ⟨her, _, pre ++ [(vis (first + i) n s').1], hJ2, (Kp.set (g := g) _ _ _).walk hk1 (fun e => hkg (by simpa using e)), hr1.set _ _, set_mid h5.2.1 (by omega), ?_, hK2, by omega⟩
        rw [her] at hst
        exact h5.go (seg_get hi hn) hc hst
      · exact .inr ⟨her, _, h5.err (seg_get hi hn) hc hst her, hJ2, hK2⟩
  refine (level_visit hS H.enter hol hlen hfi w ns ⟨s, [], hJ, hk, hr, by simp, Ino.At.start _ _, Kp.refl _ _, by omega⟩).mono ?_
  intro e w' h
  exact lv_post hol h

/-- A level over blocks of numbers, if through is known. -/
theorem levelT_J (H : Hands o vis c V lo f t rec holes J m lim) (step : Ino.Stp σ) (K : Nat) (hK : ∀ p n s, m (step p n s).2.2 ≤ m s + K) (k g o' len first sp cp : Nat) (vs : Value) (tt : TypeId) (htt : tabT tt) (ns : List (BitVec 32)) (s : σ) (w : World) (hk : WalkAt w k (.pointer (some ⟨c, 0, none⟩)) f t holes vs) (hr : RowU w g ns tt) (hol : o' + len ≤ ns.length) (hlen : len ≤ 64) (hfi : first ≤ 100000) (hs1 : 1 < sp) (hs2 : sp ≤ 4096) (hJ : J s w) (hlo : lo ≤ g) (hm : m s + len * K ≤ lim)
    (hT : ∀ s' w' i n, J s' w' → m s' + K ≤ lim → WalkAt w' k (.pointer (some ⟨c, 0, none⟩)) f t holes vs → i < len → f < first + i * sp + sp → first + i * sp < t → Calls Tryz.prog 67 #[.pointer (some ⟨k, 0, none⟩), .int .i64 ((first + i * sp : Nat) : Int), u32v n, .int .i64 ((sp / 64 : Nat) : Int)] w' fun e w1 => e = .returned (.tuple #[u32v (step (first + i * sp) n s').1, .int .i64 (step (first + i * sp) n s').2.1]) ∧ J (step (first + i * sp) n s').2.2 w1 ∧ Kp none w' w1) :
    Calls Tryz.prog 46 #[.pointer (some ⟨k, 0, none⟩), .slice (some ⟨g, o', none⟩) len cp, .int .i64 (first : Nat), .int .i64 (sp : Nat)] w fun e w' => LvP g o' len first sp f t tt J step ns s w e w' := by
  have hkg := walk_ne hk hr htt
  have hwk : wkT tt := by rcases htt with h | h; exact .inl h; exact .inr (.inl h)
  have hS : StepsT k g o' len first sp f t ns.length (.pointer (some ⟨c, 0, none⟩)) vs holes tt (LvJ c k g o' len first sp f t vs holes tt J m K step ns s w) (LvE g o' len first sp f t J step ns s w) := by
    refine ⟨?_, ?_, ?_, ?_⟩
    · rintro i ms w' ⟨s', pre, h1, h2, _⟩; exact h2
    · rintro i ms w' ⟨s', pre, h1, h2, h3, rfl, h5, h6, h7⟩
      have hl5 := h5.1
      rw [List.length_take, List.length_drop] at hl5
      exact ⟨h3, len_mid h5.2.1 (by omega)⟩
    · rintro i ms w' hi hc ⟨s', pre, h1, h2, h3, rfl, h5, h6, h7⟩
      have hn : ∃ n, ns[o' + i]? = some n := ⟨_, List.getElem?_eq_getElem (by omega)⟩
      obtain ⟨n, hn⟩ := hn
      refine ⟨s', pre ++ [n], h1, h2, h3, ?_, h5.skip (seg_get hi hn) hc, h6, by rw [Nat.add_mul]; omega⟩
      rw [← set_mid (n' := n) h5.2.1 (by omega : o' + i < ns.length), set_self (by rw [get_mid h5.2.1 (by omega)]; exact hn)]
    · rintro i ms w' n hi hf1 ht1 hn ⟨s', pre, h1, h2, h3, rfl, h5, h6, h7⟩
      rw [get_mid h5.2.1 (by omega)] at hn
      have hc : ¬ (first + i * sp + sp ≤ f ∨ t ≤ first + i * sp) := by omega
      have hcv := hK (first + i * sp) n s'
      have hik : i * K + K ≤ len * K := by rw [← Nat.succ_mul]; exact Nat.mul_le_mul_right K hi
      refine (hT s' w' i n h1 (by omega) h2 hi hf1 ht1).mono ?_
      rintro e w1 ⟨rfl, hJ1, hK1⟩
      have hr1 := hK1.row h3 hwk (by simp)
      have hk1 := hK1.walk h2 (by simp)
      refine ⟨_, _, rfl, hr1, ?_⟩
      have hJ2 := H.cell hJ1 hr1 htt hlo (o' + i) (u32v (step (first + i * sp) n s').1)
      have hK2 : Kp (some g) w (w1.setCell ⟨g, o' + i, none⟩ (u32v (step (first + i * sp) n s').1)) := (h6.trans hK1.mono).trans (Kp.set _ _ _)
      by_cases her : (step (first + i * sp) n s').2.1 = 0
      · refine .inl ⟨her, _, pre ++ [(step (first + i * sp) n s').1], hJ2, (Kp.set (g := g) _ _ _).walk hk1 (fun e => hkg (by simpa using e)), hr1.set _ _, set_mid h5.2.1 (by omega), ?_, hK2, by rw [Nat.succ_mul]; omega⟩
        exact h5.go (seg_get hi hn) hc (by rw [← her])
      · exact .inr ⟨her, _, h5.err (seg_get hi hn) hc rfl her, hJ2, hK2⟩
  refine (level_through hS hol hlen hfi hs1 hs2 w ns ⟨s, [], hJ, hk, hr, by simp, Ino.At.start _ _, Kp.refl _ _, by omega⟩).mono ?_
  intro e w' h
  exact lv_post hol h

end

end Go.Proofs.YtebdgcoandfocaaGreatDoor

/-
  Package inode: through and over as functions of what the hands do.
-/
namespace Go.Proofs.YtebdgcoandfocaaGreatDoor
open Go.RowKit

section
variable {σ : Type} {o : Ino.Ops σ} {vis : Ino.Stp σ} {c V lo f t : Nat} {rec : Value} {holes : Bool} {J : σ → World → Prop} {m : σ → Nat} {lim : Nat}

/-- What a level of 64 numbers leaves, as through asks it. -/
def LvT (g : Nat) (J : σ → World → Prop) (lv : List (BitVec 32) → σ → List (BitVec 32) × Int × σ) (was : List (BitVec 32)) (s : σ) (w : World) (e : Ending) (w' : World) : Prop :=
  ∃ l er s', lv was s = (l, er, s') ∧ l.length = 64 ∧ e = .returned (.int .i64 er) ∧ J s' w' ∧ Kp (some g) w w' ∧ (er = 0 → TabAt w' g l)

theorem through_J (H : Hands o vis c V lo f t rec holes J m lim) (lv : List (BitVec 32) → σ → List (BitVec 32) × Int × σ) (K : Nat) (hK : ∀ l s, (l.length = 64 → m (lv l s).2.2 ≤ m s + K)) (k place q : Nat) (n : BitVec 32) (vs : Value) (s : σ) (w : World) (hk : WalkAt w k (.pointer (some ⟨c, 0, none⟩)) f t holes vs) (hJ : J s w) (hm : m s + (K + 2) ≤ lim)
    (hL : ∀ was s1 w1 g, was.length = 64 → J s1 w1 → m s1 + K ≤ lim → WalkAt w1 k (.pointer (some ⟨c, 0, none⟩)) f t holes vs → TabAt w1 g was → lo ≤ g → Calls Tryz.prog 46 #[.pointer (some ⟨k, 0, none⟩), .slice (some ⟨g, 0, none⟩) 64 64, .int .i64 (place : Nat), .int .i64 (q : Nat)] w1 fun e w' => LvT g J lv was s1 w1 e w') :
    Calls Tryz.prog 67 #[.pointer (some ⟨k, 0, none⟩), .int .i64 (place : Nat), u32v n, .int .i64 (q : Nat)] w fun e w' => e = .returned (.tuple #[u32v (Ino.thr o holes lv n s).1, .int .i64 (Ino.thr o holes lv n s).2.1]) ∧ J (Ino.thr o holes lv n s).2.2 w' ∧ Kp none w w' := by
  have hlo := H.low s w hJ
  have hmo := Ino.opn_cost H.cost n s
  by_cases hc : n = 0 ∧ holes = false
  · obtain ⟨rfl, rfl⟩ := hc
    refine (through_hole k place q f t _ vs w hk).mono ?_
    rintro e w' ⟨rfl, hb⟩
    rw [Ino.thr_hole rfl rfl]
    exact ⟨rfl, H.below hJ hb, Kp.below hb⟩
  · have hT0 : ∀ W, Below w.heap.size w W → TabAt W w.heap.size Ino.zT → ∀ s1 w1 w2, J s1 w1 → Kp none W w1 → But (fun j => j = w.heap.size) w1 w2 → J s1 w2 ∧ Kp none w w2 := by
      intro W hW hTW s1 w1 w2 h1 hK hb
      have hT1 : TabAt w1 w.heap.size Ino.zT := hK.2 _ _ _ _ hTW (.inl rfl) (by simp)
      refine ⟨H.tab s1 w1 w2 _ h1 hb (fun j hj => by subst hj; exact ⟨hlo, _, _, _, hT1, .inl rfl⟩), ?_⟩
      have h2 : Kp (some w.heap.size) w1 w2 := ⟨hb.size, fun g cs t fr hg _ hx => (hb.block g (Array.getElem?_eq_some_iff.1 hg).1 (fun e => hx (by rw [e]))).trans hg⟩
      exact ((Kp.below hW).trans hK).high h2 (Nat.le_refl _)
    have cO := open_any k f t c n holes vs w (fun er w' => ∃ s' n1 was, Ino.opn o n s = (n1, was, er, s') ∧ J s' w' ∧ Kp none w w') (fun n1 was w' => ∃ s', Ino.opn o n s = (n1, was, 0, s') ∧ J s' w' ∧ Kp none w w') hk
      (fun hn W hW hTW => by
        have hh : holes = true := by
          cases hx : holes with
          | true => rfl
          | false => exact absurd ⟨hn, hx⟩ hc
        refine (H.take s W (H.below hJ hW) (by omega) hh).mono ?_
        rintro e w1 ⟨rfl, h1, hK⟩
        have hop : Ino.opn o n s = ((o.take s).1, Ino.zT, (o.take s).2.1, (o.take s).2.2) := by unfold Ino.opn; rw [if_pos hn]
        have hWl := hTW.lt
        refine ⟨_, _, rfl, by have := hK.1; omega, (hK.2 _ _ _ _ hTW (.inl rfl) (by simp)).trans hTW.symm, fun w2 hb => ?_⟩
        obtain ⟨h2, hK2⟩ := hT0 W hW hTW _ w1 w2 h1 hK hb
        by_cases her : (o.take s).2.1 = 0
        · refine .inr ⟨her, _, ?_, h2, hK2⟩
          rw [her] at hop; exact hop
        · exact .inl ⟨her, _, _, _, hop, h2, hK2⟩)
      (fun hn W hW hTW => by
        refine (H.get s W n (H.below hJ hW) (by omega) hn).mono ?_
        rintro e w1 ⟨h1, hK, hres⟩
        refine ⟨(hK.2 _ _ _ _ hTW (.inl rfl) (by simp)).trans hTW.symm, ?_⟩
        rcases hres with ⟨bs, g, cap, he, rfl, hby, hbl, hcap, htab⟩ | ⟨he, v, rfl⟩
        · refine .inl ⟨bs, g, cap, rfl, hby, hbl, hcap, fun w2 hb => ?_⟩
          obtain ⟨h2, hK2⟩ := hT0 W hW hTW _ w1 w2 h1 hK hb
          refine ⟨_, ?_, h2, hK2⟩
          unfold Ino.opn
          rw [if_neg hn, if_pos he, ← htab, ← he]
        · refine .inr ⟨v, _, he, rfl, fun w2 hb => ?_⟩
          obtain ⟨h2, hK2⟩ := hT0 W hW hTW _ w1 w2 h1 hK hb
          refine ⟨_, 0, Ino.zT, ?_, h2, hK2⟩
          unfold Ino.opn
          rw [if_neg hn, if_neg he])
    have cA := through_any k place q f t c n vs holes w (fun er w' => ∃ s', Ino.thr o holes lv n s = (0, er, s') ∧ J s' w' ∧ Kp none w w') (fun n1 was w' => ∃ s', Ino.opn o n s = (n1, was, 0, s') ∧ J s' w' ∧ Kp none w w')
      (fun n1 was now w' => ∃ s1 s2, Ino.opn o n s = (n1, was, 0, s1) ∧ lv was s1 = (now, 0, s2) ∧ J s2 w' ∧ Kp none w w' ∧ was.length = 64) (fun n' w' => ∃ s', Ino.thr o holes lv n s = (n', 0, s') ∧ J s' w' ∧ Kp none w w') hk
      (by by_cases hn : n = 0
          · refine .inr ?_
            cases hx : holes with
            | true => rfl
            | false => exact absurd ⟨hn, hx⟩ hc
          · exact .inl hn)
      (cO.mono (by
        rintro e w1 ⟨n1, was, er, rfl, hl, hres⟩
        refine ⟨n1, was, er, rfl, hl, ?_⟩
        rcases hres with ⟨her, s', n1', was', h1, h2, h3⟩ | h
        · exact .inl ⟨her, s', Ino.thr_open hc h1 her, h2, h3⟩
        · exact .inr h))
      (by
        rintro er w1 w2 ⟨s', h1, h2, h3⟩ hb
        exact ⟨s', h1, H.below h2 hb, h3.trans (Kp.below hb)⟩)
      (by
        rintro n1 was w1 hl ⟨s1, ho, h1, hK1⟩ w5 b hb hB hT hs hTb
        have hB' : Below w1.heap.size w1 w5 := by rw [hb]; exact hB
        have hK5 : Kp none w w5 := hK1.trans (Kp.below hB')
        have hk5 := hK5.walk hk (by simp)
        have hs1 := H.low s1 w1 h1
        rw [ho] at hmo
        have hmo : m s1 ≤ m s + 1 := hmo
        refine (hL was s1 w5 (b + 1) hl (H.below h1 hB') (by omega) hk5 hT (by omega)).mono ?_
        rintro e w6 ⟨l, er, s2, hlv, hll, rfl, h6, hK6, hT6⟩
        have hw1 := hK1.1
        have hKw : Kp none w w6 := hK5.high hK6 (by omega)
        refine ⟨er, rfl, ?_⟩
        by_cases her : er = 0
        · subst her
          refine .inr ⟨rfl, l, hll, hT6 rfl, (hK6.2 _ _ _ _ hTb (.inl rfl) (by simp)).trans hTb.symm, hKw.walk hk (by simp), s1, s2, ho, hlv, h6, hKw, hl⟩
        · exact .inl ⟨her, s2, Ino.thr_level hc ho hlv her, h6, hKw⟩)
      (by
        rintro n1 was now w6 ⟨s1, s2, ho, hlv, h6, hK0, hwl⟩ hz
        rw [ho] at hmo
        have hmo : m s1 ≤ m s + 1 := hmo
        have hml := hK was s1 hwl
        rw [hlv] at hml
        have hml : m s2 ≤ m s1 + K := hml
        refine (H.give s2 w6 n1 h6 (by omega)).mono ?_
        rintro e w7 ⟨rfl, h7, hK7⟩
        exact ⟨rfl, _, Ino.thr_give hc ho hlv hz, h7, hK0.trans hK7⟩)
      (by
        rintro n1 was now w6 ⟨s1, s2, ho, hlv, h6, hK0, hwl⟩ hll hz hw w7 g hB hg hd
        have hs6 := H.low s2 w6 h6
        rw [ho] at hmo
        have hmo : m s1 ≤ m s + 1 := hmo
        have hml := hK was s1 hwl
        rw [hlv] at hml
        have hml : m s2 ≤ m s1 + K := hml
        refine (H.put s2 w7 n1 (Ino.tabB now) g (H.below h6 hB) (by omega) (by have := tabPart_length now hll 64 (Nat.le_refl _); rwa [tabPart_full now hll] at this) hd (by omega)).mono ?_
        rintro e w8 ⟨rfl, h8, hK8⟩
        exact ⟨rfl, _, Ino.thr_put hc ho hlv hz hw, h8, (hK0.trans (Kp.below hB)).trans hK8⟩)
      (by
        rintro n1 was now w6 ⟨s1, s2, ho, hlv, h6, hK0, hwl⟩ hz hw
        exact ⟨_, Ino.thr_same hc ho hlv hz hw, h6, hK0⟩)
    refine cA.mono ?_
    rintro e w' ⟨n', er, rfl, ⟨her, rfl, s', h1, h2, h3⟩ | ⟨rfl, s', h1, h2, h3⟩⟩
    · rw [h1]; exact ⟨rfl, h2, h3⟩
    · rw [h1]; exact ⟨rfl, h2, h3⟩

theorem thr1_cost (H : Hands o vis c V lo f t rec holes J m lim) (p : Nat) (n : BitVec 32) (s : σ) : m (Ino.thr1 o holes f t vis p n s).2.2 ≤ m s + 258 :=
  Ino.thr_cost (K := 256) H.cost (fun l s hl => by
    have := Ino.lev_cost (step := vis) (f := f) (t := t) (first := p) (sp := 1) m 4 H.cvis l 0 s
    rw [hl] at this; exact this) H.len n s
theorem thr2_cost (H : Hands o vis c V lo f t rec holes J m lim) (p : Nat) (n : BitVec 32) (s : σ) : m (Ino.thr2 o holes f t vis p n s).2.2 ≤ m s + 16514 :=
  Ino.thr_cost (K := 16512) H.cost (fun l s hl => by
    have := Ino.lev_cost (step := Ino.thr1 o holes f t vis) (f := f) (t := t) (first := p) (sp := 64) m 258 (thr1_cost H) l 0 s
    rw [hl] at this; exact this) H.len n s
theorem rowNums {w : World} {g : Nat} {ns : List (BitVec 32)} : RowU w g ns 55 ↔ NumsAt w g ns := Iff.rfl

/-- through over the blocks of a file. -/
theorem through1_J (H : Hands o vis c V lo f t rec holes J m lim) (k place : Nat) (n : BitVec 32) (s : σ) (w : World) (hp : place ≤ 100000) (hk : WalkAt w k (.pointer (some ⟨c, 0, none⟩)) f t holes (.func (.func V) #[rec] #[])) (hJ : J s w) (hm : m s + 258 ≤ lim) :
    Calls Tryz.prog 67 #[.pointer (some ⟨k, 0, none⟩), .int .i64 (place : Nat), u32v n, .int .i64 ((1 : Nat) : Int)] w fun e w' => e = .returned (.tuple #[u32v (Ino.thr1 o holes f t vis place n s).1, .int .i64 (Ino.thr1 o holes f t vis place n s).2.1]) ∧ J (Ino.thr1 o holes f t vis place n s).2.2 w' ∧ Kp none w w' := by
  refine through_J H _ 256 (fun l s hl => by
    have := Ino.lev_cost (step := vis) (f := f) (t := t) (first := place) (sp := 1) m 4 H.cvis l 0 s
    rw [hl] at this; exact this) k place 1 n _ s w hk hJ hm ?_
  intro was s1 w1 g hl h1 hm1 hk1 hT hg
  refine (level_J H k g 0 64 place 64 145 (.inl rfl) was s1 w1 hk1 hT (by omega) (by omega) hp h1 hg hm1).mono ?_
  rintro e w' ⟨l, er, s', hlv, rfl, h2, hK, hr⟩
  rw [List.drop_zero, List.take_of_length_le (by omega)] at hlv
  have hll := Ino.lev_length (step := vis) (f := f) (t := t) (first := place) (sp := 1) was 0 s1
  rw [hlv] at hll
  have hll : l.length = was.length := hll
  refine ⟨l, er, s', hlv, by omega, rfl, h2, hK, fun he => ?_⟩
  have := hr he
  rw [List.take_zero, List.nil_append, List.drop_of_length_le (by omega), List.append_nil] at this
  exact this

/-- through over blocks of numbers. -/
theorem through2_J (H : Hands o vis c V lo f t rec holes J m lim) (k place : Nat) (n : BitVec 32) (s : σ) (w : World) (hp : place ≤ 90000) (hk : WalkAt w k (.pointer (some ⟨c, 0, none⟩)) f t holes (.func (.func V) #[rec] #[])) (hJ : J s w) (hm : m s + 16514 ≤ lim) :
    Calls Tryz.prog 67 #[.pointer (some ⟨k, 0, none⟩), .int .i64 (place : Nat), u32v n, .int .i64 ((64 : Nat) : Int)] w fun e w' => e = .returned (.tuple #[u32v (Ino.thr2 o holes f t vis place n s).1, .int .i64 (Ino.thr2 o holes f t vis place n s).2.1]) ∧ J (Ino.thr2 o holes f t vis place n s).2.2 w' ∧ Kp none w w' := by
  refine through_J H _ 16512 (fun l s hl => by
    have := Ino.lev_cost (step := Ino.thr1 o holes f t vis) (f := f) (t := t) (first := place) (sp := 64) m 258 (thr1_cost H) l 0 s
    rw [hl] at this; exact this) k place 64 n _ s w hk hJ hm ?_
  intro was s1 w1 g hl h1 hm1 hk1 hT hg
  refine (levelT_J H (Ino.thr1 o holes f t vis) 258 (thr1_cost H) k g 0 64 place 64 64 _ 145 (.inl rfl) was s1 w1 hk1 hT (by omega) (by omega) (by omega) (by omega) (by omega) h1 hg hm1 ?_).mono ?_
  · intro s' w' i n' hJ' hm' hk' hi _ _
    exact through1_J H k (place + i * 64) n' s' w' (by omega) hk' hJ' hm'
  rintro e w' ⟨l, er, s', hlv, rfl, h2, hK, hr⟩
  rw [List.drop_zero, List.take_of_length_le (by omega)] at hlv
  have hll := Ino.lev_length (step := Ino.thr1 o holes f t vis) (f := f) (t := t) (first := place) (sp := 64) was 0 s1
  rw [hlv] at hll
  have hll : l.length = was.length := hll
  refine ⟨l, er, s', hlv, by omega, rfl, h2, hK, fun he => ?_⟩
  have := hr he
  rw [List.take_zero, List.nil_append, List.drop_of_length_le (by omega), List.append_nil] at this
  exact this

set_option maxRecDepth 8000 in
set_option maxHeartbeats 1000000 in
theorem over_J (H : Hands o vis c V lo f t rec holes J m lim) (k g : Nat) (ns : List (BitVec 32)) (s : σ) (w : World) (hn : ns.length = 10) (hk : WalkAt w k (.pointer (some ⟨c, 0, none⟩)) f t holes (.func (.func V) #[rec] #[])) (hr : NumsAt w g ns) (hJ : J s w) (hlo : lo ≤ g) (hm : m s + 16804 ≤ lim) :
    Calls Tryz.prog 29 #[.pointer (some ⟨k, 0, none⟩), .pointer (some ⟨g, 0, none⟩)] w fun e w' => ∃ ns' er s', Ino.ovr o holes f t vis ns s = (ns', er, s') ∧ e = .returned (.int .i64 er) ∧ J s' w' ∧ Kp (some g) w w' ∧ (er = 0 → NumsAt w' g ns' ∧ ns'.length = 10) := by
  have hkg := walk_ne hk (rowNums.2 hr) (.inr rfl)
  have c1 : Calls Tryz.prog 46 #[.pointer (some ⟨k, 0, none⟩), .slice (some ⟨g, 0, none⟩) 8 10, .int .i64 0, .int .i64 1] w fun e w' => LvP g 0 8 0 1 f t 55 J vis ns s w e w' := level_J H k g 0 8 0 10 55 (.inr rfl) ns s w hk hr (by omega) (by omega) (by omega) hJ hlo (by omega)
  have c2 : ∀ ms s1 w1, ms.length = 10 → J s1 w1 → m s1 ≤ m s + 32 → WalkAt w1 k (.pointer (some ⟨c, 0, none⟩)) f t holes (.func (.func V) #[rec] #[]) → NumsAt w1 g ms → Calls Tryz.prog 46 #[.pointer (some ⟨k, 0, none⟩), .slice (some ⟨g, 8, none⟩) 1 2, .int .i64 8, .int .i64 64] w1 fun e w' => LvP g 8 1 8 64 f t 55 J (Ino.thr1 o holes f t vis) ms s1 w1 e w' := fun ms s1 w1 hml h1 hm1 hk1 hr1 =>
    levelT_J H _ 258 (thr1_cost H) k g 8 1 8 64 2 _ 55 (.inr rfl) ms s1 w1 hk1 hr1 (by omega) (by omega) (by omega) (by omega) (by omega) h1 hlo (by omega) (fun s' w' i n' hJ' hm' hk' hi _ _ => through1_J H k (8 + i * 64) n' s' w' (by omega) hk' hJ' hm')
  have c3 : ∀ ms s1 w1, ms.length = 10 → J s1 w1 → m s1 ≤ m s + 290 → WalkAt w1 k (.pointer (some ⟨c, 0, none⟩)) f t holes (.func (.func V) #[rec] #[]) → NumsAt w1 g ms → Calls Tryz.prog 46 #[.pointer (some ⟨k, 0, none⟩), .slice (some ⟨g, 9, none⟩) 1 1, .int .i64 72, .int .i64 4096] w1 fun e w' => LvP g 9 1 72 4096 f t 55 J (Ino.thr2 o holes f t vis) ms s1 w1 e w' := fun ms s1 w1 hml h1 hm1 hk1 hr1 =>
    levelT_J H _ 16514 (thr2_cost H) k g 9 1 72 4096 1 _ 55 (.inr rfl) ms s1 w1 hk1 hr1 (by omega) (by omega) (by omega) (by omega) (by omega) h1 hlo (by omega) (fun s' w' i n' hJ' hm' hk' hi _ _ => through2_J H k (72 + i * 4096) n' s' w' (by omega) hk' hJ' hm')
  have sl1 := slice10a g
  have sl2 := slice10b g
  have sl3 := slice10c g
  have HK := hide hk
  have C2 := hide c2
  have C3 := hide c3
  obtain ⟨P, hP⟩ : ∃ P, P = Ino.ovr o holes f t vis ns s := ⟨_, rfl⟩
  have HP := hide hP
  rw [← hP]
  clear c2 c3 hk hr hP
  go_enter Tryz.func29, Tryz.ntmps29
  go_wp2_with (go_at_call 46; refine c1.mono ?_; rintro e w1 ⟨l1, er, s1, hlv, rfl, h1, hK1, hr1⟩; clear c1; refine Stop.out ?_)
  refine Stop.mk ?_
  rw [List.drop_zero] at hlv
  have hll := Ino.lev_length (step := vis) (f := f) (t := t) (first := 0) (sp := 1) (ns.take 8) 0 s
  rw [hlv, List.length_take] at hll
  have hl1 : l1.length = 8 := by have : l1.length = min 8 ns.length := hll; omega
  clear hll
  by_cases her : er = 0
  · subst her
    have HR1 := hide (hr1 rfl)
    have H1 := hide (⟨hlv, hl1, h1, hK1⟩ : _ ∧ _ ∧ _ ∧ _)
    have hml : ([] ++ l1 ++ ns.drop 8).length = 10 := by simp; omega
    have hmc : m s1 ≤ m s + 32 := by
      have := Ino.lev_cost (step := vis) (f := f) (t := t) (first := 0) (sp := 1) m 4 H.cvis (ns.take 8) 0 s
      rw [H1.out.1, List.length_take, hn] at this; exact this
    have HM1 := hide hmc
    have c2 := C2.out _ s1 w1 hml h1 hmc (hK1.walk HK.out (fun e => hkg (by simpa using e))) HR1.out
    clear hlv h1 hK1 hr1 hl1 hml hmc
    go_wp2_with (go_at_call 46; refine c2.mono ?_; rintro e w2 ⟨l2, er, s2, hlv, rfl, h2, hK2, hr2⟩; clear c2; refine Stop.out ?_)
    refine Stop.mk ?_
    have hl1 := H1.out.2.1
    have e8 : (([] ++ l1 ++ ns.drop 8).drop 8).take 1 = (ns.drop 8).take 1 := by rw [List.nil_append, List.drop_left' hl1]
    rw [e8] at hlv
    have hll := Ino.lev_length (step := Ino.thr1 o holes f t vis) (f := f) (t := t) (first := 8) (sp := 64) ((ns.drop 8).take 1) 0 s1
    rw [hlv, List.length_take, List.length_drop] at hll
    have hl2 : l2.length = 1 := by have : l2.length = min 1 (ns.length - 8) := hll; omega
    have e9 : ([] ++ l1 ++ ns.drop 8).take 8 ++ l2 ++ ([] ++ l1 ++ ns.drop 8).drop (8 + 1) = l1 ++ l2 ++ ns.drop 9 := by
      rw [List.nil_append, List.take_left' hl1, ← List.drop_drop, List.drop_left' hl1, List.drop_drop]
    rw [e9] at hr2
    clear hll e8 e9
    by_cases her : er = 0
    · subst her
      have HR2 := hide (hr2 rfl)
      have H2 := hide (⟨hlv, hl2, h2, H1.out.2.2.2.trans hK2⟩ : _ ∧ _ ∧ _ ∧ _)
      have hml : (l1 ++ l2 ++ ns.drop 9).length = 10 := by simp; omega
      have hmc : m s2 ≤ m s + 290 := by
        have := Ino.lev_cost (step := Ino.thr1 o holes f t vis) (f := f) (t := t) (first := 8) (sp := 64) m 258 (thr1_cost H) ((ns.drop 8).take 1) 0 s1
        rw [H2.out.1, List.length_take, List.length_drop, hn] at this
        have h258 : m s2 ≤ m s1 + 258 := this
        have := HM1.out; omega
      have c3 := C3.out _ s2 w2 hml h2 hmc (H2.out.2.2.2.walk HK.out (fun e => hkg (by simpa using e))) HR2.out
      clear hlv h2 hK2 hr2 hl2 hml hl1 hmc
      go_wp2_with (go_at_call 46; refine c3.mono ?_; rintro e w3 ⟨l3, er, s3, hlv, rfl, h3, hK3, hr3⟩; clear c3; refine Stop.out ?_)
      refine Stop.mk ?_
      have hl1 := H1.out.2.1
      have hl2 := H2.out.2.1
      have h12 : (l1 ++ l2).length = 9 := by simp; omega
      have e10 : ((l1 ++ l2 ++ ns.drop 9).drop 9).take 1 = ns.drop 9 := by rw [List.drop_left' h12, List.take_of_length_le (by simp; omega)]
      rw [e10] at hlv
      have hll := Ino.lev_length (step := Ino.thr2 o holes f t vis) (f := f) (t := t) (first := 72) (sp := 4096) (ns.drop 9) 0 s2
      rw [hlv, List.length_drop] at hll
      have hl3 : l3.length = 1 := by have : l3.length = ns.length - 9 := hll; omega
      have e11 : (l1 ++ l2 ++ ns.drop 9).take 9 ++ l3 ++ (l1 ++ l2 ++ ns.drop 9).drop (9 + 1) = l1 ++ l2 ++ l3 := by
        rw [List.take_left' h12, List.drop_of_length_le (by simp; omega), List.append_nil]
      rw [e11] at hr3
      have hov : Ino.ovr o holes f t vis ns s = if er ≠ 0 then (ns, er, s3) else (l1 ++ l2 ++ l3, 0, s3) := by
        unfold Ino.ovr
        simp only [H1.out.1, H2.out.1, hlv, ne_eq, not_true, if_false]
      have H3 := hide (⟨hov, h3, H2.out.2.2.2.trans hK3, hr3, hl3, hl1, hl2⟩ : _ ∧ _ ∧ _ ∧ _ ∧ _ ∧ _ ∧ _)
      clear hlv h3 hK3 hr3 hl1 hl2 h12 hll e10 e11 hl3 hov
      go_wp2
      go_ret
      obtain ⟨q1, q2, q3, q4, q5, q6, q7⟩ := H3.out
      rw [HP.out]
      by_cases her : er = 0
      · subst her
        exact ⟨_, 0, s3, by rw [q1, if_neg (by simp)], rfl, q2, q3, fun _ => ⟨q4 rfl, by simp; omega⟩⟩
      · exact ⟨_, er, s3, by rw [q1, if_pos her], rfl, q2, q3, fun h => absurd h her⟩
    · have hov : Ino.ovr o holes f t vis ns s = (ns, er, s2) := by
        unfold Ino.ovr
        simp only [H1.out.1, hlv, ne_eq, not_true, if_false]
        rw [if_pos her]
      have H3 := hide (⟨hov, h2, H1.out.2.2.2.trans hK2⟩ : _ ∧ _ ∧ _)
      have q1 : (er != 0) = true := by simp [her]
      have q2 : (er == 0) = false := by simp [her]
      clear hlv h2 hK2 hr2 hl2 hl1 hov
      go_wp2
      go_ret
      exact ⟨ns, er, s2, HP.out.trans H3.out.1, rfl, H3.out.2.1, H3.out.2.2, fun h => absurd h her⟩
  · have hov : Ino.ovr o holes f t vis ns s = (ns, er, s1) := by
      unfold Ino.ovr
      simp only [hlv]
      rw [if_pos her]
    have H3 := hide (⟨hov, h1, hK1⟩ : _ ∧ _ ∧ _)
    have q1 : (er != 0) = true := by simp [her]
    have q2 : (er == 0) = false := by simp [her]
    clear hlv h1 hK1 hr1 hl1 hov
    go_wp2
    go_ret
    exact ⟨ns, er, s1, HP.out.trans H3.out.1, rfl, H3.out.2.1, H3.out.2.2, fun h => absurd h her⟩

set_option maxRecDepth 8000 in
set_option maxHeartbeats 400000 in
theorem ovr_cost (H : Hands o vis c V lo f t rec holes J m lim) (ns : List (BitVec 32)) (hn : ns.length = 10) (s : σ) : m (Ino.ovr o holes f t vis ns s).2.2 ≤ m s + 16804 := by
  have h1 := Ino.lev_cost (step := vis) (f := f) (t := t) (first := 0) (sp := 1) m 4 H.cvis (ns.take 8) 0 s
  have h2 := Ino.lev_cost (step := Ino.thr1 o holes f t vis) (f := f) (t := t) (first := 8) (sp := 64) m 258 (thr1_cost H) ((ns.drop 8).take 1) 0 (Ino.lev vis f t 0 1 (ns.take 8) 0 s).2.2
  have h3 := Ino.lev_cost (step := Ino.thr2 o holes f t vis) (f := f) (t := t) (first := 72) (sp := 4096) m 16514 (thr2_cost H) (ns.drop 9) 0 (Ino.lev (Ino.thr1 o holes f t vis) f t 8 64 ((ns.drop 8).take 1) 0 (Ino.lev vis f t 0 1 (ns.take 8) 0 s).2.2).2.2
  rw [List.length_take] at h1
  rw [List.length_take, List.length_drop] at h2
  rw [List.length_drop] at h3
  rw [hn] at h1 h2 h3
  unfold Ino.ovr
  dsimp only
  generalize Ino.lev vis f t 0 1 (ns.take 8) 0 s = A at h1 h2 h3 ⊢
  generalize Ino.lev (Ino.thr1 o holes f t vis) f t 8 64 ((ns.drop 8).take 1) 0 A.2.2 = B at h2 h3 ⊢
  generalize Ino.lev (Ino.thr2 o holes f t vis) f t 72 4096 (ns.drop 9) 0 B.2.2 = C at h3 ⊢
  have h1 : m A.2.2 ≤ m s + 32 := by simpa using h1
  have h2 : m B.2.2 ≤ m A.2.2 + 258 := by simpa using h2
  have h3 : m C.2.2 ≤ m B.2.2 + 16514 := by simpa using h3
  split
  · show m A.2.2 ≤ _; omega
  split
  · show m B.2.2 ≤ _; omega
  split
  · show m C.2.2 ≤ _; omega
  · show m C.2.2 ≤ _; omega

end

end Go.Proofs.YtebdgcoandfocaaGreatDoor

/-
  Package inode: a write's parts: put, find, fill.
-/
namespace Go.Proofs.YtebdgcoandfocaaGreatDoor
open Go.RowKit Go.Maps Go.Sort Go.Shelf

theorem cell_three_new (w : World) (x y z : Value) (t : TypeId) : ∀ j u, [x, y, z][j]? = some u → (w.alloc (.cells #[x, y, z] t)).cell? ((⟨w.heap.size, 0, none⟩ : Addr).add j) = some u := by
  intro j u hj
  rw [Addr.add_lit, Nat.zero_add, cellOf (heap_alloc_new w _) j]
  simpa using hj

end Go.Proofs.YtebdgcoandfocaaGreatDoor

/-
  Package inode: a change in memory, and what take, give, put and get make of it.
-/
namespace Go.Proofs.YtebdgcoandfocaaGreatDoor
open Go.RowKit Go.Maps Go.Sort Go.Shelf

def i64n (x : Nat) : Value := .int .i64 (x : Nat)
def putC : List (Nat × By) → List (Nat × Nat) → List Value
  | p :: P, d :: D => .int .i64 (p.1 : Nat) :: .slice (some ⟨d.1, 0, none⟩) 512 d.2 :: putC P D
  | _, _ => []
theorem putC_snoc : ∀ (P : List (Nat × By)) (D : List (Nat × Nat)) (p : Nat × By) (d : Nat × Nat), D.length = P.length → putC (P ++ [p]) (D ++ [d]) = putC P D ++ [.int .i64 (p.1 : Nat), .slice (some ⟨d.1, 0, none⟩) 512 d.2]
  | [], [], p, d, _ => rfl
  | q :: P, f :: D, p, d, h => by
    simp only [List.cons_append, putC]
    rw [putC_snoc P D p d (by simpa using h)]
  | [], _ :: _, _, _, h => by simp at h
  | _ :: _, [], _, _, h => by simp at h
theorem putC_get : ∀ {P : List (Nat × By)} {D : List (Nat × Nat)} {i : Nat} {p : Nat × By} {d : Nat × Nat}, P[i]? = some p → D[i]? = some d → (putC P D)[2 * i]? = some (.int .i64 (p.1 : Nat)) ∧ (putC P D)[2 * i + 1]? = some (.slice (some ⟨d.1, 0, none⟩) 512 d.2)
  | q :: P, f :: D, 0, p, d, h1, h2 => by
    simp only [List.getElem?_cons_zero, Option.some.injEq] at h1 h2
    subst h1; subst h2
    simp [putC]
  | q :: P, f :: D, i + 1, p, d, h1, h2 => by
    have := putC_get (P := P) (D := D) (i := i) (by simpa using h1) (by simpa using h2)
    simp only [putC]
    rw [show 2 * (i + 1) = 2 * i + 1 + 1 by omega, show 2 * i + 1 + 1 + 1 = 2 * i + 1 + 1 + 1 from rfl]
    simpa using this
  | [], _, _, _, _, h1, _ => by simp at h1
  | _ :: _, [], _, _, _, _, h2 => by simp at h2

/-- A change's lists. -/
structure CR (w : World) (lo : Nat) (T G : List Nat) (P : List (Nat × By)) (sT sG sP : Value) (D : List (Nat × Nat)) : Prop where
  t : w.ownsRow lo 3 1 sT T.length (T.map i64n)
  g : w.ownsRow lo 3 1 sG G.length (G.map i64n)
  ap : ∀ k, sT.ownBlock = some k → sG.ownBlock = some k → False
  p : w.ownsRow lo 143 2 sP P.length (putC P D)
  dl : D.length = P.length
  d : ∀ (i : Nat) (p : Nat × By) (d : Nat × Nat), P[i]? = some p → D[i]? = some d → Bytes w (some ⟨d.1, 0, none⟩) p.2 ∧ p.2.length = 512 ∧ (∃ cs fr, w.heap[d.1]? = some (.cells cs 5 fr)) ∧ lo ≤ d.1
theorem bytes_kept {w w' : World} {g : Nat} {b : By} {S : Nat → Prop} (hbb : Bytes w (some ⟨g, 0, none⟩) b) (ht : ∃ cs fr, w.heap[g]? = some (.cells cs 5 fr)) (hb : But S w w') (hS : ¬ S g) : Bytes w' (some ⟨g, 0, none⟩) b ∧ ∃ cs fr, w'.heap[g]? = some (.cells cs 5 fr) := by
  obtain ⟨cs, fr, ht⟩ := ht
  have hk := hb.block g (Array.getElem?_eq_some_iff.1 ht).1 hS
  refine ⟨?_, cs, fr, hk.trans ht⟩
  intro h0
  obtain ⟨s, o, e, hx⟩ := hbb h0
  refine ⟨s, o, e, fun i x hi => ?_⟩
  cases e
  rw [World.cell?_of_block (w := w) hk]
  exact hx i x hi
theorem CR.but {w w' : World} {lo : Nat} {T G : List Nat} {P : List (Nat × By)} {sT sG sP : Value} {D : List (Nat × Nat)} {S : Nat → Prop} (h : CR w lo T G P sT sG sP D) (hb : But S w w') (hS : ∀ k cs t fr, w.heap[k]? = some (.cells cs t fr) → t = 3 ∨ t = 143 ∨ t = 5 → ¬ S k) : CR w' lo T G P sT sG sP D := by
  refine ⟨own_butI h.t hb (fun k cs _ hk => hS k cs 3 _ hk (.inl rfl)), own_butI h.g hb (fun k cs _ hk => hS k cs 3 _ hk (.inl rfl)), h.ap, own_butI h.p hb (fun k cs _ hk => hS k cs 143 _ hk (.inr (.inl rfl))), h.dl, ?_⟩
  intro i p d h1 h2
  obtain ⟨h3, h4, ⟨cs, fr, h5⟩, h8⟩ := h.d i p d h1 h2
  obtain ⟨h6, h7⟩ := bytes_kept h3 ⟨cs, fr, h5⟩ hb (hS d.1 cs 5 fr h5 (.inr (.inr rfl)))
  exact ⟨h6, h4, h7, h8⟩

/-- A cache, as a walk needs it. -/
structure LPok (LP : Nat → World → Prop) (w0 : World) (c nb : Nat) (V : Nat → By) : Prop where
  foreign : ∀ b w w' S, LP b w → But S w w' → Foreign w S → LP b w'
  more : ∀ b w, LP b w → LP (b + 1) w
  get : ∀ b w x, LP b w → b < 800000 → x < nb → Calls Tryz.prog 68 #[ep c, .int .i64 (x : Nat)] w fun e w' => ∃ g cap, e = .returned (.tuple #[.slice (some ⟨g, 0, none⟩) 512 cap, .int .i64 0]) ∧ (∀ w'', But (fun k => k = g) w' w'' → LP (b + 1) w'') ∧ But (Cmn w0 w) w w' ∧ w'.ownsRow w.heap.size 5 1 (.slice (some ⟨g, 0, none⟩) 512 cap) 512 ((V x).map u8v) ∧ (V x).length = 512
  bad : ∀ b w (x : Nat), LP b w → nb ≤ x → x < 4294967296 → Calls Tryz.prog 68 #[ep c, .int .i64 (x : Nat)] w fun e w' => e = .returned (.tuple #[.slice none 0 0, .int .i64 22]) ∧ w' = w

/-- The types of what is a change's own. -/
def chT (tt t : TypeId) : Prop := t = 3 ∨ t = 143 ∨ t = tt ∨ cTag t
def CT (tt : TypeId) (w : World) (k : Nat) : Prop := ∀ cs t fr, w.heap[k]? = some (.cells cs t fr) → chT tt t
structure okTT (tt : TypeId) : Prop where
  f : foreignT tt
  n : tt ≠ 3 ∧ tt ≠ 143 ∧ tt ≠ 61 ∧ tt ≠ 60 ∧ tt ≠ 145 ∧ tt ≠ 55 ∧ tt ≠ 81 ∧ tt ≠ 102 ∧ tt ≠ 57
theorem ct_kp {tt : TypeId} (htt : okTT tt) {w w' : World} (h : But (CT tt w) w w') : Kp none w w' := by
  refine ⟨h.size, fun g cs t fr hg ht _ => (h.block g (Array.getElem?_eq_some_iff.1 hg).1 fun hc => ?_).trans hg⟩
  have hn := htt.n
  rcases ht with rfl | rfl | rfl <;> rcases hc _ _ _ hg with e | e | e | e | e | e
  all_goals first | exact absurd e (by decide) | exact hn.2.2.2.2.1 e.symm | exact hn.2.2.2.2.2.1 e.symm | exact hn.2.2.2.2.2.2.1 e.symm
theorem ct_trans {tt : TypeId} {a b c : World} (h1 : But (CT tt a) a b) (h2 : But (CT tt b) b c) : But (CT tt a) a c := by
  refine ⟨h2.os.trans h1.os, h2.tape.trans h1.tape, h2.output.trans h1.output, Nat.le_trans h1.size h2.size, fun k hk hn => ?_⟩
  have e1 := h1.block k hk hn
  refine (h2.block k (Nat.lt_of_lt_of_le hk h1.size) fun hc => hn fun cs t fr hh => ?_).trans e1
  exact hc cs t fr (e1.trans hh)
theorem ct_cmn {tt : TypeId} {w0 a b : World} (h : But (Cmn w0 a) a b) : But (CT tt a) a b := h.mono (fun _ _ hc _ _ _ hh => .inr (.inr (.inr (hc.2 _ _ _ hh))))
theorem ct_below {tt : TypeId} {a b : World} (h : Below a.heap.size a b) : But (CT tt a) a b := But.of_below h

/-- A change in memory: budget b, taken T, given G, puts P; exs: what stands behind it in its struct. -/
structure CJ (LP : Nat → World → Prop) (w0 ws : World) (lz wb c : Nat) (tt : TypeId) (fp : Value) (exs : List Value) (b : Nat) (T G : List Nat) (P : List (Nat × By)) (w : World) : Prop where
  lp : LP b w
  fr : But (Cmn w0 ws) ws w
  hlo : ws.heap.size ≤ lz
  lo : lz ≤ wb
  blk : ∃ sT sG sP D, BlkAt w wb (ep c :: fp :: sT :: sG :: sP :: exs) tt ∧ CR w lz T G P sT sG sP D
  len : T.length ≤ b ∧ G.length ≤ b ∧ P.length ≤ b

theorem cmn_hi {w0 ws w w' : World} {S : Nat → Prop} (h : But (Cmn w0 ws) ws w) (hb : But S w w') (hS : ∀ k, S k → ws.heap.size ≤ k ∨ Cmn w0 w k) : But (Cmn w0 ws) ws w' := by
  refine ⟨hb.os.trans h.os, hb.tape.trans h.tape, hb.output.trans h.output, Nat.le_trans h.size hb.size, fun k hk hn => ?_⟩
  have e1 := h.block k hk hn
  refine (hb.block k (Nat.lt_of_lt_of_le hk h.size) fun hc => ?_).trans e1
  rcases hS k hc with h1 | h1
  · omega
  · exact hn ⟨h1.1, fun cs t fr hh => h1.2 cs t fr (e1.trans hh)⟩

section
variable {LP : Nat → World → Prop} {w0 ws : World} {lo wb c nb : Nat} {V : Nat → By} {tt : TypeId} {fp : Value} {exs : List Value} {b : Nat} {T G : List Nat} {P : List (Nat × By)} {w w' : World}

/-- What isn't a change's own may turn. -/
theorem CJ.foreign (h : CJ LP w0 ws lo wb c tt fp exs b T G P w) (hL : LPok LP w0 c nb V) {S : Nat → Prop} (hb : But S w w') (hS : ∀ k, S k → ws.heap.size ≤ k ∧ ∃ cs t fr, w.heap[k]? = some (.cells cs t fr) ∧ foreignT t ∧ t ≠ 3 ∧ t ≠ 143 ∧ t ≠ tt) : CJ LP w0 ws lo wb c tt fp exs b T G P w' := by
  obtain ⟨sT, sG, sP, D, h1, h2⟩ := h.blk
  have key : ∀ k cs t fr, w.heap[k]? = some (.cells cs t fr) → t = 3 ∨ t = 143 ∨ t = 5 ∨ t = tt → ¬ S k := by
    intro k cs t fr hk ht hs
    obtain ⟨_, cs', t', fr', hk', hf, n1, n2, n3⟩ := hS k hs
    rw [hk] at hk'
    simp only [Option.some.injEq, Obj.cells.injEq] at hk'
    obtain ⟨_, rfl, _⟩ := hk'
    rcases ht with e | e | e | e
    · exact n1 e
    · exact n2 e
    · exact hf.2.2.2.2.2.2.1 e
    · exact n3 e
  refine ⟨hL.foreign b w w' S h.lp hb (fun k hk => ?_), cmn_hi h.fr hb (fun k hk => .inl (hS k hk).1), h.hlo, h.lo, ⟨sT, sG, sP, D, h1.but hb (key wb _ _ _ h1 (.inr (.inr (.inr rfl)))), h2.but hb (fun k cs t fr hk ht => key k cs t fr hk ?_)⟩, h.len⟩
  · obtain ⟨_, cs, t, fr, hh, hf, _⟩ := hS k hk
    exact ⟨cs, t, fr, hh, hf⟩
  · rcases ht with e | e | e
    · exact .inl e
    · exact .inr (.inl e)
    · exact .inr (.inr (.inl e))
/-- The cache's own may turn, if it is a cache again. -/
theorem CJ.cache (h : CJ LP w0 ws lo wb c tt fp exs b T G P w) (htt : okTT tt) (hb : But (Cmn w0 w) w w') (hl : LP (b + 1) w') : CJ LP w0 ws lo wb c tt fp exs (b + 1) T G P w' := by
  obtain ⟨sT, sG, sP, D, h1, h2⟩ := h.blk
  have ht : ¬ cTag tt := cTag_not htt.f.1 htt.f.2.1 htt.f.2.2.1
  obtain ⟨l1, l2, l3⟩ := h.len
  refine ⟨hl, cmn_hi h.fr hb (fun k hk => .inr hk), h.hlo, h.lo, ⟨sT, sG, sP, D, h1.cache hb ht, h2.but hb (fun k cs t fr hk e => cmn_not hk ?_)⟩, by omega, by omega, by omega⟩
  rcases e with rfl | rfl | rfl
  · exact cTag_not (by decide) (by decide) (by decide)
  · exact cTag_not (by decide) (by decide) (by decide)
  · exact cTag_not (by decide) (by decide) (by decide)

theorem CJ.size (h : CJ LP w0 ws lo wb c tt fp exs b T G P w) : lo ≤ w.heap.size := by
  obtain ⟨sT, sG, sP, D, h1, _⟩ := h.blk
  have := h1.lt
  have := h.lo
  omega
theorem own_type {W : World} {base : Nat} {e : TypeId} {size : Nat} {v : Value} {n : Nat} {xs : List Value} (h : W.ownsRow base e size v n xs) {k : Nat} (hk : v.ownBlock = some k) : base ≤ k ∧ ∃ cs, W.heap[k]? = some (.cells cs e (0, 0)) := by
  rcases h.2 with ⟨rfl, _⟩ | ⟨g, cap, cur, rfl, hg, hblk, _⟩
  · cases hk
  · have : g = k := by simpa [Value.ownBlock] using hk
    subst this
    exact ⟨hg, cur, hblk⟩

/-- An element is appended, and the field that holds the slice is set. -/
theorem app_field {w1 w2 : World} {wb base i : Nat} {cs : List Value} {t e : TypeId} {size n : Nat} {v v2 : Value} {xs xs2 : List Value} {o : Obj} (hw : BlkAt w1 wb cs t) (hte : t ≠ e) (hold : w1.ownsRow base e size v n xs) (hown : w2.ownsRow base e size v2 (n + 1) xs2) (hg : (w1.alloc o).grownBy w2 v.ownBlock)
    (hat : v2.ownBlock = v.ownBlock ∨ v2.ownBlock = some (w1.alloc o).heap.size) :
    BlkAt w2 wb cs t ∧ ∃ g cap, v2 = .slice (some ⟨g, 0, none⟩) (n + 1) cap ∧ BlkAt (w2.setCell ⟨wb, i, none⟩ v2) wb (cs.set i v2) t ∧ (w2.setCell ⟨wb, i, none⟩ v2).ownsRow base e size v2 (n + 1) xs2 ∧ But (fun k => k = wb ∨ v.ownBlock = some k) w1 (w2.setCell ⟨wb, i, none⟩ v2) ∧ (v.ownBlock = some g ∨ w1.heap.size ≤ g) := by
  obtain ⟨g, cap, rfl, _, _⟩ := hown.form (by omega)
  have hlt := hw.lt
  have hne : ∀ k, v.ownBlock = some k → k ≠ wb := fun k hk e => by
    obtain ⟨_, cs', hc⟩ := own_type hold hk
    rw [e, show w1.heap[wb]? = _ from hw] at hc
    simp only [Option.some.injEq, Obj.cells.injEq] at hc
    exact hte hc.2.1
  have hb : But (fun k => v.ownBlock = some k) w1 w2 := (But.of_below ((Below.refl _ w1).alloc (Nat.le_refl _) o)).trans (But.of_grown hg (fun k hk => hk))
  have hw2 : BlkAt w2 wb cs t := hw.but hb (fun e => hne wb e rfl)
  have hgo : v.ownBlock = some g ∨ w1.heap.size ≤ g := by
    rcases hat with e | e
    · exact .inl (e.symm.trans rfl)
    · have : g = (w1.alloc o).heap.size := by simpa [Value.ownBlock] using e
      simp at this
      exact .inr (by omega)
  have hgw : g ≠ wb := by
    rcases hgo with e | e
    · exact hne g e
    · omega
  exact ⟨hw2, g, cap, rfl, hw2.set i _, own_set hown (fun k hk => own_ne hgw hk) _ _, (hb.mono (fun k _ e => .inr e)).setCell _ (.inl rfl) _, hgo⟩

end
end Go.Proofs.YtebdgcoandfocaaGreatDoor

/-
  Package inode: take, give, put and get over a change in memory.
-/
namespace Go.Proofs.YtebdgcoandfocaaGreatDoor
open Go.RowKit Go.Maps Go.Sort Go.Shelf

section
variable {LP : Nat → World → Prop} {w0 ws : World} {lo wb c nb : Nat} {V : Nat → By} {tt : TypeId} {fp : Value} {exs : List Value} {b : Nat} {T G : List Nat} {P : List (Nat × By)} {w : World}

theorem ch_foreign {w1 : World} {sv : Value} {e : TypeId} {size n : Nat} {xs cs : List Value} {base : Nat} (htt : okTT tt) (hw : BlkAt w1 wb cs tt) (hr : w1.ownsRow base e size sv n xs) (he : foreignT e) : Foreign w1 (fun k => k = wb ∨ sv.ownBlock = some k) := by
  rintro k (rfl | hk)
  · exact ⟨_, _, _, hw, htt.f⟩
  · obtain ⟨_, cs', hc⟩ := own_type hr hk
    exact ⟨_, _, _, hc, he⟩
theorem ch_ct {w1 w2 : World} {sv : Value} {e : TypeId} {size n : Nat} {xs cs : List Value} {base : Nat} (hw : BlkAt w1 wb cs tt) (hr : w1.ownsRow base e size sv n xs) (he : e = 3 ∨ e = 143) (hb : But (fun k => k = wb ∨ sv.ownBlock = some k) w1 w2) : But (CT tt w1) w1 w2 := by
  refine hb.mono ?_
  rintro k _ (rfl | hk) cs' t fr hh
  · rw [show w1.heap[k]? = _ from hw] at hh
    simp only [Option.some.injEq, Obj.cells.injEq] at hh
    exact .inr (.inr (.inl hh.2.1.symm))
  · obtain ⟨_, cs2, hc⟩ := own_type hr hk
    rw [hc] at hh
    simp only [Option.some.injEq, Obj.cells.injEq] at hh
    rcases he with rfl | rfl
    · exact .inl hh.2.1.symm
    · exact .inr (.inl hh.2.1.symm)

/-- A number more is taken. -/
theorem CJ.took (hL : LPok LP w0 c nb V) (htt : okTT tt) {w1 w2 : World} {sT sG sP v2 : Value} {D : List (Nat × Nat)} {r : Nat} {o : Obj} (hlp : LP b w1) (hfr : But (Cmn w0 ws) ws w1) (hls : ws.heap.size ≤ lo) (hlo : lo ≤ wb) (hw : BlkAt w1 wb (ep c :: fp :: sT :: sG :: sP :: exs) tt) (hr : CR w1 lo T G P sT sG sP D) (hlen : T.length ≤ b ∧ G.length ≤ b ∧ P.length ≤ b)
    (hown : w2.ownsRow lo 3 1 v2 (T.length + 1) (T.map i64n ++ [i64n r])) (hg : (w1.alloc o).grownBy w2 sT.ownBlock) (hat : v2.ownBlock = sT.ownBlock ∨ v2.ownBlock = some (w1.alloc o).heap.size) :
    BlkAt w2 wb (ep c :: fp :: sT :: sG :: sP :: exs) tt ∧ (∃ g cap, v2 = .slice (some ⟨g, 0, none⟩) (T.length + 1) cap) ∧ CJ LP w0 ws lo wb c tt fp exs (b + 1) (T ++ [r]) G P (w2.setCell ⟨wb, 2, none⟩ v2) ∧ But (CT tt w1) w1 (w2.setCell ⟨wb, 2, none⟩ v2) ∧ But (fun k => k = wb ∨ sT.ownBlock = some k) w1 (w2.setCell ⟨wb, 2, none⟩ v2) := by
  obtain ⟨hw2, g, cap, rfl, hb2, ho2, hbut, hgo⟩ := app_field (i := 2) hw htt.n.1 hr.t hown hg hat
  have hf := ch_foreign htt hw hr.t (by unfold foreignT; decide)
  have hne : ∀ k, sT.ownBlock = some k → sG.ownBlock = some k → False := hr.ap
  have hwlt := hw.lt
  refine ⟨hw2, ⟨g, cap, rfl⟩, ⟨hL.more _ _ (hL.foreign b w1 _ _ hlp hbut hf), cmn_hi hfr hbut (fun k hk => ?_), hls, hlo, ⟨_, sG, sP, D, hb2, ?_⟩, ?_⟩, ch_ct hw hr.t (.inl rfl) hbut, hbut⟩
  · rcases hk with rfl | hk
    · exact .inl (Nat.le_trans hls hlo)
    · exact .inl (Nat.le_trans hls (own_type hr.t hk).1)
  · have hSne : ∀ k cs t fr, w1.heap[k]? = some (.cells cs t fr) → t = 143 ∨ t = 5 → ¬ (k = wb ∨ sT.ownBlock = some k) := by
      rintro k cs t fr hk ht (rfl | hs)
      · rw [show w1.heap[k]? = _ from hw] at hk
        simp only [Option.some.injEq, Obj.cells.injEq] at hk
        rcases ht with e | e
        · exact htt.n.2.1 (hk.2.1.trans e)
        · exact htt.f.2.2.2.2.2.2.1 (hk.2.1.trans e)
      · obtain ⟨_, cs2, hc⟩ := own_type hr.t hs
        rw [hc] at hk
        simp only [Option.some.injEq, Obj.cells.injEq] at hk
        rcases ht with e | e
        · rw [e] at hk; exact absurd hk.2.1 (by decide)
        · rw [e] at hk; exact absurd hk.2.1 (by decide)
    have hgG : w1.ownsRow lo 3 1 sG G.length (G.map i64n) := hr.g
    refine ⟨by simpa using ho2, own_butI hr.g hbut (fun k cs hk hc hs => ?_), fun k h1 h2 => ?_, own_butI hr.p hbut (fun k cs _ hk => hSne k cs _ _ hk (.inl rfl)), hr.dl, ?_⟩
    · rcases hs with rfl | hs
      · rw [show w1.heap[k]? = _ from hw] at hc
        simp only [Option.some.injEq, Obj.cells.injEq] at hc
        exact htt.n.1 hc.2.1
      · exact hne k hs hk
    · have hk : g = k := by simpa [Value.ownBlock] using h1
      subst hk
      rcases hgo with e | e
      · exact hne g e h2
      · obtain ⟨_, cs, hc⟩ := own_type hr.g h2
        have := (Array.getElem?_eq_some_iff.1 hc).1
        omega
    · intro i p d h1 h2
      obtain ⟨h3, h4, ⟨cs, fr, h5⟩, h8⟩ := hr.d i p d h1 h2
      obtain ⟨h6, h7⟩ := bytes_kept h3 ⟨cs, fr, h5⟩ hbut (hSne d.1 cs 5 fr h5 (.inr rfl))
      exact ⟨h6, h4, h7, h8⟩
  · rw [List.length_append]; simp; omega

end
end Go.Proofs.YtebdgcoandfocaaGreatDoor

/-
  Package inode: give, put and get over a change in memory.
-/
namespace Go.Proofs.YtebdgcoandfocaaGreatDoor
open Go.RowKit Go.Maps Go.Sort Go.Shelf

section
variable {LP : Nat → World → Prop} {w0 ws : World} {lo wb c nb : Nat} {V : Nat → By} {tt : TypeId} {fp : Value} {exs : List Value} {b : Nat} {T G : List Nat} {P : List (Nat × By)} {w : World}

/-- A number more is given. -/
theorem CJ.gave (hL : LPok LP w0 c nb V) (htt : okTT tt) {w1 w2 : World} {sT sG sP v2 : Value} {D : List (Nat × Nat)} {r : Nat} {o : Obj} (hlp : LP b w1) (hfr : But (Cmn w0 ws) ws w1) (hls : ws.heap.size ≤ lo) (hlo : lo ≤ wb) (hw : BlkAt w1 wb (ep c :: fp :: sT :: sG :: sP :: exs) tt) (hr : CR w1 lo T G P sT sG sP D) (hlen : T.length ≤ b ∧ G.length ≤ b ∧ P.length ≤ b)
    (hown : w2.ownsRow lo 3 1 v2 (G.length + 1) (G.map i64n ++ [i64n r])) (hg : (w1.alloc o).grownBy w2 sG.ownBlock) (hat : v2.ownBlock = sG.ownBlock ∨ v2.ownBlock = some (w1.alloc o).heap.size) :
    BlkAt w2 wb (ep c :: fp :: sT :: sG :: sP :: exs) tt ∧ (∃ g cap, v2 = .slice (some ⟨g, 0, none⟩) (G.length + 1) cap) ∧ CJ LP w0 ws lo wb c tt fp exs (b + 1) T (G ++ [r]) P (w2.setCell ⟨wb, 3, none⟩ v2) ∧ But (CT tt w1) w1 (w2.setCell ⟨wb, 3, none⟩ v2) ∧ But (fun k => k = wb ∨ sG.ownBlock = some k) w1 (w2.setCell ⟨wb, 3, none⟩ v2) := by
  obtain ⟨hw2, g, cap, rfl, hb2, ho2, hbut, hgo⟩ := app_field (i := 3) hw htt.n.1 hr.g hown hg hat
  have hf := ch_foreign htt hw hr.g (by unfold foreignT; decide)
  have hne : ∀ k, sT.ownBlock = some k → sG.ownBlock = some k → False := hr.ap
  have hwlt := hw.lt
  refine ⟨hw2, ⟨g, cap, rfl⟩, ⟨hL.more _ _ (hL.foreign b w1 _ _ hlp hbut hf), cmn_hi hfr hbut (fun k hk => ?_), hls, hlo, ⟨sT, _, sP, D, hb2, ?_⟩, ?_⟩, ch_ct hw hr.g (.inl rfl) hbut, hbut⟩
  · rcases hk with rfl | hk
    · exact .inl (Nat.le_trans hls hlo)
    · exact .inl (Nat.le_trans hls (own_type hr.g hk).1)
  · have hSne : ∀ k cs t fr, w1.heap[k]? = some (.cells cs t fr) → t = 143 ∨ t = 5 → ¬ (k = wb ∨ sG.ownBlock = some k) := by
      rintro k cs t fr hk ht (rfl | hs)
      · rw [show w1.heap[k]? = _ from hw] at hk
        simp only [Option.some.injEq, Obj.cells.injEq] at hk
        rcases ht with e | e
        · exact htt.n.2.1 (hk.2.1.trans e)
        · exact htt.f.2.2.2.2.2.2.1 (hk.2.1.trans e)
      · obtain ⟨_, cs2, hc⟩ := own_type hr.g hs
        rw [hc] at hk
        simp only [Option.some.injEq, Obj.cells.injEq] at hk
        rcases ht with e | e
        · rw [e] at hk; exact absurd hk.2.1 (by decide)
        · rw [e] at hk; exact absurd hk.2.1 (by decide)
    refine ⟨own_butI hr.t hbut (fun k cs hk hc hs => ?_), by simpa using ho2, fun k h1 h2 => ?_, own_butI hr.p hbut (fun k cs _ hk => hSne k cs _ _ hk (.inl rfl)), hr.dl, ?_⟩
    · rcases hs with rfl | hs
      · rw [show w1.heap[k]? = _ from hw] at hc
        simp only [Option.some.injEq, Obj.cells.injEq] at hc
        exact htt.n.1 hc.2.1
      · exact hne k hk hs
    · have hk : g = k := by simpa [Value.ownBlock] using h2
      subst hk
      rcases hgo with e | e
      · exact hne g h1 e
      · obtain ⟨_, cs, hc⟩ := own_type hr.t h1
        have := (Array.getElem?_eq_some_iff.1 hc).1
        omega
    · intro i p d h1 h2
      obtain ⟨h3, h4, ⟨cs, fr, h5⟩, h8⟩ := hr.d i p d h1 h2
      obtain ⟨h6, h7⟩ := bytes_kept h3 ⟨cs, fr, h5⟩ hbut (hSne d.1 cs 5 fr h5 (.inr rfl))
      exact ⟨h6, h4, h7, h8⟩
  · rw [List.length_append]; simp; omega

/-- A put more. -/
theorem CJ.puts (hL : LPok LP w0 c nb V) (htt : okTT tt) {w1 w2 : World} {sT sG sP v2 : Value} {D : List (Nat × Nat)} {x dg dc : Nat} {bs : By} {o : Obj} (hlp : LP b w1) (hfr : But (Cmn w0 ws) ws w1) (hls : ws.heap.size ≤ lo) (hlo : lo ≤ wb) (hw : BlkAt w1 wb (ep c :: fp :: sT :: sG :: sP :: exs) tt) (hr : CR w1 lo T G P sT sG sP D) (hlen : T.length ≤ b ∧ G.length ≤ b ∧ P.length ≤ b)
    (hbs : Bytes w1 (some ⟨dg, 0, none⟩) bs) (hbl : bs.length = 512) (htg : ∃ cs fr, w1.heap[dg]? = some (.cells cs 5 fr)) (hdl : lo ≤ dg)
    (hown : w2.ownsRow lo 143 2 v2 (P.length + 1) (putC P D ++ [.int .i64 (x : Nat), .slice (some ⟨dg, 0, none⟩) 512 dc])) (hg : (w1.alloc o).grownBy w2 sP.ownBlock) (hat : v2.ownBlock = sP.ownBlock ∨ v2.ownBlock = some (w1.alloc o).heap.size) :
    BlkAt w2 wb (ep c :: fp :: sT :: sG :: sP :: exs) tt ∧ (∃ g cap, v2 = .slice (some ⟨g, 0, none⟩) (P.length + 1) cap) ∧ CJ LP w0 ws lo wb c tt fp exs (b + 1) T G (P ++ [(x, bs)]) (w2.setCell ⟨wb, 4, none⟩ v2) ∧ But (CT tt w1) w1 (w2.setCell ⟨wb, 4, none⟩ v2) ∧ But (fun k => k = wb ∨ sP.ownBlock = some k) w1 (w2.setCell ⟨wb, 4, none⟩ v2) := by
  obtain ⟨hw2, g, cap, rfl, hb2, ho2, hbut, hgo⟩ := app_field (i := 4) hw htt.n.2.1 hr.p hown hg hat
  have hf := ch_foreign htt hw hr.p (by unfold foreignT; decide)
  refine ⟨hw2, ⟨g, cap, rfl⟩, ⟨hL.more _ _ (hL.foreign b w1 _ _ hlp hbut hf), cmn_hi hfr hbut (fun k hk => ?_), hls, hlo, ⟨sT, sG, _, D ++ [(dg, dc)], hb2, ?_⟩, ?_⟩, ch_ct hw hr.p (.inr rfl) hbut, hbut⟩
  · rcases hk with rfl | hk
    · exact .inl (Nat.le_trans hls hlo)
    · exact .inl (Nat.le_trans hls (own_type hr.p hk).1)
  · have hSne : ∀ k cs t fr, w1.heap[k]? = some (.cells cs t fr) → t = 3 ∨ t = 5 → ¬ (k = wb ∨ sP.ownBlock = some k) := by
      rintro k cs t fr hk ht (rfl | hs)
      · rw [show w1.heap[k]? = _ from hw] at hk
        simp only [Option.some.injEq, Obj.cells.injEq] at hk
        rcases ht with e | e
        · exact htt.n.1 (hk.2.1.trans e)
        · exact htt.f.2.2.2.2.2.2.1 (hk.2.1.trans e)
      · obtain ⟨_, cs2, hc⟩ := own_type hr.p hs
        rw [hc] at hk
        simp only [Option.some.injEq, Obj.cells.injEq] at hk
        rcases ht with e | e
        · rw [e] at hk; exact absurd hk.2.1 (by decide)
        · rw [e] at hk; exact absurd hk.2.1 (by decide)
    refine ⟨own_butI hr.t hbut (fun k cs _ hk => hSne k cs _ _ hk (.inl rfl)), own_butI hr.g hbut (fun k cs _ hk => hSne k cs _ _ hk (.inl rfl)), hr.ap, ?_, by simp [hr.dl], ?_⟩
    · rw [putC_snoc P D _ _ hr.dl, List.length_append]; exact ho2
    · intro i p d h1 h2
      rw [List.getElem?_append] at h1 h2
      by_cases hi : i < P.length
      · rw [if_pos hi] at h1
        rw [if_pos (by rw [hr.dl]; exact hi)] at h2
        obtain ⟨h3, h4, ⟨cs, fr, h5⟩, h8⟩ := hr.d i p d h1 h2
        obtain ⟨h6, h7⟩ := bytes_kept h3 ⟨cs, fr, h5⟩ hbut (hSne d.1 cs 5 fr h5 (.inr rfl))
        exact ⟨h6, h4, h7, h8⟩
      · rw [if_neg hi] at h1
        rw [if_neg (by rw [hr.dl]; exact hi)] at h2
        have hi0 : i - P.length = 0 := by
          have := (List.getElem?_eq_some_iff.1 h1).1
          simp at this; omega
        rw [hi0] at h1
        rw [hr.dl, hi0] at h2
        simp only [List.getElem?_cons_zero, Option.some.injEq] at h1 h2
        subst h1; subst h2
        obtain ⟨cs, fr, h5⟩ := htg
        obtain ⟨h6, h7⟩ := bytes_kept hbs ⟨cs, fr, h5⟩ hbut (hSne dg cs 5 fr h5 (.inr rfl))
        exact ⟨h6, hbl, h7, hdl⟩
  · rw [List.length_append]; simp; omega

set_option maxRecDepth 8000 in
set_option maxHeartbeats 1000000 in
theorem give_J (hL : LPok LP w0 c nb V) (htt : okTT tt) (h : CJ LP w0 ws lo wb c tt fp exs b T G P w) (hb : b < 700000) (n : BitVec 32) :
    Calls Tryz.prog 45 #[.pointer (some ⟨wb, 0, none⟩), u32v n] w fun e w' => e = .returned (.tuple #[]) ∧ CJ LP w0 ws lo wb c tt fp exs (b + 1) T (G ++ [n.toNat]) P w' ∧ But (CT tt w) w w' := by
  obtain ⟨sT, sG, sP, D, hw, hr⟩ := h.blk
  have hlt := n.isLt
  have d1 : w.cell? ⟨wb, 3, none⟩ = some sG := hw.cell (i := 3) rfl
  obtain ⟨k0, hk0, hx0, hx1, hx2⟩ := info_parts Tryz.infoI
  have hcv : IntKind.i64.wrap (n.toNat : Int) = (n.toNat : Int) := by rw [IntKind.wrap_i64]; omega
  have hlen := h.len
  have hsz := h.size
  have HC : Hid (CJ LP w0 ws lo wb c tt fp exs b T G P w ∧ BlkAt w wb (ep c :: fp :: sT :: sG :: sP :: exs) tt ∧ CR w lo T G P sT sG sP D) := ⟨h, hw, hr⟩
  unfold u32v
  have hform : sG = .slice none 0 0 ∨ ∃ g cap, sG = .slice (some ⟨g, 0, none⟩) G.length cap := by
    rcases hr.g.2 with ⟨e, _⟩ | ⟨g, cap, _, e, _⟩
    · exact .inl e
    · exact .inr ⟨g, cap, e⟩
  clear hw hr h
  rcases hform with hs | ⟨gs, gc, hs⟩
  all_goals
    rw [hs] at d1
    go_enter Tryz.func45, Tryz.ntmps45
    go_wp2_with (at_builtin; refine Stop.out ?_)
    refine Stop.mk ?_
    refine wpList_append_own_at _ rfl _ _ 65 rfl lo 3 k0 (.int .i64 0) 1 8 Tryz.underlying65 hk0 hx0 hx1 hx2 rfl (by decide) sG G.length (G.map i64n) (by rw [hs]; rfl) (HC.out.2.2.g.alloc _) ⟨w.heap.size, 0, none⟩ 1 1 [i64n n.toNat] rfl rfl (cell_one_new _ _ _) (by intro u hu; rw [List.mem_singleton.1 hu]; rfl) (by unfold maxLen; omega) (by omega) (by simp; omega) ?_
    intro v2 w2 hown2 hg2 _ hat2
    obtain ⟨hw2, ⟨g, cap, rfl⟩, H1, H2, _⟩ := CJ.gave hL htt HC.out.1.lp HC.out.1.fr HC.out.1.hlo HC.out.1.lo HC.out.2.1 HC.out.2.2 HC.out.1.len hown2 hg2 hat2
    have d3 : w2.cell? ⟨wb, 3, none⟩ = some sG := hw2.cell (i := 3) rfl
    rw [hs] at d3
    have f3 : w2.frozen? ⟨wb, 3, none⟩ = false := frozenOf hw2 _
    have HF := hide (And.intro H1 H2)
    clear hown2 hg2 hat2 hw2 H1 H2
    go_wp2
    go_end0
    exact ⟨rfl, HF.out.1, HF.out.2⟩

set_option maxRecDepth 8000 in
set_option maxHeartbeats 1000000 in
theorem put_J (hL : LPok LP w0 c nb V) (htt : okTT tt) (h : CJ LP w0 ws lo wb c tt fp exs b T G P w) (hb : b < 700000) (n : BitVec 32) (dg dc : Nat) (bs : By) (hbs : Bytes w (some ⟨dg, 0, none⟩) bs) (hbl : bs.length = 512) (htg : ∃ cs fr, w.heap[dg]? = some (.cells cs 5 fr)) (hdl : lo ≤ dg) :
    Calls Tryz.prog 64 #[.pointer (some ⟨wb, 0, none⟩), u32v n, .slice (some ⟨dg, 0, none⟩) 512 dc] w fun e w' => e = .returned (.tuple #[]) ∧ CJ LP w0 ws lo wb c tt fp exs (b + 1) T G (P ++ [(n.toNat, bs)]) w' ∧ But (CT tt w) w w' := by
  obtain ⟨sT, sG, sP, D, hw, hr⟩ := h.blk
  have hlt := n.isLt
  have d1 : w.cell? ⟨wb, 4, none⟩ = some sP := hw.cell (i := 4) rfl
  obtain ⟨k0, hk0, hx0, hx1, hx2⟩ := info_parts Tryz.infoAPut
  have hcv : IntKind.i64.wrap (n.toNat : Int) = (n.toNat : Int) := by rw [IntKind.wrap_i64]; omega
  have hlen := h.len
  have hsz := h.size
  have HC : Hid (CJ LP w0 ws lo wb c tt fp exs b T G P w ∧ BlkAt w wb (ep c :: fp :: sT :: sG :: sP :: exs) tt ∧ CR w lo T G P sT sG sP D ∧ Bytes w (some ⟨dg, 0, none⟩) bs ∧ bs.length = 512 ∧ ∃ cs fr, w.heap[dg]? = some (.cells cs 5 fr)) := ⟨h, hw, hr, hbs, hbl, htg⟩
  unfold u32v
  have hform : sP = .slice none 0 0 ∨ ∃ g cap, sP = .slice (some ⟨g, 0, none⟩) P.length cap := by
    rcases hr.p.2 with ⟨e, _⟩ | ⟨g, cap, _, e, _⟩
    · exact .inl e
    · exact .inr ⟨g, cap, e⟩
  clear hw hr h hbs hbl htg
  rcases hform with hs | ⟨gs, gc, hs⟩
  all_goals
    rw [hs] at d1
    go_enter Tryz.func64, Tryz.ntmps64
    go_wp2_with (at_builtin; refine Stop.out ?_)
    refine Stop.mk ?_
    refine wpList_append_own_at _ rfl _ _ 66 rfl lo 143 k0 (.agg #[.int .i64 0, .slice none 0 0]) 2 32 Tryz.underlying66 hk0 hx0 hx1 hx2 rfl (by decide) sP P.length (putC P D) (by rw [hs]; rfl) (HC.out.2.2.1.p.alloc _) ⟨w.heap.size, 0, none⟩ 1 1 [.int .i64 (n.toNat : Nat), .slice (some ⟨dg, 0, none⟩) 512 dc] rfl rfl (cell_two_new _ _ _ _) (by intro u hu; simp at hu; rcases hu with rfl | rfl <;> rfl) (by unfold maxLen; omega) (by omega) (by simp; omega) ?_
    intro v2 w2 hown2 hg2 _ hat2
    obtain ⟨hw2, ⟨g, cap, rfl⟩, H1, H2, _⟩ := CJ.puts hL htt HC.out.1.lp HC.out.1.fr HC.out.1.hlo HC.out.1.lo HC.out.2.1 HC.out.2.2.1 HC.out.1.len HC.out.2.2.2.1 HC.out.2.2.2.2.1 HC.out.2.2.2.2.2 hdl hown2 hg2 hat2
    have d3 : w2.cell? ⟨wb, 4, none⟩ = some sP := hw2.cell (i := 4) rfl
    rw [hs] at d3
    have f3 : w2.frozen? ⟨wb, 4, none⟩ = false := frozenOf hw2 _
    have HF := hide (And.intro H1 H2)
    clear hown2 hg2 hat2 hw2 H1 H2
    go_wp2
    go_end0
    exact ⟨rfl, HF.out.1, HF.out.2⟩

set_option maxRecDepth 8000 in
set_option maxHeartbeats 1000000 in
theorem get_J (hL : LPok LP w0 c nb V) (htt : okTT tt) (h : CJ LP w0 ws lo wb c tt fp exs b T G P w) (hb : b < 700000) (n : BitVec 32) (hn : n.toNat < nb) :
    Calls Tryz.prog 47 #[.pointer (some ⟨wb, 0, none⟩), u32v n] w fun e w' => ∃ g cap, e = .returned (.tuple #[.slice (some ⟨g, 0, none⟩) 512 cap, .int .i64 0]) ∧ (∀ w'', But (fun k => k = g) w' w'' → CJ LP w0 ws lo wb c tt fp exs (b + 1) T G P w'') ∧ But (Cmn w0 w) w w' ∧ w'.ownsRow w.heap.size 5 1 (.slice (some ⟨g, 0, none⟩) 512 cap) 512 ((V n.toNat).map u8v) ∧ (V n.toNat).length = 512 := by
  obtain ⟨sT, sG, sP, D, hw, hr⟩ := h.blk
  have hlt := n.isLt
  have d0 : w.cell? ⟨wb, 0, none⟩ = some (ep c) := hw.cell (i := 0) rfl
  have hcv : IntKind.i64.wrap (n.toNat : Int) = (n.toNat : Int) := by rw [IntKind.wrap_i64]; omega
  have cG := hL.get b w n.toNat h.lp (by omega) hn
  have HC := hide h
  unfold u32v
  clear hw hr h
  go_enter Tryz.func47, Tryz.ntmps47
  go_wp2_with (go_at_call 68; refine cG.mono ?_; rintro e w1 ⟨g, cap, rfl, h1, h2, h3⟩; clear cG)
  go_ret2
  refine ⟨g, cap, rfl, fun w'' hb => HC.out.cache htt ⟨hb.os.trans h2.os, hb.tape.trans h2.tape, hb.output.trans h2.output, Nat.le_trans h2.size hb.size, fun k hk hn => (hb.block k (Nat.lt_of_lt_of_le hk h2.size) (fun e => ?_)).trans (h2.block k hk hn)⟩ (h1 w'' hb), h2, h3⟩
  have h4 := (own_type h3.1 (k := g) rfl).1
  have : k = g := e
  omega
set_option maxRecDepth 8000 in
set_option maxHeartbeats 1000000 in
theorem getbad_J (hL : LPok LP w0 c nb V) (h : CJ LP w0 ws lo wb c tt fp exs b T G P w) (n : BitVec 32) (hn : nb ≤ n.toNat) :
    Calls Tryz.prog 47 #[.pointer (some ⟨wb, 0, none⟩), u32v n] w fun e w' => e = .returned (.tuple #[.slice none 0 0, .int .i64 22]) ∧ Below w.heap.size w w' := by
  obtain ⟨sT, sG, sP, D, hw, hr⟩ := h.blk
  have hlt := n.isLt
  have d0 : w.cell? ⟨wb, 0, none⟩ = some (ep c) := hw.cell (i := 0) rfl
  have hcv : IntKind.i64.wrap (n.toNat : Int) = (n.toNat : Int) := by rw [IntKind.wrap_i64]; omega
  have cG := hL.bad b w n.toNat h.lp hn hlt
  unfold u32v
  clear hw hr h
  go_enter Tryz.func47, Tryz.ntmps47
  go_wp2_with (go_at_call 68; refine Calls_on cG ?_; clear cG)
  go_ret2
  exact ⟨rfl, Below.refl _ _⟩

end
end Go.Proofs.YtebdgcoandfocaaGreatDoor

/-
  Package inode: take and find over a write in memory; the hands of a write.
-/
namespace Go.Proofs.YtebdgcoandfocaaGreatDoor
open Go.RowKit Go.Maps Go.Sort Go.Shelf

/-- A map of which k free numbers are taken, from the least on. -/
structure MR (U0 : Nat → Bool) (n k : Nat) (mf : Bm.MS) : Prop where
  nn : mf.n = n
  le : n ≤ 65536
  us : ∀ x, x < n → (Bm.used mf.ws x = true ↔ U0 x = true ∨ x ∈ (Ino.frees n U0).take k)
theorem MR.least {U0 : Nat → Bool} {n k r : Nat} {mf : Bm.MS} (h : MR U0 n k mf) (hr : (Ino.frees n U0)[k]? = some r) : Least mf r := by
  obtain ⟨h1, h2, h3, h4⟩ := Ino.frees_next hr
  refine ⟨by rw [h.nn]; exact h1, ?_, fun i hi => (h.us i (by omega)).2 (h4 i hi)⟩
  cases hu : Bm.used mf.ws r with
  | false => rfl
  | true =>
    rcases (h.us r h1).1 hu with e | e
    · rw [h2] at e; cases e
    · exact absurd e h3
theorem MR.step {U0 : Nat → Bool} {n k r : Nat} {mf : Bm.MS} (h : MR U0 n k mf) (hf : Bm.Fit mf.n mf.ws) (hr : (Ino.frees n U0)[k]? = some r) : MR U0 n (k + 1) (mf.turn r) := by
  have hl := h.least hr
  have hrn : r < n := by rw [← h.nn]; exact hl.1
  refine ⟨h.nn, h.le, fun x hx => ?_⟩
  show Bm.used (Bm.turned mf.ws r) x = true ↔ _
  rw [Bm.turned_used (by have h1 := hf.len; have h2 := hl.1; omega), List.take_add_one, hr]
  by_cases hxr : x = r
  · subst hxr
    rw [if_pos rfl, hl.2.1]
    simp
  · rw [if_neg hxr, h.us x hx]
    simp [hxr]

section
variable {LP : Nat → World → Prop} {w0 ws : World} {lo wb c nb : Nat} {V : Nat → By} {tt : TypeId} {exs : List Value} {b : Nat} {G : List Nat} {P : List (Nat × By)} {w : World}

theorem map_mb {w : World} {mf : Bm.MS} (h : Bm.MapAt w mf) : ∃ cs, w.heap[mf.b]? = some (.cells cs 61 (0, 0)) := by
  obtain ⟨cs, h1, _⟩ := h.row
  exact ⟨cs, h1⟩

set_option maxRecDepth 8000 in
set_option maxHeartbeats 1000000 in
theorem take_J (hL : LPok LP w0 c nb V) (htt : okTT tt) {U0 : Nat → Bool} {n k : Nat} {mf : Bm.MS} (h : CJ LP w0 ws lo wb c tt (.pointer (some ⟨mf.a, 0, none⟩)) exs b ((Ino.frees n U0).take k) G P w) (hb : b < 700000) (hM : MR U0 n k mf) (hm : Bm.MapAt w mf) (hmb : ws.heap.size ≤ mf.b) (ht : Bm.Tab64 w) :
    Calls Tryz.prog 63 #[.pointer (some ⟨wb, 0, none⟩)] w fun e w' => (∃ r, (Ino.frees n U0)[k]? = some r ∧ e = .returned (.tuple #[u32v (BitVec.ofNat 32 r), .int .i64 0]) ∧ CJ LP w0 ws lo wb c tt (.pointer (some ⟨mf.a, 0, none⟩)) exs (b + 1) ((Ino.frees n U0).take (k + 1)) G P w' ∧ Bm.MapAt w' (mf.turn r) ∧ But (fun j => CT tt w j ∨ j = mf.b) w w') ∨
      ((Ino.frees n U0)[k]? = none ∧ e = .returned (.tuple #[u32v 0, .int .i64 28]) ∧ CJ LP w0 ws lo wb c tt (.pointer (some ⟨mf.a, 0, none⟩)) exs (b + 1) ((Ino.frees n U0).take k) G P w' ∧ Bm.MapAt w' mf ∧ But (fun j => CT tt w j ∨ j = mf.b) w w') := by
  have ct := Bm.take_any mf w hm ht
  obtain ⟨sT0, sG0, sP0, D0, hw0, _⟩ := h.blk
  have d1 : w.cell? ⟨wb, 1, none⟩ = some (.pointer (some ⟨mf.a, 0, none⟩)) := hw0.cell (i := 1) rfl
  have hfor : ∀ w1, But (fun j => j = mf.b) w w1 → CJ LP w0 ws lo wb c tt (.pointer (some ⟨mf.a, 0, none⟩)) exs b ((Ino.frees n U0).take k) G P w1 := fun w1 hb1 => h.foreign hL hb1 (by
    rintro j rfl
    obtain ⟨cs, hc⟩ := map_mb hm
    exact ⟨hmb, cs, _, _, hc, by unfold foreignT; decide, by decide, by decide, htt.n.2.2.1.symm⟩)
  have hsz := h.size
  have hlen := h.len
  have HM := hide (And.intro hM hm)
  clear hw0 h hm ht
  cases hr : (Ino.frees n U0)[k]? with
  | none =>
    have hall := Ino.frees_none hr
    have ct' : Calls Tryz.prog 84 #[.pointer (some ⟨mf.a, 0, none⟩)] w fun e w' => e = .returned (.tuple #[.int .i64 0, .int .i64 28]) ∧ Bm.MapAt w' mf ∧ But (fun j => j = mf.b) w w' := ct.mono (by
      rintro e w1 ⟨m1, ⟨r, hfr, ho⟩, hm1, hb1⟩
      rcases ho with ⟨_, rfl, rfl⟩ | ⟨hlt, _, _⟩
      · exact ⟨rfl, hm1, only_but hb1⟩
      · have h1 := hfr.yes hlt
        have hrn : r < n := by rw [← hM.nn]; exact hlt
        rw [(hM.us r hrn).2 (hall r hrn)] at h1
        cases h1)
    clear ct hr hall
    go_enter Tryz.func63, Tryz.ntmps63
    go_wp2_with (go_at_call 84; refine ct'.mono ?_; rintro e w1 ⟨rfl, hm1, hb1⟩; clear ct')
    go_ret2
    have h1 := hfor w1 hb1
    exact .inr ⟨trivial, rfl, ⟨hL.more _ _ h1.lp, h1.fr, h1.hlo, h1.lo, h1.blk, by omega, by omega, by omega⟩, hm1, hb1.mono (fun _ _ e => .inr e)⟩
  | some r =>
    have hle := hM.least hr
    have hrn : r < 65536 := by have := hle.1; have := hM.le; have := hM.nn; omega
    have ct' : Calls Tryz.prog 84 #[.pointer (some ⟨mf.a, 0, none⟩)] w fun e w' => e = .returned (.tuple #[.int .i64 r, .int .i64 0]) ∧ Bm.MapAt w' (mf.turn r) ∧ But (fun j => j = mf.b) w w' := ct.mono (by
      rintro e w1 ⟨m1, ho, hm1, hb1⟩
      obtain ⟨rfl, rfl⟩ := take_least hle ho
      exact ⟨rfl, hm1, only_but hb1⟩)
    have hcv : IntKind.u32.wrap (r : Int) = (r : Int) := by rw [IntKind.wrap_u32]; omega
    have htk : (Ino.frees n U0).take (k + 1) = (Ino.frees n U0).take k ++ [r] := by rw [List.take_add_one, hr]; rfl
    have e32 : u32v (BitVec.ofNat 32 r) = .int .u32 (r : Int) := by unfold u32v; rw [BitVec.toNat_ofNat, Nat.mod_eq_of_lt (by omega)]
    refine (show Calls Tryz.prog 63 #[.pointer (some ⟨wb, 0, none⟩)] w (fun e w' => e = .returned (.tuple #[.int .u32 (r : Int), .int .i64 0]) ∧ CJ LP w0 ws lo wb c tt (.pointer (some ⟨mf.a, 0, none⟩)) exs (b + 1) ((Ino.frees n U0).take k ++ [r]) G P w' ∧ Bm.MapAt w' (mf.turn r) ∧ But (fun j => CT tt w j ∨ j = mf.b) w w') from ?_).mono (by
      rintro e w' ⟨rfl, h⟩
      rw [htk]
      exact .inl ⟨r, rfl, by rw [e32], h⟩)
    clear htk hM hr hle e32
    generalize (Ino.frees n U0).take k = T at hfor hlen HM ⊢
    obtain ⟨k0, hk0, hx0, hx1, hx2⟩ := info_parts Tryz.infoI
    clear ct
    go_enter Tryz.func63, Tryz.ntmps63
    go_wp2_with (go_at_call 84; refine ct'.mono ?_; rintro e w1 ⟨rfl, hm1, hb1⟩; clear ct'; refine Stop.out ?_)
    refine Stop.mk ?_
    have h1 := hfor w1 hb1
    obtain ⟨sT, sG, sP, D, hw, hrr⟩ := h1.blk
    have d2 : w1.cell? ⟨wb, 2, none⟩ = some sT := hw.cell (i := 2) rfl
    have HC : Hid (CJ LP w0 ws lo wb c tt (.pointer (some ⟨mf.a, 0, none⟩)) exs b T G P w1 ∧ BlkAt w1 wb (ep c :: .pointer (some ⟨mf.a, 0, none⟩) :: sT :: sG :: sP :: exs) tt ∧ CR w1 lo T G P sT sG sP D ∧ Bm.MapAt w1 (mf.turn r) ∧ But (fun j => j = mf.b) w w1) := ⟨h1, hw, hrr, hm1, hb1⟩
    have hform : sT = .slice none 0 0 ∨ ∃ g cap, sT = .slice (some ⟨g, 0, none⟩) T.length cap := by
      rcases hrr.t.2 with ⟨e, _⟩ | ⟨g, cap, _, e, _⟩
      · exact .inl e
      · exact .inr ⟨g, cap, e⟩
    have hz1 := hb1.size
    have hmt : mf.b = (mf.turn r).b := rfl
    clear h1 hw hrr hm1 hb1 hfor d1
    rcases hform with hs | ⟨gs, gc, hs⟩
    all_goals
      rw [hs] at d2
      go_wp2_with (at_builtin; refine Stop.out ?_)
      refine Stop.mk ?_
      refine wpList_append_own_at _ rfl _ _ 65 rfl lo 3 k0 (.int .i64 0) 1 8 Tryz.underlying65 hk0 hx0 hx1 hx2 rfl (by decide) sT T.length (T.map i64n) (by rw [hs]; rfl) (HC.out.2.2.1.t.alloc _) ⟨w1.heap.size, 0, none⟩ 1 1 [i64n r] rfl rfl (cell_one_new _ _ _) (by intro u hu; rw [List.mem_singleton.1 hu]; rfl) (by unfold maxLen; omega) (by omega) (by simp; omega) ?_
      intro v2 w2 hown2 hg2 _ hat2
      obtain ⟨hw2, ⟨g, cap, rfl⟩, H1, H2, H3⟩ := CJ.took hL htt HC.out.1.lp HC.out.1.fr HC.out.1.hlo HC.out.1.lo HC.out.2.1 HC.out.2.2.1 HC.out.1.len hown2 hg2 hat2
      have d3 : w2.cell? ⟨wb, 2, none⟩ = some sT := hw2.cell (i := 2) rfl
      rw [hs] at d3
      have f3 : w2.frozen? ⟨wb, 2, none⟩ = false := frozenOf hw2 _
      have hmf : Bm.MapAt (w2.setCell ⟨wb, 2, none⟩ (.slice (some ⟨g, 0, none⟩) (T.length + 1) cap)) (mf.turn r) := by
        refine HC.out.2.2.2.1.keep (but_only H3) ?_ ?_
        · rintro (e | e)
          · exact map_a_ne HC.out.2.2.2.1 HC.out.2.1 htt.n.2.2.2.1 e.symm
          · obtain ⟨_, cs, hc⟩ := own_type HC.out.2.2.1.t e
            rw [HC.out.2.2.2.1.st] at hc
            simp only [Option.some.injEq, Obj.cells.injEq] at hc
            exact absurd hc.2.1 (by decide)
        · rintro (e | e)
          · exact map_b_ne HC.out.2.2.2.1 HC.out.2.1 htt.n.2.2.1 e.symm
          · obtain ⟨_, cs, hc⟩ := own_type HC.out.2.2.1.t e
            obtain ⟨cs', hc'⟩ := map_mb HC.out.2.2.2.1
            rw [hc'] at hc
            simp only [Option.some.injEq, Obj.cells.injEq] at hc
            exact absurd hc.2.1 (by decide)
      have hbt : But (fun j => CT tt w j ∨ j = mf.b) w (w2.setCell ⟨wb, 2, none⟩ (.slice (some ⟨g, 0, none⟩) (T.length + 1) cap)) := by
        have hb1 := HC.out.2.2.2.2
        refine ⟨H2.os.trans hb1.os, H2.tape.trans hb1.tape, H2.output.trans hb1.output, Nat.le_trans hb1.size H2.size, fun j hj hn => ?_⟩
        have e1 := hb1.block j hj (fun e => hn (.inr e))
        refine (H2.block j (Nat.lt_of_lt_of_le hj hb1.size) fun hc => hn (.inl fun cs t fr hh => ?_)).trans e1
        exact hc cs t fr (e1.trans hh)
      have HF := hide (And.intro H1 (And.intro hmf hbt))
      clear hown2 hg2 hat2 hw2 H1 H2 H3 hmf hbt
      go_wp2
      go_ret2
      exact ⟨rfl, HF.out⟩

end
end Go.Proofs.YtebdgcoandfocaaGreatDoor

namespace Go.Proofs.YtebdgcoandfocaaGreatDoor
open Go.RowKit Go.Maps Go.Sort Go.Shelf

/-- What a walk has gathered: budget, how many numbers are taken, those given, puts, spots. -/
structure WS where
  b : Nat
  k : Nat
  G : List Nat
  P : List (Nat × By)
  X : List (Nat × BitVec 32 × Bool)
def tk (F : List Nat) (s : WS) : BitVec 32 × Int × WS := match F[s.k]? with
  | some r => (BitVec.ofNat 32 r, 0, { s with b := s.b + 1, k := s.k + 1 })
  | none => (0, 28, { s with b := s.b + 1 })
def wOps (F : List Nat) (nb : Nat) (V : Nat → By) : Ino.Ops WS where
  take := tk F
  get s x := if x.toNat < nb then (tabOf (V x.toNat), 0, { s with b := s.b + 1 }) else (Ino.zT, 22, { s with b := s.b + 1 })
  give s x := { s with b := s.b + 1, G := s.G ++ [x.toNat] }
  put s x bs := { s with b := s.b + 1, P := s.P ++ [(x.toNat, bs)] }
def fnd (F : List Nat) : Ino.Stp WS := fun p x s =>
  if x = 0 then (if (tk F s).2.1 = 0 then ((tk F s).1, 0, { (tk F s).2.2 with b := (tk F s).2.2.b + 1, X := (tk F s).2.2.X ++ [(p, (tk F s).1, true)] }) else (0, (tk F s).2))
  else (x, 0, { s with b := s.b + 1, X := s.X ++ [(p, x, false)] })
theorem tk_b (F : List Nat) (s : WS) : (tk F s).2.2.b = s.b + 1 := by unfold tk; split <;> rfl
theorem w_cost (F : List Nat) (nb : Nat) (V : Nat → By) : Ino.Cost (wOps F nb V) (·.b) := by
  refine ⟨fun s => ?_, fun s n => ?_, fun s n => Nat.le_refl _, fun s n b => Nat.le_refl _⟩
  · show (tk F s).2.2.b ≤ _; rw [tk_b]; exact Nat.le_refl _
  · show (if n.toNat < nb then _ else _ : List (BitVec 32) × Int × WS).2.2.b ≤ _
    split <;> exact Nat.le_refl _
theorem w_len (F : List Nat) (nb : Nat) (V : Nat → By) (s : WS) (n : BitVec 32) : ((wOps F nb V).get s n).1.length = 64 ∨ ((wOps F nb V).get s n).2.1 ≠ 0 := by
  show (if n.toNat < nb then _ else _ : List (BitVec 32) × Int × WS).1.length = 64 ∨ _
  split
  · left; simp [tabOf]
  · left; rfl
theorem fnd_cost (F : List Nat) (p : Nat) (x : BitVec 32) (s : WS) : (fnd F p x s).2.2.b ≤ s.b + 4 := by
  have := tk_b F s
  unfold fnd
  split
  · split
    · show (tk F s).2.2.b + 1 ≤ _; omega
    · show (tk F s).2.2.b ≤ _; omega
  · show s.b + 1 ≤ _; omega

def spotC (X : List (Nat × BitVec 32 × Bool)) : List Value := X.flatMap fun x => [.int .i64 (x.1 : Nat), u32v x.2.1, .bool x.2.2]

section
variable {LP : Nat → World → Prop} {w0 ws : World} {wb c nb : Nat} {V : Nat → By} {U0 : Nat → Bool} {n at_ : Nat} {pb : Option Addr} {bl bc : Nat}

/-- A write in memory. -/
structure WJ (LP : Nat → World → Prop) (w0 ws : World) (wb c : Nat) (U0 : Nat → Bool) (n at_ : Nat) (pb : Option Addr) (bl bc : Nat) (s : WS) (w : World) : Prop where
  ex : ∃ (mf : Bm.MS) (sX : Value), CJ LP w0 ws ws.heap.size wb c 71 (.pointer (some ⟨mf.a, 0, none⟩)) [.int .i64 (at_ : Nat), .slice pb bl bc, sX] s.b ((Ino.frees n U0).take s.k) s.G s.P w ∧ Bm.MapAt w mf ∧ MR U0 n s.k mf ∧ ws.heap.size ≤ mf.a ∧ ws.heap.size ≤ mf.b ∧ w.ownsRow ws.heap.size 102 3 sX s.X.length (spotC s.X)
  xl : s.X.length ≤ s.b

theorem okW : okTT 71 := ⟨by unfold foreignT; decide, by decide⟩
theorem tab_ws {w : World} (ht : Bm.Tab64 ws) (h6 : 1 < w0.heap.size) (hf : But (Cmn w0 ws) ws w) : Bm.Tab64 w := ht.keep (but_only hf) (fun h => by have := h.1; omega)
theorem ct_spot {tt : TypeId} (htt : okTT tt) {w : World} {j : Nat} {cs : Array Value} {fr : Nat × Nat} (hj : w.heap[j]? = some (.cells cs 102 fr)) : ¬ CT tt w j := fun hc => by
  rcases hc _ _ _ hj with e | e | e | e | e | e
  all_goals first | exact absurd e (by decide) | exact htt.n.2.2.2.2.2.2.2.1 e.symm
theorem ct_u64 {tt : TypeId} (htt : okTT tt) {w : World} {j : Nat} {cs : Array Value} {fr : Nat × Nat} (hj : w.heap[j]? = some (.cells cs 61 fr)) : ¬ CT tt w j := fun hc => by
  rcases hc _ _ _ hj with e | e | e | e | e | e
  all_goals first | exact absurd e (by decide) | exact htt.n.2.2.1 e.symm
theorem ct_map {tt : TypeId} (htt : okTT tt) {w : World} {j : Nat} {cs : Array Value} {fr : Nat × Nat} (hj : w.heap[j]? = some (.cells cs 60 fr)) : ¬ CT tt w j := fun hc => by
  rcases hc _ _ _ hj with e | e | e | e | e | e
  all_goals first | exact absurd e (by decide) | exact htt.n.2.2.2.1 e.symm
theorem ct_bytes {tt : TypeId} (htt : okTT tt) {w : World} {j : Nat} {cs : Array Value} {fr : Nat × Nat} (hj : w.heap[j]? = some (.cells cs 5 fr)) : ¬ CT tt w j := fun hc => by
  rcases hc _ _ _ hj with e | e | e | e | e | e
  all_goals first | exact absurd e (by decide) | exact htt.f.2.2.2.2.2.2.1 e.symm
theorem map_ct {tt : TypeId} (htt : okTT tt) {w w' : World} {mf : Bm.MS} (hm : Bm.MapAt w mf) (hb : But (CT tt w) w w') : Bm.MapAt w' mf := by
  obtain ⟨cs, hc⟩ := map_mb hm
  exact hm.keep (but_only hb) (ct_map htt hm.st) (ct_u64 htt hc)
theorem spot_ct {tt : TypeId} (htt : okTT tt) {w w' : World} {base n : Nat} {v : Value} {xs : List Value} (h : w.ownsRow base 102 3 v n xs) (hb : But (CT tt w) w w') : w'.ownsRow base 102 3 v n xs := own_butI h hb (fun _ _ _ hk => ct_spot htt hk)

theorem WJ.step {s : WS} {w w' : World} {b' : Nat} {G' : List Nat} {P' : List (Nat × By)} (hb : But (CT 71 w) w w')
    {mf : Bm.MS} {sX : Value} (h2 : Bm.MapAt w mf) (h3 : MR U0 n s.k mf) (h4 : ws.heap.size ≤ mf.a) (h5 : ws.heap.size ≤ mf.b) (h6 : w.ownsRow ws.heap.size 102 3 sX s.X.length (spotC s.X)) (hx : s.X.length ≤ s.b) (hbb : s.b ≤ b')
    (h1 : CJ LP w0 ws ws.heap.size wb c 71 (.pointer (some ⟨mf.a, 0, none⟩)) [.int .i64 (at_ : Nat), .slice pb bl bc, sX] b' ((Ino.frees n U0).take s.k) G' P' w') : WJ LP w0 ws wb c U0 n at_ pb bl bc ⟨b', s.k, G', P', s.X⟩ w' :=
  ⟨⟨mf, sX, h1, map_ct okW h2 hb, h3, h4, h5, spot_ct okW h6 hb⟩, Nat.le_trans hx hbb⟩

set_option maxRecDepth 8000 in
set_option maxHeartbeats 1000000 in
/-- A spot more. -/
theorem find_app (hL : LPok LP w0 c nb V) {s : WS} {w : World} (h : WJ LP w0 ws wb c U0 n at_ pb bl bc s w) (p : Nat) (x : BitVec 32) (fr : Bool) {w2 : World} {v2 sX : Value} {o : Obj} {mf : Bm.MS} (h1 : CJ LP w0 ws ws.heap.size wb c 71 (.pointer (some ⟨mf.a, 0, none⟩)) [.int .i64 (at_ : Nat), .slice pb bl bc, sX] s.b ((Ino.frees n U0).take s.k) s.G s.P w) (h2 : Bm.MapAt w mf) (h3 : MR U0 n s.k mf) (h4 : ws.heap.size ≤ mf.a) (h5 : ws.heap.size ≤ mf.b) (h6 : w.ownsRow ws.heap.size 102 3 sX s.X.length (spotC s.X))
    (hown : w2.ownsRow ws.heap.size 102 3 v2 (s.X.length + 1) (spotC s.X ++ [.int .i64 (p : Nat), u32v x, .bool fr])) (hg : (w.alloc o).grownBy w2 sX.ownBlock) (hat : v2.ownBlock = sX.ownBlock ∨ v2.ownBlock = some (w.alloc o).heap.size) :
    (∃ cs, BlkAt w2 wb cs 71 ∧ cs[7]? = some sX) ∧ (∃ g cap, v2 = .slice (some ⟨g, 0, none⟩) (s.X.length + 1) cap) ∧ WJ LP w0 ws wb c U0 n at_ pb bl bc { s with b := s.b + 1, X := s.X ++ [(p, x, fr)] } (w2.setCell ⟨wb, 7, none⟩ v2) ∧ Kp none w (w2.setCell ⟨wb, 7, none⟩ v2) := by
  obtain ⟨sT, sG, sP, D, hw, hr⟩ := h1.blk
  obtain ⟨hw2, g, cap, rfl, hb2, ho2, hbut, hgo⟩ := app_field (i := 7) hw (by decide) h6 hown hg hat
  have hS : ∀ j cs t f, w.heap[j]? = some (.cells cs t f) → t ≠ 71 → t ≠ 102 → ¬ (j = wb ∨ sX.ownBlock = some j) := by
    rintro j cs t f hj ht1 ht2 (rfl | e)
    · rw [show w.heap[j]? = _ from hw] at hj
      simp only [Option.some.injEq, Obj.cells.injEq] at hj
      exact ht1 hj.2.1.symm
    · obtain ⟨_, cs2, hc⟩ := own_type h6 e
      rw [hc] at hj
      simp only [Option.some.injEq, Obj.cells.injEq] at hj
      exact ht2 hj.2.1.symm
  have hf := ch_foreign okW hw h6 (by unfold foreignT; decide)
  refine ⟨⟨_, hw2, rfl⟩, ⟨g, cap, rfl⟩, ⟨⟨mf, _, ⟨hL.more _ _ (hL.foreign _ _ _ _ h1.lp hbut hf), cmn_hi h1.fr hbut ?_, h1.hlo, h1.lo, ⟨sT, sG, sP, D, hb2, hr.but hbut (fun j cs t f hj ht => hS j cs t f hj ?_ ?_)⟩, ?_⟩, ?_, h3, h4, h5, ?_⟩, ?_⟩, hbut.size, fun j cs t f hj ht _ => (hbut.block j (Array.getElem?_eq_some_iff.1 hj).1 (hS j cs t f hj ?_ ?_)).trans hj⟩
  · rintro j (rfl | e)
    · exact .inl h1.lo
    · exact .inl (own_type h6 e).1
  · rcases ht with rfl | rfl | rfl <;> decide
  · rcases ht with rfl | rfl | rfl <;> decide
  · obtain ⟨l1, l2, l3⟩ := h1.len
    exact ⟨Nat.le_succ_of_le l1, Nat.le_succ_of_le l2, Nat.le_succ_of_le l3⟩
  · obtain ⟨cs, hc⟩ := map_mb h2
    exact h2.keep (but_only hbut) (hS _ _ _ _ h2.st (by decide) (by decide)) (hS _ _ _ _ hc (by decide) (by decide))
  · have e : spotC (s.X ++ [(p, x, fr)]) = spotC s.X ++ [.int .i64 (p : Nat), u32v x, .bool fr] := by unfold spotC; rw [List.flatMap_append]; rfl
    rw [e, List.length_append]; exact ho2
  · have := h.xl
    show (s.X ++ [(p, x, fr)]).length ≤ s.b + 1
    rw [List.length_append]; simp; omega
  · rcases ht with rfl | rfl | rfl <;> decide
  · rcases ht with rfl | rfl | rfl <;> decide

end
end Go.Proofs.YtebdgcoandfocaaGreatDoor
