/-
  A table of descriptors: Close, Get, New, Clear; no table.
-/
import Derived.Test.YtmbkheaghiojeaaHde
namespace Go.Proofs.Ytmbkheaghiojeaa.Ck
open Go.RowKit

abbrev zE : FE := ⟨false, 0, 0, 0, 0⟩
/-- A file was closed. -/
structure Shut (w0 w : World) (c : Nat) (F : Nat → FE) (k : Nat) (m : Nat) (I : List Nat) : Prop where
  td : TD w c (updF F k zE) m I
  on : OnC c w0 w

set_option maxRecDepth 8000 in
set_option maxHeartbeats 1000000 in
theorem fdClose_any (c : Nat) (F : Nat → FE) (m : Nat) (I : List Nat) (k : Nat) (w : World) (h : TD w c F m I) (hk : k < 32) (hop : (F k).op = true) :
    Calls Try.prog 10 #[ep c, .int .i64 k] w fun e w' => e = .returned (.int .i64 0) ∧ ∃ I', Shut w w' c F k m I' := by
  have cH := fdHas_in c F m I k w h hk
  rw [hop] at cH
  have hkI := (h.op k hk).1 hop
  have hlen : I.length < 32 := by
    have := List.Nodup.length_le_of_subset (l₁ := k :: I) (l₂ := List.range m) (List.nodup_cons.2 ⟨hkI.2, h.nodup⟩) fun a ha => List.mem_range.2 (by
      rcases List.mem_cons.1 ha with rfl | ha
      · exact hkI.1
      · exact h.lt a ha)
    have hm := h.met
    simp at this
    omega
  have cA := fnAdd_any c (updF F k zE) m k I _ (h.mem.setFE hk zE) hlen h.heap
  obtain ⟨y0, y1, y2, y3, y4, f0, f1, f2, f3, f4⟩ := h.mem.five hk
  have b1 : (0 : Int) ≤ (k : Int) := by omega
  have b2 : (k : Int) < 32 := by omega
  have HH : Hid (TD w c F m I ∧ k < m ∧ k ∉ I) := ⟨h, hkI⟩
  have HS : Hid (OnC c w (setFE w c k zE)) := OnC.setFE _ _ _ _
  unfold setFE at cA HS
  clear h hkI hop hlen
  go_enter Try.func10, Try.ntmps10
  go_wp2_with (first
    | (go_at_call 19; refine Calls_on cH ?_; clear cH)
    | (go_at_call 20; refine cA.mono ?_; rintro e w1 ⟨rfl, I', h1, h2, h3, h4⟩; have H1 : Hid (TM w1 c (updF F k zE) m I' ∧ I'.Perm (I ++ [k]) ∧ HeapF (kvOf idN I') I'.length ∧ OnC c w w1) := ⟨h1, h2, h3, HS.out.next h4⟩; clear h1 h2 h3 h4))
  go_ret
  obtain ⟨h1, h2, h3, h4⟩ := H1.out
  obtain ⟨h, hkm, hkI⟩ := HH.out
  refine ⟨rfl, I', ⟨h1, h3, h2.nodup_iff.2 (List.nodup_append.2 ⟨h.nodup, by simp, fun a ha b hb => ?_⟩), fun a ha => ?_, h.met, fun j hj => ?_⟩, h4⟩
  · simp only [List.mem_singleton] at hb
    subst hb
    exact fun e => hkI (e ▸ ha)
  · rcases List.mem_append.1 (h2.mem_iff.1 ha) with ha | ha
    · exact h.lt a ha
    · simp only [List.mem_singleton] at ha; omega
  · rw [h2.mem_iff, List.mem_append, List.mem_singleton]
    by_cases z : j = k
    · subst z
      rw [show updF F j zE j = zE from if_pos rfl]
      simp
    · rw [show updF F k zE j = F j from if_neg z, h.op j hj]
      constructor
      · rintro ⟨p, q⟩; exact ⟨p, fun x => x.elim q z⟩
      · rintro ⟨p, q⟩; exact ⟨p, fun x => q (.inl x)⟩

set_option maxRecDepth 8000 in
set_option maxHeartbeats 1000000 in
theorem fdClose_no (c : Nat) (F : Nat → FE) (m : Nat) (I : List Nat) (fd : Int) (w : World) (h : TD w c F m I) (ho : isO F fd = false) :
    Calls Try.prog 10 #[ep c, .int .i64 fd] w fun e w' => e = .returned (.int .i64 9) ∧ w' = w := by
  have cH := fdHas_any c F m I fd w h
  rw [ho] at cH
  clear h ho
  go_enter Try.func10, Try.ntmps10
  go_wp2_with (first
    | (go_at_call 19; refine Calls_on cH ?_; clear cH))
  go_ret
  exact ⟨rfl, rfl⟩

theorem results_row4 {fn : Func} {p t u v : Tmp} {ty : TypeId} {P : Program} (h : fn.results = #[.cell p ty, .tmp t, .tmp u, .tmp v]) (tmps : Array Value) (w : World) (g : Nat) (cs : Array Value)
    (hp : tmps.getD p undef = .pointer (some ⟨g, 0, none⟩)) (hld : (loadVar ty ⟨g, 0, none⟩).run P w = .ok (.agg cs) w) :
    (results fn tmps).run P w = .ok (.tuple #[.agg cs, tmps.getD t undef, tmps.getD u undef, tmps.getD v undef]) w := by
  have hp' : tmps[p]?.getD undef = .pointer (some ⟨g, 0, none⟩) := by simpa using hp
  simp [results, h, hp', asAddr, hld]
theorem loadID {w : World} {g : Nat} {t n : Int} (h : w.heap[g]? = some (.cells #[.int .i64 t, .int .i64 n] 28 (0, 0))) : (loadVar 28 ⟨g, 0, none⟩).run Try.prog w = .ok (.agg #[.int .i64 t, .int .i64 n]) w :=
  run_loadVar_row (P := Try.prog) w g 28 28 _ (0, 0) _ h Try.underlying28 rfl (by kernel_rfl)

set_option maxRecDepth 8000 in
set_option maxHeartbeats 1000000 in
theorem fdGet_no (c : Nat) (F : Nat → FE) (m : Nat) (I : List Nat) (fd : Int) (w : World) (h : TD w c F m I) (ho : isO F fd = false) :
    Calls Try.prog 13 #[ep c, .int .i64 fd] w fun e w' => e = .returned (.tuple #[.agg #[.int .i64 0, .int .i64 0], .int .i64 0, .int .i64 0, .int .i64 9]) ∧ Below w.heap.size w w' := by
  have HW := below_new w (.cells #[.int .i64 0, .int .i64 0] 28)
  have cH := fdHas_any c F m I fd _ (h.below HW.out)
  rw [ho] at cH
  clear h ho
  go_enter Try.func13, Try.ntmps13
  go_wp2_with (first
    | (go_at_call 19; refine Calls_on cH ?_; clear cH))
  exact bodyPost_ret (results_row4 rfl _ _ w.heap.size _ rfl (loadID (new_at _ _))) rfl ⟨rfl, HW.out⟩

set_option maxRecDepth 8000 in
set_option maxHeartbeats 2000000 in
theorem fdGet_yes (c : Nat) (F : Nat → FE) (m : Nat) (I : List Nat) (k : Nat) (w : World) (h : TD w c F m I) (hk : k < 32) (hop : (F k).op = true) :
    Calls Try.prog 13 #[ep c, .int .i64 k] w fun e w' => e = .returned (.tuple #[.agg #[.int .i64 (F k).t, .int .i64 (F k).n], .int .i64 (F k).fl, .int .i64 (F k).at', .int .i64 0]) ∧ Below w.heap.size w w' := by
  have HW := below_new w (.cells #[.int .i64 0, .int .i64 0] 28)
  have cH := fdHas_in c F m I k _ (h.below HW.out) hk
  rw [hop] at cH
  obtain ⟨y0, y1, y2, y3, y4, f0, f1, f2, f3, f4⟩ := (h.below HW.out).mem.five hk
  rw [hop] at y0
  have b1 : (0 : Int) ≤ (k : Int) := by omega
  have b2 : (k : Int) < 32 := by omega
  have HX : Hid ((∀ o t n, ((w.alloc (.cells #[.int .i64 t, .int .i64 n] 28)).alloc o).drew.heap[w.heap.size]? = some (.cells #[.int .i64 t, .int .i64 n] 28 (0, 0))) ∧ ∀ o o', Below w.heap.size w ((w.alloc o').alloc o).drew) := ⟨fun o t n => ((below_new _ o).out.block w.heap.size (by simp)).trans (new_at _ _), fun o o' => (below_two w o' o).out.trans ⟨rfl, rfl, rfl, Nat.le_refl _, fun _ _ => rfl⟩⟩
  have HC : Hid (c < w.heap.size) := h.mem.lt
  generalize (F k).t = t at *
  generalize (F k).n = n at *
  generalize (F k).fl = fl at *
  generalize (F k).at' = at2 at *
  clear h hop f0 f1 f2 f3 f4
  go_enter Try.func13, Try.ntmps13
  go_wp2_with (first
    | (go_at_call 19; refine Calls_on cH ?_; clear cH))
  go_region
  all_goals go_wp2_with fail
  all_goals exact bodyPost_ret (results_row4 rfl _ _ w.heap.size _ rfl (loadID (HX.out.1 _ _ _))) rfl ⟨rfl, HX.out.2 _ _⟩

theorem info54 : (Try.prog.info? 54).map (·.size) = some 194 := by kernel_rfl
def zV (i : Nat) : Value := bif (Nat.blt i 160) && (Nat.beq (i % 5) 0) then .bool false else .int .i64 0
def zT : Array Value := ((List.range 194).map zV).toArray
theorem zT_size : zT.size = 194 := by simp [zT]
theorem zero54 (w : World) : (zeroValue 54).run Try.prog w = .ok (.agg zT) w := by kernel_rfl
theorem zT_all : zT.all (·.oneCell') = true := by kernel_rfl
theorem zT_at (j : Nat) (hj : j < 194) : zT[j]? = some (zV j) := by
  simp [zT, hj]
theorem zV_int (j : Nat) (h : 160 ≤ j ∨ j % 5 ≠ 0) : zV j = .int .i64 0 := by
  have e : ((Nat.blt j 160) && (Nat.beq (j % 5) 0)) = false := by
    rcases h with h | h
    · have : Nat.blt j 160 = false := by cases q : Nat.blt j 160 with
        | true => exact absurd (Nat.le_of_ble_eq_true q) (by omega)
        | false => rfl
      rw [this]; rfl
    · have : Nat.beq (j % 5) 0 = false := by cases q : Nat.beq (j % 5) 0 with
        | true => exact absurd (Nat.eq_of_beq_eq_true q) h
        | false => rfl
      rw [this, Bool.and_false]
  unfold zV
  rw [e]; rfl
theorem zV_bool (j : Nat) (h : j < 160) (h5 : j % 5 = 0) : zV j = .bool false := by
  have e1 : Nat.blt j 160 = true := Nat.ble_eq_true_of_le h
  unfold zV
  rw [e1, h5]; rfl
theorem CS.zero : CS zT (fun _ => zE) 0 [] := by
  refine ⟨zT_size, (zT_at 160 (by omega)).trans (by rw [zV_int _ (by omega)]; rfl), (zT_at 193 (by omega)).trans (by rw [zV_int _ (by omega)]; rfl), fun k hk => ?_, fun k hk => ?_, fun k hk => ?_, fun k hk => ?_, fun k hk => ?_, fun k hk => absurd hk (by simp), by simp⟩
  · rw [zT_at _ (by omega), zV_bool _ (by omega) (by omega)]
  · rw [zT_at _ (by omega), zV_int _ (by omega)]
  · rw [zT_at _ (by omega), zV_int _ (by omega)]
  · rw [zT_at _ (by omega), zV_int _ (by omega)]
  · rw [zT_at _ (by omega), zV_int _ (by omega)]

set_option maxRecDepth 8000 in
set_option maxHeartbeats 1000000 in
theorem fdNew_any (w : World) :
    Calls Try.prog 6 #[] w fun e w' => e = .returned (ep w.heap.size) ∧ TD w' w.heap.size (fun _ => zE) 0 [] ∧ Below w.heap.size w w' := by
  have HN : Hid (TD (w.alloc (.cells zT 54)) w.heap.size (fun _ => zE) 0 [] ∧ Below w.heap.size w (w.alloc (.cells zT 54))) := ⟨⟨⟨zT, new_at _ _, CS.zero⟩, fun k k0 kn => absurd kn (by simp), List.nodup_nil, fun a ha => absurd ha (by simp), by omega, fun k hk => by simp⟩, (below_new _ _).out⟩
  have z0 := zero54
  generalize zT = Z at *
  go_enter Try.func6, Try.ntmps6
  go_wp2_with fail
  go_ret
  exact ⟨rfl, HN.out⟩

set_option maxRecDepth 8000 in
set_option maxHeartbeats 1000000 in
theorem fdClear_any (c : Nat) (F : Nat → FE) (m : Nat) (I : List Nat) (w : World) (h : TD w c F m I) :
    Calls Try.prog 12 #[ep c] w fun e w' => e = .returned (.tuple #[]) ∧ TD w' c (fun _ => zE) 0 [] ∧ OnC c w w' := by
  obtain ⟨cs, hb, hc⟩ := h.mem
  have hs := hc.size
  have HZ : Hid (zT.size = 194 ∧ zT.all (·.oneCell') = true) := ⟨zT_size, zT_all⟩
  have HB : Hid (w.heap[c]? = some (.cells cs 54 (0, 0))) := hb
  have HE : Hid (∀ w', w'.heap[c]? = some (.cells zT 54 (0, 0)) → TD w' c (fun _ => zE) 0 []) := fun w' hw => ⟨⟨zT, hw, CS.zero⟩, fun k k0 kn => absurd kn (by simp), List.nodup_nil, fun a ha => absurd ha (by simp), by omega, fun k hk => by simp⟩
  have z0 := zero54
  generalize zT = Z at *
  clear h hb hc
  go_enter Try.func12, Try.ntmps12
  go_wp2_with (refine wpList_store_row rfl 54 _ _ rfl c Z rfl rfl 54 cs HB.out (by rw [info54, HZ.out.1]) (by rw [hs, HZ.out.1]) HZ.out.2 ?_)
  go_end0
  refine ⟨rfl, HE.out _ (setRow_heap w c _ _ _ _ HB.out), ⟨rfl, rfl, rfl, by simp, fun k _ hk => setRow_other w c k Z hk⟩⟩

end Go.Proofs.Ytmbkheaghiojeaa.Ck
