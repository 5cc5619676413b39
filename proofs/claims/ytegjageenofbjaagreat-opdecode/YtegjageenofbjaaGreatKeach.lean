/-
  The writes of a list of method values, in order; IDs.
-/
import Derived.Test.YtegjageenofbjaaGreatKwany
namespace Go.Proofs.YtegjageenofbjaaGreat.Cd
open Go.RowKit

/-- The method value of function K, bound to the writer at a. -/
def fv (K a : Nat) : Value := .func (.func K) #[.pointer (some ⟨a, 0, none⟩)] #[]
/-- Function K writes a number of at most 'most'. -/
def IsW (K : Nat) (most : Int) : Prop := most ≤ 4611686018427387904 ∧ (∀ args w, (callFunc K args).run Tryz.prog w = .ok (.enter K args) w) ∧ ∀ (n : Int) (a : Nat) (s : St) (w : World), Wr w a s → Few 0 s → Calls Tryz.prog K #[.pointer (some ⟨a, 0, none⟩), .int .i64 n] w (Wrote w a (wnum n most s))

/-- One number of the list: what is written, by which function, its bound. -/
structure Put1 where
  n : Int
  K : Nat
  most : Int

def wnums : List Put1 → St → St
  | [], s => s
  | x :: r, s => wnums r (wnum x.n x.most s)
theorem wnums_snoc (l : List Put1) (x : Put1) : ∀ s, wnums (l ++ [x]) s = wnum x.n x.most (wnums l s) := by
  induction l with
  | nil => intro s; rfl
  | cons y l ih => intro s; exact ih _
theorem wnums_few (l : List Put1) (hK : ∀ x ∈ l, x.most ≤ 4611686018427387904) : ∀ (s : St) (k : Nat), Few (k + l.length) s → Few k (wnums l s) := by
  induction l with
  | nil => intro s k h; exact h
  | cons y l ih =>
    intro s k h
    refine ih (fun x hx => hK x (List.mem_cons_of_mem _ hx)) _ k (wnum_few (hK y (List.mem_cons_self ..)) ?_)
    rw [List.length_cons, ← Nat.add_assoc] at h
    exact h
theorem wnums_none (l : List Put1) : wnums l none = none := by
  induction l with
  | nil => rfl
  | cons y l ih => rw [wnums, show wnum y.n y.most none = none by unfold wnum; split <;> rfl]; exact ih
theorem Few.less {j k : Nat} {s : St} (h : Few k s) (hj : j ≤ k) : Few j s := by unfold Few at *; omega

set_option maxRecDepth 8000 in
set_option maxRecDepth 8000 in
set_option maxHeartbeats 1000000 in
theorem writeEach_any (a : Nat) (xs : List Put1) (p q : Option Addr) (cp cq : Nat) (s : St) (w : World) (h : Wr w a s) (hK : ∀ x ∈ xs, IsW x.K x.most)
    (hp : Lies w p (xs.map fun x => iv x.n)) (hq : Lies w q (xs.map fun x => fv x.K a)) (hl : Few xs.length s) (hlen : xs.length ≤ 100)
    (hnp : ∀ b o, 0 < xs.length → p = some ⟨b, o, none⟩ → ¬ wset w a b) (hnq : ∀ b o, q = some ⟨b, o, none⟩ → ¬ wset w a b) :
    Calls Tryz.prog 64 #[.slice p xs.length cp, .slice q xs.length cq] w (Wrote w a (wnums xs s)) := by
  have HW : Hid (Wr w a s) := h
  have HP : Hid (Lies w p (xs.map fun x => iv x.n)) := hp
  have HQ : Hid (Lies w q (xs.map fun x => fv x.K a)) := hq
  have HL : Hid (Few xs.length s) := hl
  have HK : Hid (∀ x ∈ xs, IsW x.K x.most) := hK
  have HNP : Hid (∀ b o, 0 < xs.length → p = some ⟨b, o, none⟩ → ¬ wset w a b) := hnp
  have HNQ : Hid (∀ b o, q = some ⟨b, o, none⟩ → ¬ wset w a b) := hnq
  clear h hp hq hl hK hnp hnq
  go_enter Tryz.func64, Tryz.ntmps64
  go_wp2_with fail
  go_loopw [8] (fun ii wr => ∃ i : Nat, ii = .int .i64 i ∧ i ≤ xs.length ∧ Hid (Wr wr a (wnums (xs.take i) s)) ∧ Hid (Step w wr a)) (fun ii _ => xs.length - (intOf ii).toNat)
  case atStart => exact ⟨0, rfl, Nat.zero_le _, HW, Step.refl _ _⟩
  case round =>
    obtain ⟨i, rfl, hi, HR, HS⟩ := hrel
    by_cases hlt : i < xs.length
    · have hltI : (i : Int) < xs.length := by omega
      obtain ⟨pb, po, rfl, hpc⟩ := HP.out (by simp; omega)
      obtain ⟨qb, qo, rfl, hqc⟩ := HQ.out (by simp; omega)
      obtain ⟨x, hx⟩ : ∃ x, xs[i]? = some x := ⟨_, List.getElem?_eq_getElem hlt⟩
      have c1 : wr.cell? ⟨pb, po + i, none⟩ = some (.int .i64 x.n) := HS.out.only.cell (hpc i _ (by rw [List.getElem?_map, hx]; rfl)) (HNP.out pb po (by omega) rfl)
      have c2 : wr.cell? ⟨qb, qo + i, none⟩ = some (.func (.func x.K) #[.pointer (some ⟨a, 0, none⟩)] #[]) := HS.out.only.cell (hqc i _ (by rw [List.getElem?_map, hx]; rfl)) (HNQ.out qb qo rfl)
      have hfew : Few 0 (wnums (xs.take i) s) := wnums_few _ (fun y hy => (HK.out y (List.mem_of_mem_take hy)).1) s 0 (HL.out.less (by simp; omega))
      obtain ⟨_, he, c3'⟩ := HK.out x (List.mem_of_getElem? hx)
      have c3 := c3' x.n a _ wr HR.out hfew
      have HX : Hid (wnums (xs.take (i + 1)) s = wnum x.n x.most (wnums (xs.take i) s)) := by
        show _ = _
        rw [List.take_add_one, hx]; exact wnums_snoc _ _ _
      clear hx hpc hqc hfew c3'
      go_wp2_with fail
      refine c3.mono ?_
      rintro e w1 ⟨rfl, k1, k2⟩
      have K1 : Hid (Wr w1 a (wnum x.n x.most (wnums (xs.take i) s))) := k1
      have K2 : Hid (Step wr w1 a) := k2
      clear k1 k2 c3 c1 c2
      go_wp2
      go_roundw
      case rel => exact ⟨i + 1, by go_num, by omega, by rw [HX.out]; exact K1, HS.out.trans K2.out⟩
      case measure => simp [intOf]; omega
    · obtain rfl : i = xs.length := by omega
      clear hlt
      go_wp2
      go_end0
      have := HR.out
      rw [List.take_length] at this
      exact ⟨rfl, this, HS.out⟩

theorem enters {f : Nat} {fn : Func} {c : Code} (hf : Tryz.prog.funcs[f]? = some fn) (hname : (fn.name == "runtime.NumGoroutine") = false) (hb : fn.body = some c) : ∀ args w, (callFunc f args).run Tryz.prog w = .ok (.enter f args) w := by
  intro args w
  have h1 : fn.name ≠ "runtime.NumGoroutine" := by simpa using hname
  simp [callFunc, hf, h1, hb, mark]

theorem isW_time : IsW 65 1152921504606846976 := ⟨by decide, enters Tryz.func65 (by kernel_rfl) rfl, time_any⟩
theorem isW_node : IsW 66 63 := ⟨by decide, enters Tryz.func66 (by kernel_rfl) rfl, node_any⟩
theorem isW_count : IsW 71 1152921504606846976 := ⟨by decide, enters Tryz.func71 (by kernel_rfl) rfl, count_any⟩

/-- Values that lie in a block of their own. -/
theorem lies_block {W : World} {g : Nat} {xs : List Value} {t : TypeId} {f : Nat × Nat} (h : W.heap[g]? = some (.cells xs.toArray t f)) : Lies W (some ⟨g, 0, none⟩) xs := by
  refine fun _ => ⟨g, 0, rfl, fun j x hj => ?_⟩
  rw [Nat.zero_add, cellOf h j, List.getElem?_toArray, hj]
theorem lies_take {w : World} {p : Option Addr} {xs : List Value} (h : Lies w p xs) (k : Nat) : Lies w p (xs.take k) := by
  intro hl
  obtain ⟨b, o, rfl, hx⟩ := h (by rw [List.length_take] at hl; omega)
  refine ⟨b, o, rfl, fun j x hj => hx j x ?_⟩
  rw [List.getElem?_take] at hj
  split at hj
  · exact hj
  · cases hj

/-- An ID. -/
def wid (t nd : Int) (s : St) : St := wnum nd 63 (wnum t 1152921504606846976 s)

set_option maxRecDepth 8000 in
set_option maxRecDepth 8000 in
set_option maxHeartbeats 400000 in
theorem wid_any (t nd : Int) (a : Nat) (s : St) (w : World) (h : Wr w a s) (hl : Few 2 s) :
    Calls Tryz.prog 36 #[.pointer (some ⟨a, 0, none⟩), .agg #[.int .i64 t, .int .i64 nd]] w (Wrote w a (wid t nd s)) := by
  have hmf : ∀ (fn : Fn) (first cap : Array Value) (w : World), (Instr.makeFunc fn first cap).run Tryz.prog w = .ok (.func fn first cap) w := fun _ _ _ _ => rfl
  obtain ⟨w1, hw1⟩ : ∃ w1, w1 = w.alloc (.cells #[.int .i64 t, .int .i64 nd] 23) := ⟨_, rfl⟩
  obtain ⟨w2, hw2⟩ : ∃ w2, w2 = w1.alloc (.cells #[.int .i64 t, .int .i64 nd] 2) := ⟨_, rfl⟩
  obtain ⟨w3, hw3⟩ : ∃ w3, w3 = w2.alloc (.cells #[.func (.func 65) #[.pointer (some ⟨a, 0, none⟩)] #[], .func (.func 66) #[.pointer (some ⟨a, 0, none⟩)] #[]] 60) := ⟨_, rfl⟩
  have hB1 : Below w.heap.size w w1 := by rw [hw1]; exact (below_new _ _).out
  have hB2 : Below w1.heap.size w1 w2 := by rw [hw2]; exact (below_new _ _).out
  have hB3 : Below w2.heap.size w2 w3 := by rw [hw3]; exact (below_new _ _).out
  have z1 : w1.heap.size = w.heap.size + 1 := by rw [hw1]; simp
  have z2 : w2.heap.size = w.heap.size + 2 := by rw [hw2]; simp [z1]
  have hB : Below w.heap.size w w3 := (hB1.trans (hB2.mono hB1.size)).trans (hB3.mono (by omega))
  obtain ⟨k1, k2⟩ := h.keep_below hB
  have b2 : w3.heap[w1.heap.size]? = some (.cells #[.int .i64 t, .int .i64 nd] 2 (0, 0)) := by rw [hB3.block _ (by omega), hw2]; exact heap_alloc_new w1 _
  have b3 : w3.heap[w2.heap.size]? = some (.cells #[.func (.func 65) #[.pointer (some ⟨a, 0, none⟩)] #[], .func (.func 66) #[.pointer (some ⟨a, 0, none⟩)] #[]] 60 (0, 0)) := by rw [hw3]; exact heap_alloc_new w2 _
  have hno : ∀ b, w.heap.size ≤ b → ¬ wset w3 a b := fun b hb hs => by
    obtain ⟨v, hv⟩ := h
    have hv3 := hv.keep (Below.only hB (fun _ => False)) (fun _ _ h => h)
    have := (Wr.lo ⟨v, hv⟩ (hv.sets hv3 b hs)).2
    omega
  have c := writeEach_any a [⟨t, 65, 1152921504606846976⟩, ⟨nd, 66, 63⟩] (some ⟨w1.heap.size, 0, none⟩) (some ⟨w2.heap.size, 0, none⟩) 2 2 s w3 k1
    (fun x hx => by simp at hx; rcases hx with rfl | rfl; exact isW_time; exact isW_node) (lies_block (xs := [iv t, iv nd]) b2) (lies_block (xs := [fv 65 a, fv 66 a]) b3) hl (by simp)
    (fun b o _ e => by cases e; exact hno _ (by omega)) (fun b o e => by cases e; exact hno _ (by omega))
  have HS : Hid (Step w w3 a) := k2
  rw [z1, z2] at c
  clear hB1 hB2 hB3 hB k1 k2 b2 b3 hno h hl z1 z2
  go_enter Tryz.func36, Tryz.ntmps36
  go_wp2_with fail
  rw [← hw1, ← hw2, ← hw3]
  refine (show Calls Tryz.prog 64 #[.slice (some ⟨w.heap.size + 1, 0, none⟩) 2 2, .slice (some ⟨w.heap.size + 2, 0, none⟩) 2 2] _ _ from c).mono ?_
  rintro e w4 ⟨rfl, j1, j2⟩
  have J1 : Hid (Wr w4 a (wid t nd s)) := j1
  have J2 : Hid (Step w3 w4 a) := j2
  clear c j1 j2 hmf hw1 hw2 hw3
  go_wp2
  go_end0
  exact ⟨rfl, J1.out, HS.out.trans J2.out⟩


end Go.Proofs.YtegjageenofbjaaGreat.Cd
