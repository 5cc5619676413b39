/-
  The stamps of a file: a map of IDs to nothing.
-/
import Derived.Test.YteimjkicinjcgaaKLh
import Derived.Laws.StructEq
import Derived.MapKept

namespace Go.Proofs.Yteimjkicinjcgaa.Ck.Y.L
open Go.RowKit Go.Maps Go.Lib

abbrev KP := Int × Int
abbrev uv : Value := .agg #[]
theorem eqin_t (d : Nat) (a b : Int) (w : World) : (Op.equalIn (d + 1) 2 (.int .i64 a) (.int .i64 b)).run Try.prog w = .ok (a == b) w := by simp [Op.equalIn, go_sem]
theorem eqin_n (d : Nat) (a b : Int) (w : World) : (Op.equalIn (d + 1) 3 (.int .i64 a) (.int .i64 b)).run Try.prog w = .ok (a == b) w := by simp [Op.equalIn, go_sem]
theorem eqin_id (d : Nat) (a1 a2 b1 b2 : Int) (w : World) : (Op.equalIn (d + 2) 30 (idv a1 a2) (idv b1 b2)).run Try.prog w = .ok (decide (a1 = b1) && decide (a2 = b2)) w := by
  have h1 : Try.prog.stoodInHeld 30 = false := by kernel_rfl
  unfold Op.equalIn
  simp only [Sem.run_bind, run_underlying Try.underlying30, Result.andThen_ok]
  by_cases e1 : a1 = b1 <;> by_cases e2 : a2 = b2 <;> simp [go_sem, h1, e1, e2, eqin_t, eqin_n]
theorem equal_id (a b : KP) (w : World) : (Op.equal 30 (idv a.1 a.2) (idv b.1 b.2)).run Try.prog w = .ok (decide (a.1 = b.1) && decide (a.2 = b.2)) w := eqin_id 9998 a.1 a.2 b.1 b.2 w
theorem chk_t (d : Nat) (e : Bool) (a : Int) (w : World) : (Instr.checkKey e (d + 1) 2 (.int .i64 a)).run Try.prog w = .ok () w := by simp [Instr.checkKey, go_sem]
theorem chk_n (d : Nat) (e : Bool) (a : Int) (w : World) : (Instr.checkKey e (d + 1) 3 (.int .i64 a)).run Try.prog w = .ok () w := by simp [Instr.checkKey, go_sem]
theorem chkid (d : Nat) (e : Bool) (a b : Int) (w : World) : (Instr.checkKey e (d + 2) 30 (idv a b)).run Try.prog w = .ok () w := by
  unfold Instr.checkKey
  simp only [Sem.run_bind, run_underlying Try.underlying30, Result.andThen_ok]
  simp [go_sem, chk_t, chk_n]
theorem check_id (e : Bool) (a : KP) (w : World) : (Instr.checkKey e 10000 30 (idv a.1 a.2)).run Try.prog w = .ok () w := chkid 9998 e a.1 a.2 w

def enS (x : KP) : Value × Value := (idv x.1 x.2, uv)
/-- A map of stamps, its entries in the order in which they came. -/
def MapS (w : World) (mb : Nat) (E : List KP) : Prop := ∃ es clock, w.heap[mb]? = some (.map es clock) ∧ es.toList.map (fun e => (e.key, e.val)) = E.map enS
theorem find_ask (q : KP) (w : World) : ∀ (l : List MapEntry) (E : List KP) (i : Nat), l.map (fun e => (e.key, e.val)) = E.map enS → (Instr.findAsking 30 (idv q.1 q.2) l i).run Try.prog w = .ok ((E.findIdx? fun x => decide (x = q)).map fun k => (i + k, uv)) w
  | [], [], i, _ => by simp [Instr.findAsking]
  | [], _ :: _, i, h => by simp at h
  | _ :: _, [], i, h => by simp at h
  | e :: l, x :: E, i, h => by
    simp only [List.map_cons, List.cons.injEq] at h
    obtain ⟨h1, h2⟩ := h
    obtain ⟨hk, hv⟩ := Prod.mk.inj h1
    unfold Instr.findAsking
    rw [hk]
    simp only [Sem.run_bind, equal_id, Result.andThen_ok]
    have ih := find_ask q w l E (i + 1) h2
    by_cases e1 : x = q
    · have e2 : (decide (q.1 = x.1) && decide (q.2 = x.2)) = true := by rw [e1]; simp
      rw [e2]
      simp [List.findIdx?_cons, e1, hv]
    · have e2 : (decide (q.1 = x.1) && decide (q.2 = x.2)) = false := by
        by_cases f1 : q.1 = x.1
        · have f2 : ¬ q.2 = x.2 := fun f2 => e1 (Prod.ext f1.symm f2.symm)
          simp [f2]
        · simp [f1]
      rw [e2]
      simp only [Bool.false_eq_true, if_false, ih, List.findIdx?_cons, e1, decide_false]
      cases E.findIdx? fun x => decide (x = q) with
      | none => simp
      | some k => simp only [Option.map_some, show i + 1 + k = i + (k + 1) by omega]
theorem key_find (q : KP) (w : World) (l : List MapEntry) (E : List KP) (h : l.map (fun e => (e.key, e.val)) = E.map enS) : (Instr.findKey 30 (idv q.1 q.2) l).run Try.prog w = .ok ((E.findIdx? fun x => decide (x = q)).map fun k => (k, uv)) w := by
  have hA := find_ask q w l E 0 h
  simp only [Nat.zero_add] at hA
  unfold Instr.findKey
  simp only [Sem.run_bind, run_underlying Try.underlying30, Result.andThen_ok]
  cases l with
  | nil =>
    have : E = [] := by cases E with | nil => rfl | cons x E => simp at h
    subst this
    simp [Instr.findNow]
  | cons e l =>
    simp only [Instr.findNow, Instr.sameNow]
    exact hA
theorem find_none {E : List KP} {q : KP} (h : q ∉ E) : (E.findIdx? fun x => decide (x = q)) = none :=
  List.findIdx?_eq_none_iff.2 fun x hx => by simp; rintro rfl; exact h hx
theorem find_some {E : List KP} {q : KP} (h : q ∈ E) : ∃ k, (E.findIdx? fun x => decide (x = q)) = some k := by
  cases hf : E.findIdx? fun x => decide (x = q) with
  | some k => exact ⟨k, rfl⟩
  | none => exact absurd (List.findIdx?_eq_none_iff.1 hf q h) (by simp)
theorem look_no {w : World} {mb : Nat} {E : List KP} (h : MapS w mb E) {t n : Int} (hq : (t, n) ∉ E) : (Instr.lookup 53 (.map (some mb)) (idv t n) true).run Try.prog w = .ok (.tuple #[uv, .bool false]) w := by
  obtain ⟨es, clock, hb, he⟩ := h
  have hk := key_find (t, n) w es.toList E he
  have hc := fun e => check_id e (t, n) w
  rw [find_none hq] at hk
  simp [Instr.lookup, run_underlying Try.underlying53, MapKept.run_getObj_map hb, hc, hk, Try.zeroValue58]
theorem look_yes {w : World} {mb : Nat} {E : List KP} (h : MapS w mb E) {t n : Int} (hq : (t, n) ∈ E) : (Instr.lookup 53 (.map (some mb)) (idv t n) true).run Try.prog w = .ok (.tuple #[uv, .bool true]) w := by
  obtain ⟨es, clock, hb, he⟩ := h
  have hk := key_find (t, n) w es.toList E he
  have hc := fun e => check_id e (t, n) w
  obtain ⟨k, e⟩ := find_some hq
  rw [e] at hk
  simp [Instr.lookup, run_underlying Try.underlying53, MapKept.run_getObj_map hb, hc, hk]
theorem look_nil (t n : Int) (w : World) : (Instr.lookup 53 (.map none) (idv t n) true).run Try.prog w = .ok (.tuple #[uv, .bool false]) w := by
  have hc := fun e => check_id e (t, n) w
  have hk := key_find (t, n) w [] [] rfl
  rw [find_none (by simp)] at hk
  simp [Instr.lookup, run_underlying Try.underlying53, hc, hk, Try.zeroValue58]
theorem block_set (w : World) (b k : Nat) (o : Obj) (h : k ≠ b) : (Go.ChangeMaps.setBlock w b o).heap[k]? = w.heap[k]? := by
  unfold Go.ChangeMaps.setBlock
  simp [Array.getElem?_setIfInBounds_ne (Ne.symm h)]
theorem only_block (w : World) (b : Nat) (o : Obj) : Only (· = b) w (Go.ChangeMaps.setBlock w b o) := ⟨rfl, rfl, rfl, by simp [Go.ChangeMaps.setBlock], fun i _ hn => block_set w b i o hn⟩
theorem block_at {w : World} {b : Nat} (o : Obj) (h : b < w.heap.size) : (Go.ChangeMaps.setBlock w b o).heap[b]? = some o := by
  unfold Go.ChangeMaps.setBlock
  simp [h]
theorem put_map {w : World} {mb : Nat} {E : List KP} (h : MapS w mb E) {t n : Int} (hq : (t, n) ∉ E) :
    ∃ W, (Instr.mapUpdate 53 (.map (some mb)) (idv t n) uv).run Try.prog w = .ok () W ∧ MapS W mb (E ++ [(t, n)]) ∧ Only (· = mb) w W ∧ W.heap.size = w.heap.size := by
  obtain ⟨es, clock, hb, he⟩ := h
  have hk := key_find (t, n) w es.toList E he
  have hc := fun e => check_id e (t, n) w
  rw [find_none hq] at hk
  refine ⟨Go.ChangeMaps.setBlock w mb (.map (es.push ⟨idv t n, uv, clock⟩) (clock + 1)), ?_, ⟨_, _, block_at _ (block_lt hb), ?_⟩, only_block _ _ _, by simp [Go.ChangeMaps.setBlock]⟩
  · simp [Instr.mapUpdate, run_underlying Try.underlying53, MapKept.run_getObj_map hb, hc, hk, MapKept.run_setObj_map _ hb, Result.andThen, Go.ChangeMaps.setBlock]
  · rw [Array.toList_push, List.map_append, List.map_append, he]
    rfl
theorem len_map {w : World} {mb : Nat} {E : List KP} (h : MapS w mb E) (ty : TypeId) : (Builtin.len_ #[53] ty #[.map (some mb)]).run Try.prog w = .ok (.int .i64 (E.length : Nat)) w := by
  obtain ⟨es, clock, hb, he⟩ := h
  have hl : es.size = E.length := by
    have := congrArg List.length he
    simpa using this
  simp [Builtin.len_, run_underlying Try.underlying53, MapKept.run_getObj_map hb, goInt, hl]
theorem len_nilmap (w : World) (ty : TypeId) : (Builtin.len_ #[53] ty #[.map none]).run Try.prog w = .ok (.int .i64 0) w := by
  simp [Builtin.len_, run_underlying Try.underlying53, goInt]
theorem MapS.lt {w : World} {mb : Nat} {E : List KP} (h : MapS w mb E) : mb < w.heap.size := by
  obtain ⟨es, clock, hb, he⟩ := h
  exact block_lt hb
theorem MapS.kept {w w' : World} {mb : Nat} {E : List KP} {S : Nat → Prop} (h : MapS w mb E) (ho : Only S w w') (hn : ¬ S mb) : MapS w' mb E := by
  obtain ⟨es, clock, hb, he⟩ := h
  exact ⟨es, clock, (ho.block mb (block_lt hb) hn).trans hb, he⟩

end Go.Proofs.Yteimjkicinjcgaa.Ck.Y.L
