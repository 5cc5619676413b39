/-
  The document's own way to write: a number, bytes, a truth, an ID.
-/
import Derived.Test.YtegjageenofbjaaGreatKwany
import Derived.Test.YtegjageenofbjaaGreatKcodq
namespace Go.Proofs.YtegjageenofbjaaGreat.Cd
open Go.RowKit

/-- Bytes in new memory and yes, or none and no. -/
def Enc (w : World) (o : St) (e : Ending) (w' : World) : Prop := ∃ v, e = .returned (.tuple #[v, .bool o.isSome]) ∧ Cloned w (o.getD []) v w'

def eNum (n : Int) : St := if 0 ≤ n ∧ n ≤ 4611686018427387904 then some (numB n.toNat) else none

theorem cloned_nil (w : World) : Cloned w [] (.slice none 0 0) w := ⟨World.ownsRow_nil _ _ _ _, Below.refl _ _⟩

set_option maxRecDepth 8000 in
set_option maxHeartbeats 400000 in
theorem enum_no (n : Int) (w : World) (h : ¬ (0 ≤ n ∧ n ≤ 4611686018427387904)) : Calls Tryz.prog 30 #[.int .i64 n] w fun e w' => e = .returned (.tuple #[.slice none 0 0, .bool false]) ∧ w' = w := by
  by_cases h0 : n < 0
  · clear h
    go_enter Tryz.func30, Tryz.ntmps30
    go_wp2
    go_ret2
    exact ⟨rfl, rfl⟩
  · have h1 : (4611686018427387904 : Int) < n := by omega
    clear h
    go_enter Tryz.func30, Tryz.ntmps30
    go_wp2
    go_ret2
    exact ⟨rfl, rfl⟩

/-- Bytes are added to a row that is new. -/
theorem wpList_grow {W0 W : World} {ops : Array Oper} {rest : List Oper} {o : Oper} {a : Act} {Q : Exit → Act → World → Prop} (hgd : o.guard = none) (s x : Operand)
    (ho : o.op = .call { callee := .builtin .append, args := #[s, x], argTypes := #[24, 24] })
    (w : World) (v : Value) (bs : List (BitVec 8)) (hs : a.eval s = v) (hown : Hid (W0.ownsRow w.heap.size 5 1 v bs.length (bs.map u8v))) (hB : Hid (Below w.heap.size w W0)) (hB' : Hid (Below W0.heap.size W0 W))
    (p : Option Addr) (cs : List (BitVec 8)) (cp : Nat) (hx : a.eval x = .slice p cs.length cp) (hb : Hid (Bytes W p cs)) (h63 : Hid (bs.length + cs.length ≤ 1099511627776))
    (h : ∀ v' w', Hid (w'.ownsRow w.heap.size 5 1 v' (bs ++ cs).length ((bs ++ cs).map u8v)) → Hid (Below w.heap.size w w') → Hid (W.grownBy w' v.ownBlock) → wpList Tryz.prog ops Q rest (a.put o.dst v') w') :
    wpList Tryz.prog ops Q (o :: rest) a W := by
  have hBW : Below w.heap.size w W := hB.out.trans (hB'.out.mono hB.out.size)
  have hownW := own_below hown.out hB'.out
  refine wpList_append_bytes hgd s x ho w.heap.size v bs.length (bs.map u8v) hs hownW p cs cp hx hb.out h63.out hBW.size ?_
  intro v' w' h1 h2 _
  exact h v' w' (by rw [List.length_append, List.map_append]; exact h1) (hBW.grown h2 hBW.size (fun k hk => (own_lt hownW hk).1)) h2

theorem bytes_lit (w : World) (z : Int) (x : BitVec 8) (h : (x.toNat : Int) = z) : Bytes (w.alloc (.cells #[.int .u8 z] 5)) (some ⟨w.heap.size, 0, none⟩) [x] := by
  subst h
  exact bytes_block (f := (0, 0)) (heap_alloc_new w _)

set_option maxRecDepth 8000 in
set_option maxRecDepth 8000 in
set_option maxHeartbeats 1000000 in
theorem enum_yes (n : Nat) (w : World) (h : n ≤ 4611686018427387904) : Calls Tryz.prog 30 #[.int .i64 n] w fun e w' => ∃ v, e = .returned (.tuple #[v, .bool true]) ∧ Cloned w (numB n) v w' := by
  have k0 : ¬ (n : Int) < 0 := by omega
  have k1 : ¬ (4611686018427387904 : Int) < n := by omega
  have HL : Hid (∀ m pre, numB n = pre ++ numB m → pre.length + 1 ≤ 1099511627776) := fun m pre e => by
    have := numB_len9 n h
    rw [e] at this; simp at this; omega
  have HN : Hid (n ≤ 4611686018427387904) := h
  clear h
  go_enter Tryz.func30, Tryz.ntmps30
  go_wp2_with fail
  clear k0 k1
  go_loopw [0, 4] (fun nn vv wr => ∃ m : Nat, nn = .int .i64 m ∧ Hid (m ≤ n) ∧ ∃ pre : List (BitVec 8), Hid (numB n = pre ++ numB m) ∧ Hid (wr.ownsRow w.heap.size 5 1 vv pre.length (pre.map u8v)) ∧ Hid (Below w.heap.size w wr)) (fun nn _ _ => (intOf nn).toNat)
  case atStart => exact ⟨n, rfl, Nat.le_refl n, [], rfl, World.ownsRow_nil _ _ _ _, Below.refl _ _⟩
  case round =>
    obtain ⟨m, rfl, HM, pre, HE, HO, HB⟩ := hrel
    have HP : Hid (pre.length + 1 ≤ 1099511627776) := HL.out m pre HE.out
    have tok : True := trivial
    by_cases hlt : m < 128
    · have g1 : ¬ (127 : Int) < m := by omega
      have HLT : Hid (m < 128) := hlt
      have HB1 : Hid (Bytes (wr.alloc (.cells #[.int .u8 (m : Int)] 5)) (some ⟨wr.heap.size, 0, none⟩) [BitVec.ofNat 8 m]) := bytes_lit wr _ _ (by rw [toNat_ofNat8 (by omega)])
      clear hlt
      go_wp2_with (have tk := tok; refine wpList_grow rfl _ _ rfl w _ _ rfl HO HB (below_new _ _) _ _ 1 rfl HB1 HP ?_; clear tk tok; intro v' w1 K1 K2 _)
      go_ret2
      refine ⟨v', rfl, ?_, K2.out⟩
      have := K1.out
      rw [← numB_lt HLT.out, ← HE.out] at this
      exact this
    · have g1 : (127 : Int) < m := by omega
      obtain ⟨x, hx⟩ : ∃ x, x = BitVec.ofNat 8 (128 + m % 128) := ⟨_, rfl⟩
      have e0 : (128 : Int) + (m : Int) % 128 = (x.toNat : Int) := by rw [hx, toNat_ofNat8 (by omega)]; omega
      have hx256 : x.toNat < 256 := x.isLt
      have HX : Hid (x = BitVec.ofNat 8 (128 + m % 128)) := hx
      obtain ⟨q, e1, HQ⟩ : ∃ q : Nat, (m : Int) / 128 = (q : Int) ∧ Hid (q = m / 128) := ⟨m / 128, by omega, rfl⟩
      have HQM : Hid (q ≤ n) := by have := HQ.out; have := HM.out; show _ ≤ _; omega
      have e2 : wrap64 (q : Int) = (q : Int) := by have := HQM.out; have := HN.out; unfold wrap64; omega
      have HLT : Hid (¬ m < 128) := hlt
      have HB1 : Hid (Bytes (wr.alloc (.cells #[.int .u8 (x.toNat : Int)] 5)) (some ⟨wr.heap.size, 0, none⟩) [x]) := bytes_lit wr _ _ rfl
      clear hx hlt
      go_wp2_with (have tk := tok; refine wpList_grow rfl _ _ rfl w _ _ rfl HO HB (below_new _ _) _ _ 1 rfl HB1 HP ?_; clear tk tok; intro v' w1 K1 K2 _)
      go_roundw
      case rel =>
        refine ⟨q, by rw [e2], HQM, pre ++ [x], ?_, K1, K2⟩
        show _ = _
        rw [HE.out, numB_ge HLT.out, HX.out, HQ.out]
        simp
      case measure =>
        have h3 : q < m := by have := HQ.out; have := HLT.out; omega
        clear e0 e1
        generalize wrap64 (q : Int) = z at e2 ⊢
        subst e2
        exact h3

theorem enum_any (n : Int) (w : World) : Calls Tryz.prog 30 #[.int .i64 n] w (Enc w (eNum n)) := by
  unfold eNum
  by_cases h : 0 ≤ n ∧ n ≤ 4611686018427387904
  · rw [if_pos h]
    obtain ⟨n, rfl⟩ := Int.eq_ofNat_of_zero_le h.1
    exact enum_yes n w (by omega)
  · rw [if_neg h]
    exact (enum_no n w h).mono (by rintro e w' ⟨rfl, hw⟩; rw [hw]; exact ⟨_, rfl, cloned_nil w⟩)

end Go.Proofs.YtegjageenofbjaaGreat.Cd
