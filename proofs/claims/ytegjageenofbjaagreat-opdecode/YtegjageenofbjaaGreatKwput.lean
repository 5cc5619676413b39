/-
  A number that can be written.
-/
import Derived.Test.YtegjageenofbjaaGreatKwnum
namespace Go.Proofs.YtegjageenofbjaaGreat.Cd
open Go.RowKit

theorem or128 : ∀ k : Nat, k < 256 → k ||| 128 = 128 + k % 128 := by decide +kernel
theorem low_more (m : Nat) : bits .or .u8 ((m : Int) % 256) 128 = ((BitVec.ofNat 8 (128 + m % 128)).toNat : Int) := by
  have h1 : ((m : Int) % 256) = ((m % 256 : Nat) : Int) := by omega
  have h2 := u8_or_nat (m % 256) 128 (by omega) (by omega)
  rw [h1]
  refine h2.trans ?_
  rw [or128 _ (by omega), toNat_ofNat8 (by omega)]
  congr 2
  omega
theorem bytes_one (w : World) (x : BitVec 8) : Bytes (w.alloc (.cells #[u8v x] 5)) (some ⟨w.heap.size, 0, none⟩) [x] := bytes_block (f := (0, 0)) (heap_alloc_new w _)

/-- A writer's cell behind an append onto what it wrote. -/
theorem WrAt.mid {w w0 w' : World} {a : Nat} {v : Value} {s : St} (h : WrAt w a v s) (hb : Below w.heap.size w w0) (hg : w0.grownBy w' v.ownBlock) :
    w'.cell? ⟨a, 0, none⟩ = some v ∧ w'.frozen? ⟨a, 0, none⟩ = false := by
  have h0 : WrAt w0 a v s := h.keep (Below.only hb (fun _ => False)) (fun _ _ h => h)
  have hne : v.ownBlock ≠ some a := fun e => by
    obtain ⟨_, _, cur, hc⟩ := own_lt h0.own e
    exact tag_ne h0.blk hc (by decide) rfl
  have hbl := (hg.block a (block_lt h0.blk) (fun e => hne e.symm)).trans h0.blk
  exact ⟨cellOf hbl 0, frozenOf hbl 0⟩

theorem wpList_put {W0 W : World} {ops : Array Oper} {rest : List Oper} {o : Oper} {a : Act} {Q : Exit → Act → World → Prop} (hgd : o.guard = none) (s x : Operand)
    (ho : o.op = .call { callee := .builtin .append, args := #[s, x], argTypes := #[24, 24] })
    (k : Nat) (v : Value) (bs : List (BitVec 8)) (hs : a.eval s = v) (hW : Hid (WrAt W0 k v (some bs))) (hB : Hid (Below W0.heap.size W0 W))
    (p : Option Addr) (cs : List (BitVec 8)) (cp : Nat) (hx : a.eval x = .slice p cs.length cp) (hb : Hid (Bytes W p cs)) (h63 : Hid (bs.length + cs.length ≤ 1099511627776))
    (h : ∀ p' n' c' w', Hid (WrAt (w'.setCell ⟨k, 0, none⟩ (.slice p' n' c')) k (.slice p' n' c') (some (bs ++ cs))) → Hid (Step W0 (w'.setCell ⟨k, 0, none⟩ (.slice p' n' c')) k) → w'.cell? ⟨k, 0, none⟩ = some v → w'.frozen? ⟨k, 0, none⟩ = false → wpList Tryz.prog ops Q rest (a.put o.dst (.slice p' n' c')) w') :
    wpList Tryz.prog ops Q (o :: rest) a W := by
  refine wpList_append_bytes hgd s x ho k v bs.length (bs.map u8v) hs (own_below hW.out.own hB.out) p cs cp hx hb.out h63.out (Nat.le_trans (Nat.le_of_lt (block_lt hW.out.blk)) hB.out.size) ?_
  intro v' w' hown hg hbl
  obtain ⟨k1, k2⟩ := hW.out.put hB.out hg hown hbl
  obtain ⟨k3, k4⟩ := hW.out.mid hB.out hg
  obtain ⟨p', n', c', rfl⟩ : ∃ p' n' c', v' = .slice p' n' c' := by
    rcases hown.2 with ⟨e, _⟩ | ⟨g, cap, cur, e, _⟩ <;> exact ⟨_, _, _, e⟩
  exact h p' n' c' w' k1 k2 k3 k4

theorem below_new (w : World) (o : Obj) : Hid (Below w.heap.size w (w.alloc o)) := (Below.refl _ _).alloc (Nat.le_refl _) _

set_option maxRecDepth 8000 in
set_option maxRecDepth 8000 in
set_option maxHeartbeats 1000000 in
theorem number_good (n most : Nat) (a : Nat) (bs : List (BitVec 8)) (w : World) (h : Wr w a (some bs)) (h1 : n ≤ most) (h2 : most ≤ 4611686018427387904) (hl : bs.length ≤ 1000000000) :
    Calls Tryz.prog 63 #[.pointer (some ⟨a, 0, none⟩), .int .i64 n, .int .i64 most] w fun e w' => e = .returned (.tuple #[]) ∧ Wr w' a (some (bs ++ numB n)) ∧ Step w w' a := by
  have c31 := wbad_any a (some bs) w h
  have k0 : ¬ (n : Int) < 0 := by omega
  have k1 : ¬ (most : Int) < n := by omega
  have HL : Hid (∀ m pre, numB n = pre ++ numB m → (bs ++ pre).length + 1 ≤ 1099511627776) := fun m pre e => by
    have := numB_len9 n (by omega)
    rw [e] at this; simp at this; simp; omega
  have HW : Hid (Wr w a (some bs)) := h
  clear h h1 h2 hl
  go_enter Tryz.func63, Tryz.ntmps63
  go_wp2_with (go_at_call 67; refine Calls_on c31 ?_)
  clear c31 k0 k1
  go_loopw [1] (fun nn wr => ∃ m : Nat, nn = .int .i64 m ∧ ∃ pre, Hid (numB n = pre ++ numB m) ∧ Hid (Wr wr a (some (bs ++ pre))) ∧ Hid (Step w wr a)) (fun nn _ => (intOf nn).toNat)
  case atStart => exact ⟨n, rfl, [], rfl, by simpa using HW, Step.refl _ _⟩
  case round =>
    obtain ⟨m, rfl, pre, HE, HR, HS⟩ := hrel
    have HP : Hid ((bs ++ pre).length + 1 ≤ 1099511627776) := HL.out m pre HE.out
    obtain ⟨v, hv⟩ := HR.out
    have h0 : wr.cell? ⟨a, 0, none⟩ = some v := hv.cell
    have f0 := frozenOf hv.blk 0
    have HV : Hid (WrAt wr a v (some (bs ++ pre))) := hv
    have tok : True := trivial
    by_cases hlt : m < 128
    · have g1 : ¬ (128 : Int) ≤ m := by omega
      have HLT : Hid (m < 128) := hlt
      have HB1 : Hid (Bytes (wr.alloc (.cells #[.int .u8 (m : Int)] 5)) (some ⟨wr.heap.size, 0, none⟩) [BitVec.ofNat 8 m]) := by
        have := bytes_one wr (BitVec.ofNat 8 m)
        unfold u8v at this
        rw [toNat_ofNat8 (by omega)] at this
        exact this
      clear hv hlt HR
      go_wp2_with (have tk := tok; refine wpList_put rfl _ _ rfl a _ _ rfl HV (below_new _ _) _ _ 1 rfl HB1 HP ?_; clear tk tok; intro p' n' c' w1 HP1 HS1 k0 k1; clear h0 f0)
      go_end0
      refine ⟨rfl, ⟨.slice p' n' c', ?_⟩, HS.out.trans HS1.out⟩
      have := HP1.out
      rw [← numB_lt HLT.out, List.append_assoc, ← HE.out] at this
      exact this
    · have g1 : (128 : Int) ≤ m := by omega
      have e0 := low_more m
      obtain ⟨x, hx⟩ : ∃ x, x = BitVec.ofNat 8 (128 + m % 128) := ⟨_, rfl⟩
      rw [← hx] at e0
      have HX : Hid (x = BitVec.ofNat 8 (128 + m % 128)) := hx
      obtain ⟨q, e1, HQ⟩ : ∃ q : Nat, (m : Int) / 128 = (q : Int) ∧ Hid (q = m / 128) := ⟨m / 128, by omega, rfl⟩
      have HLT : Hid (¬ m < 128) := hlt
      have HB1 : Hid (Bytes _ _ _) := bytes_one wr x
      clear hv hx hlt
      go_wp2_with (have tk := tok; refine wpList_put rfl _ _ rfl a _ _ rfl HV (below_new _ _) _ _ 1 rfl HB1 HP ?_; clear tk tok; intro p' n' c' w1 HP1 HS1 k0 k1; clear h0 f0)
      go_roundw
      case rel =>
        refine ⟨q, rfl, pre ++ [x], ?_, ⟨.slice p' n' c', ?_⟩, HS.out.trans HS1.out⟩
        · show _ = _
          rw [HE.out, numB_ge HLT.out, HX.out, HQ.out]
          simp
        · rw [← List.append_assoc]; exact HP1.out
      case measure =>
        have := HQ.out; have := HLT.out
        simp [intOf]; omega

end Go.Proofs.YtegjageenofbjaaGreat.Cd
