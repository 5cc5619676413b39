/-
  A writer: numbers, bytes, texts, truths; Done; a copy of bytes.
-/
import Derived.Test.YtegjageenofbjaaGreatKwput
namespace Go.Proofs.YtegjageenofbjaaGreat.Cd
open Go.RowKit

/-- What a call that writes leaves behind. -/
def Wrote (w : World) (a : Nat) (s : St) (e : Ending) (w' : World) : Prop := e = .returned (.tuple #[]) ∧ Wr w' a s ∧ Step w w' a
/-- Few enough bytes that one more number fits. -/
def Few (k : Nat) (s : St) : Prop := (s.getD []).length + 16 * k ≤ 1000000000

theorem wnum_few {n most : Int} {s : St} {k : Nat} (hm : most ≤ 4611686018427387904) (h : Few (k + 1) s) : Few k (wnum n most s) := by
  unfold Few wnum at *
  split
  · cases s with
    | none => simp at *; omega
    | some bs =>
      rename_i h1
      have := numB_len9 n.toNat (by omega)
      simp at *; omega
  · simp; omega

theorem number_any (n most : Int) (a : Nat) (s : St) (w : World) (h : Wr w a s) (h0 : 0 ≤ most) (h2 : most ≤ 4611686018427387904) (hl : Few 0 s) :
    Calls Tryz.prog 63 #[.pointer (some ⟨a, 0, none⟩), .int .i64 n, .int .i64 most] w (Wrote w a (wnum n most s)) := by
  unfold wnum
  by_cases hn : 0 ≤ n ∧ n ≤ most
  · rw [if_pos hn]
    cases s with
    | none => exact (number_bad n most a w h (by omega) (by omega)).mono (by rintro e w' ⟨rfl, rfl⟩; exact ⟨rfl, h, Step.refl _ _⟩)
    | some bs =>
      obtain ⟨n, rfl⟩ := Int.eq_ofNat_of_zero_le hn.1
      obtain ⟨most, rfl⟩ := Int.eq_ofNat_of_zero_le h0
      exact number_good n most a bs w h (by omega) (by omega) (by unfold Few at hl; simpa using hl)
  · rw [if_neg hn]
    exact number_out n most a s w h hn

theorem num_nil (n : Int) (w : World) : Calls Tryz.prog 35 #[.pointer none, .int .i64 n] w fun e w' => e = .returned (.tuple #[]) ∧ w' = w := by
  go_enter Tryz.func35, Tryz.ntmps35
  go_wp2_with fail
  refine Calls_on (number_nil _ _ _) ?_
  go_wp2
  go_end0
  exact ⟨rfl, rfl⟩
theorem num_any (n : Int) (a : Nat) (s : St) (w : World) (h : Wr w a s) (hl : Few 0 s) : Calls Tryz.prog 35 #[.pointer (some ⟨a, 0, none⟩), .int .i64 n] w (Wrote w a (wnum n 4611686018427387904 s)) := by
  have c := number_any n 4611686018427387904 a s w h (by decide) (by decide) hl
  clear h hl
  go_enter Tryz.func35, Tryz.ntmps35
  go_wp2_with fail
  refine c.mono ?_
  rintro e w1 ⟨rfl, h1⟩
  clear c
  go_wp2
  go_end0
  exact ⟨rfl, h1⟩
theorem count_any (n : Int) (a : Nat) (s : St) (w : World) (h : Wr w a s) (hl : Few 0 s) : Calls Tryz.prog 71 #[.pointer (some ⟨a, 0, none⟩), .int .i64 n] w (Wrote w a (wnum n 1152921504606846976 s)) := by
  have c := number_any n 1152921504606846976 a s w h (by decide) (by decide) hl
  clear h hl
  go_enter Tryz.func71, Tryz.ntmps71
  go_wp2_with fail
  refine c.mono ?_
  rintro e w1 ⟨rfl, h1⟩
  clear c
  go_wp2
  go_end0
  exact ⟨rfl, h1⟩
theorem time_any (n : Int) (a : Nat) (s : St) (w : World) (h : Wr w a s) (hl : Few 0 s) : Calls Tryz.prog 65 #[.pointer (some ⟨a, 0, none⟩), .int .i64 n] w (Wrote w a (wnum n 1152921504606846976 s)) := by
  have c := number_any n 1152921504606846976 a s w h (by decide) (by decide) hl
  clear h hl
  go_enter Tryz.func65, Tryz.ntmps65
  go_wp2_with fail
  refine c.mono ?_
  rintro e w1 ⟨rfl, h1⟩
  clear c
  go_wp2
  go_end0
  exact ⟨rfl, h1⟩
theorem node_any (n : Int) (a : Nat) (s : St) (w : World) (h : Wr w a s) (hl : Few 0 s) : Calls Tryz.prog 66 #[.pointer (some ⟨a, 0, none⟩), .int .i64 n] w (Wrote w a (wnum n 63 s)) := by
  have c := number_any n 63 a s w h (by decide) (by decide) hl
  clear h hl
  go_enter Tryz.func66, Tryz.ntmps66
  go_wp2_with fail
  refine c.mono ?_
  rintro e w1 ⟨rfl, h1⟩
  clear c
  go_wp2
  go_end0
  exact ⟨rfl, h1⟩
/-- Bytes behind their length. -/
def wbytes (cs : List (BitVec 8)) (s : St) : St := (wnum cs.length 65536 s).map (· ++ cs)

theorem wpList_put_text {W0 W : World} {ops : Array Oper} {rest : List Oper} {o : Oper} {a : Act} {Q : Exit → Act → World → Prop} (hgd : o.guard = none) (s x : Operand)
    (ho : o.op = .call { callee := .builtin .append, args := #[s, x], argTypes := #[24, 9] })
    (k : Nat) (v : Value) (bs : List (BitVec 8)) (hs : a.eval s = v) (hW : Hid (WrAt W0 k v (some bs))) (hB : Hid (Below W0.heap.size W0 W))
    (cs : List (BitVec 8)) (T : ByteArray) (hT : Hid (strOf cs = T)) (hx : a.eval x = .string T) (h63 : Hid (bs.length + cs.length ≤ 1099511627776))
    (h : ∀ p' n' c' w', Hid (WrAt (w'.setCell ⟨k, 0, none⟩ (.slice p' n' c')) k (.slice p' n' c') (some (bs ++ cs))) → Hid (Step W0 (w'.setCell ⟨k, 0, none⟩ (.slice p' n' c')) k) → w'.cell? ⟨k, 0, none⟩ = some v → w'.frozen? ⟨k, 0, none⟩ = false → wpList Tryz.prog ops Q rest (a.put o.dst (.slice p' n' c')) w') :
    wpList Tryz.prog ops Q (o :: rest) a W := by
  refine wpList_append_text hgd s x ho k v bs.length (bs.map u8v) hs (own_below hW.out.own hB.out) cs (hx.trans (by rw [hT.out])) h63.out (Nat.le_trans (Nat.le_of_lt (block_lt hW.out.blk)) hB.out.size) ?_
  intro v' w' hown hg hbl
  obtain ⟨k1, k2⟩ := hW.out.put hB.out hg hown hbl
  obtain ⟨k3, k4⟩ := hW.out.mid hB.out hg
  obtain ⟨p', n', c', rfl⟩ : ∃ p' n' c', v' = .slice p' n' c' := by
    rcases hown.2 with ⟨e, _⟩ | ⟨g, cap, cur, e, _⟩ <;> exact ⟨_, _, _, e⟩
  exact h p' n' c' w' k1 k2 k3 k4

set_option maxRecDepth 8000 in
set_option maxRecDepth 8000 in
set_option maxHeartbeats 400000 in
theorem bytes_any (p : Option Addr) (cs : List (BitVec 8)) (cp : Nat) (a : Nat) (s : St) (w : World) (h : Wr w a s) (hl : Few 1 s) (hb : Bytes w p cs) (hn : ∀ b o, 0 < cs.length → p = some ⟨b, o, none⟩ → ¬ wset w a b) :
    Calls Tryz.prog 38 #[.pointer (some ⟨a, 0, none⟩), .slice p cs.length cp] w (Wrote w a (wbytes cs s)) := by
  have c := number_any cs.length 65536 a s w h (by decide) (by decide) (by unfold Few at *; omega)
  have HF : Hid (Few 0 (wnum cs.length 65536 s)) := wnum_few (by decide) hl
  have HS : Hid (wbytes cs s = (wnum cs.length 65536 s).map (· ++ cs)) := rfl
  have HK : Hid (∀ bs, wnum cs.length 65536 s = some bs → cs.length ≤ 65536) := fun bs e => by
    unfold wnum at e; split at e
    · omega
    · cases e
  have HB : Hid (Bytes w p cs) := hb
  have HN : Hid (∀ b o, 0 < cs.length → p = some ⟨b, o, none⟩ → ¬ wset w a b) := hn
  generalize wbytes cs s = s2 at HS ⊢
  generalize wnum cs.length 65536 s = s1 at c HS HF HK
  clear h hl hb hn
  go_enter Tryz.func38, Tryz.ntmps38
  go_wp2_with fail
  refine c.mono ?_
  rintro e w1 ⟨rfl, h1, h2⟩
  have c31 := wbad_any a s1 w1 h1
  have HB1 : Hid (Bytes w1 p cs) := h2.only.bytes HB.out HN.out
  clear c
  cases s1 with
  | none =>
    rw [show (none : St).isNone = true from rfl] at c31
    have H1 : Hid (Wr w1 a none) := h1
    have H2 : Hid (Step w w1 a) := h2
    clear h1 h2
    go_wp2_with (go_at_call 67; refine Calls_on c31 ?_)
    go_end0
    rw [HS.out]
    exact ⟨rfl, H1.out, H2.out⟩
  | some bs =>
    rw [show (some bs : St).isNone = false from rfl] at c31
    obtain ⟨v, hv⟩ := h1
    have h0 : w1.cell? ⟨a, 0, none⟩ = some v := hv.cell
    have f0 := frozenOf hv.blk 0
    have HV : Hid (WrAt w1 a v (some bs)) := hv
    have H2 : Hid (Step w w1 a) := h2
    have HBB : Hid (Below w1.heap.size w1 w1) := Below.refl _ _
    have HP : Hid (bs.length + cs.length ≤ 1099511627776) := by
      have e1 := HK.out bs rfl; have e2 := HF.out; unfold Few at e2; show _ ≤ _; simp at e2; omega
    have tok : True := trivial
    clear hv h2
    go_wp2_with (first
      | (go_at_call 67; refine Calls_on c31 ?_)
      | (have tk := tok; refine wpList_put rfl _ _ rfl a _ _ rfl HV HBB _ _ _ rfl HB1 HP ?_; clear tk tok; intro p' n' c' w2 HP1 HS1 k0 k1; clear h0 f0))
    go_end0
    rw [HS.out]
    exact ⟨rfl, ⟨.slice p' n' c', HP1.out⟩, H2.out.trans HS1.out⟩

set_option maxRecDepth 8000 in
set_option maxRecDepth 8000 in
set_option maxHeartbeats 400000 in
theorem text_any (cs : List (BitVec 8)) (a : Nat) (s : St) (w : World) (h : Wr w a s) (hl : Few 1 s) :
    Calls Tryz.prog 37 #[.pointer (some ⟨a, 0, none⟩), .string (strOf cs)] w (Wrote w a (wbytes cs s)) := by
  have c := number_any cs.length 65536 a s w h (by decide) (by decide) (by unfold Few at *; omega)
  have HF : Hid (Few 0 (wnum cs.length 65536 s)) := wnum_few (by decide) hl
  have HS : Hid (wbytes cs s = (wnum cs.length 65536 s).map (· ++ cs)) := rfl
  have HK : Hid (∀ bs, wnum cs.length 65536 s = some bs → cs.length ≤ 65536) := fun bs e => by
    unfold wnum at e; split at e
    · omega
    · cases e
  generalize wbytes cs s = s2 at HS ⊢
  generalize wnum cs.length 65536 s = s1 at c HS HF HK
  have hsz := strOf_size cs
  generalize hT : strOf cs = T at hsz
  have HT : Hid (strOf cs = T) := hT
  clear h hl hT
  go_enter Tryz.func37, Tryz.ntmps37
  go_wp2_with fail
  refine c.mono ?_
  rintro e w1 ⟨rfl, h1, h2⟩
  have c31 := wbad_any a s1 w1 h1
  clear c
  cases s1 with
  | none =>
    rw [show (none : St).isNone = true from rfl] at c31
    have H1 : Hid (Wr w1 a none) := h1
    have H2 : Hid (Step w w1 a) := h2
    clear h1 h2
    go_wp2_with (go_at_call 67; refine Calls_on c31 ?_)
    go_end0
    rw [HS.out]
    exact ⟨rfl, H1.out, H2.out⟩
  | some bs =>
    rw [show (some bs : St).isNone = false from rfl] at c31
    obtain ⟨v, hv⟩ := h1
    have h0 : w1.cell? ⟨a, 0, none⟩ = some v := hv.cell
    have f0 := frozenOf hv.blk 0
    have HV : Hid (WrAt w1 a v (some bs)) := hv
    have H2 : Hid (Step w w1 a) := h2
    have HBB : Hid (Below w1.heap.size w1 w1) := Below.refl _ _
    have HP : Hid (bs.length + cs.length ≤ 1099511627776) := by
      have e1 := HK.out bs rfl; have e2 := HF.out; unfold Few at e2; show _ ≤ _; simp at e2; omega
    have tok : True := trivial
    clear hv h2
    go_wp2_with (first
      | (go_at_call 67; refine Calls_on c31 ?_)
      | (have tk := tok; refine wpList_put_text rfl _ _ rfl a _ _ rfl HV HBB _ _ HT rfl HP ?_; clear tk tok; intro p' n' c' w2 HP1 HS1 k0 k1; clear h0 f0))
    go_end0
    rw [HS.out]
    exact ⟨rfl, ⟨.slice p' n' c', HP1.out⟩, H2.out.trans HS1.out⟩

/-- A copy of bytes, in new memory. -/
def Cloned (w : World) (bs : List (BitVec 8)) (v : Value) (w' : World) : Prop := w'.ownsRow w.heap.size 5 1 v bs.length (bs.map u8v) ∧ Below w.heap.size w w'

set_option maxRecDepth 8000 in
set_option maxRecDepth 8000 in
set_option maxHeartbeats 400000 in
theorem clone_any (p : Option Addr) (bs : List (BitVec 8)) (cp : Nat) (w : World) (hl : bs.length ≤ 1000000000) (hb : Bytes w p bs) :
    Calls Tryz.prog 72 #[.slice p bs.length cp] w fun e w' => ∃ v, e = .returned v ∧ Cloned w bs v w' := by
  have qT : ∀ (w : World) (a : Option Addr) (n c n' c' : Nat), (binOp .eql 24 (.slice a n c) (.slice none n' c')).run Tryz.prog w = .ok (.bool a.isNone) w := fun w a n c n' c' => Lib.run_eql_slice_nil w _ _ a n c n' c' Tryz.underlying24
  rcases p with _ | ad
  · have h0 : bs = [] := by
      by_cases hl : 0 < bs.length
      · obtain ⟨_, _, h, _⟩ := hb hl; cases h
      · exact List.eq_nil_of_length_eq_zero (by omega)
    subst h0
    clear hl hb
    go_enter Tryz.func72, Tryz.ntmps72
    go_wp2
    go_ret
    exact ⟨_, rfl, World.ownsRow_nil _ _ _ _, Below.refl _ _⟩
  · have HB : Hid (Bytes w (some ad) bs) := hb
    have HL : Hid (0 + bs.length ≤ 1099511627776) := by show _ ≤ _; omega
    have tok : True := trivial
    have HO : Hid ((w.alloc (.cells #[] 5)).ownsRow w.heap.size 5 1 (.slice (some ⟨w.heap.size, 0, none⟩) 0 0) 0 []) := World.ownsRow_lit w #[] 0 (Nat.le_refl _) (by decide) rfl
    have HB1 : Hid (Bytes (w.alloc (.cells #[] 5)) (some ad) bs) := below_bytes (below_new _ _).out hb
    have HZ : Hid (w.heap.size ≤ (w.alloc (.cells #[] 5)).heap.size) := by show _ ≤ _; simp
    clear hl hb
    go_enter Tryz.func72, Tryz.ntmps72
    go_wp2_with (have tk := tok; refine wpList_append_bytes rfl _ _ rfl w.heap.size _ 0 [] rfl HO.out _ bs _ rfl HB1.out HL.out HZ.out ?_; clear tk tok; intro v' w1 hown hg _; have HC : Hid (Cloned w bs v' w1) := ⟨by simpa using hown, (below_new w _).out.grown hg (by simp) (by intro k hk; cases hk; exact Nat.le_refl _)⟩; clear hown hg)
    go_ret
    exact ⟨_, rfl, HC.out⟩

set_option maxRecDepth 8000 in
set_option maxHeartbeats 400000 in
theorem wdone_nil (w : World) : Calls Tryz.prog 40 #[.pointer none] w fun e w' => e = .returned (.tuple #[.slice none 0 0, .int .i64 22]) ∧ w' = w := by
  go_enter Tryz.func40, Tryz.ntmps40
  go_wp2_with (go_at_call 67; refine Calls_on (wbad_nil _) ?_)
  go_ret2
  exact ⟨rfl, rfl⟩
set_option maxRecDepth 8000 in
set_option maxHeartbeats 400000 in
theorem wdone_bad (a : Nat) (w : World) (h : Wr w a none) : Calls Tryz.prog 40 #[.pointer (some ⟨a, 0, none⟩)] w fun e w' => e = .returned (.tuple #[.slice none 0 0, .int .i64 22]) ∧ w' = w := by
  have c31 := wbad_any a none w h
  rw [show (none : St).isNone = true from rfl] at c31
  clear h
  go_enter Tryz.func40, Tryz.ntmps40
  go_wp2_with (go_at_call 67; refine Calls_on c31 ?_)
  go_ret2
  exact ⟨rfl, rfl⟩
set_option maxRecDepth 8000 in
set_option maxHeartbeats 400000 in
theorem wdone_good (a : Nat) (bs : List (BitVec 8)) (w : World) (h : Wr w a (some bs)) (hl : Few 0 (some bs)) : Calls Tryz.prog 40 #[.pointer (some ⟨a, 0, none⟩)] w fun e w' => ∃ v, e = .returned (.tuple #[v, .int .i64 0]) ∧ Cloned w bs v w' := by
  have c31 := wbad_any a (some bs) w h
  rw [show (some bs : St).isNone = false from rfl] at c31
  obtain ⟨v, hv⟩ := h
  have h0 : w.cell? ⟨a, 0, none⟩ = some v := hv.cell
  obtain ⟨_, p, cp, rfl, hcp, hb, _⟩ := owns_bytes hv.own
  have c32 := clone_any p bs cp w (by unfold Few at hl; simpa using hl) hb
  rw [show (some bs : St).getD [] = bs from rfl] at h0
  clear hv hl hb hcp
  go_enter Tryz.func40, Tryz.ntmps40
  go_wp2_with (first
    | (go_at_call 67; refine Calls_on c31 ?_)
    | (go_at_call 72; refine c32.mono ?_; rintro e w1 ⟨v', rfl, hc⟩; have HC : Hid (Cloned w bs v' w1) := hc; clear hc))
  go_ret2
  exact ⟨v', rfl, HC.out⟩

end Go.Proofs.YtegjageenofbjaaGreat.Cd
