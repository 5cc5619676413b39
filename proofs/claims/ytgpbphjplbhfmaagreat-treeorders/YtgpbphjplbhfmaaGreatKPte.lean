import Derived.Test.YtgpbphjplbhfmaaGreatKPtc
import Derived.Deep.AppendLies

namespace Go.Proofs.YtgpbphjplbhfmaaGreat.Ck.Y.S
open Go.RowKit Go.Lib Go.Maps
attribute [local go_sem] Oper.semAt_some
theorem run_growG {w : World} {mb k : Nat} {l zs : List OG} (hl : l.length = k) (hc : ∀ j u, (flatG l)[j]? = some u → w.cell? ((⟨mb, 0, none⟩ : Addr).add j) = some u) {ad : Addr} {m c : Nat} (hz : zs.length = m) (hn : ∀ j u, (flatG zs)[j]? = some u → w.cell? (ad.add j) = some u) (hm : 0 < m) (hbd : k + m ≤ 1000000) {B : Nat} (hB : B ≤ w.heap.size) :
    ∃ p cp w', (Builtin.append_ #[22, 22] 22 #[.slice (some ⟨mb, 0, none⟩) k k, .slice (some ad) m c]).run Tryz.prog w = .ok (.slice p (k + m) cp) w' ∧ RowG w' B (.slice p (k + m) cp) (l ++ zs) ∧ Below w.heap.size w w' := by
  obtain ⟨i0, hi0, hz0, hz1, hz2⟩ := infoOpG
  have hlo : (flatG l).length = k * i0.size := by rw [flatG_length, hl, hz1]
  have hln : (flatG zs).length = m * i0.size := by rw [flatG_length, hz, hz1]
  have hr := run_append_grow (P := Tryz.prog) w 22 22 34 i0 _ Tryz.underlying22 hi0 hz0 ⟨mb, 0, none⟩ k k (flatG l) hlo hc ad m c (flatG zs) hln hn (by omega) (by omega) (growslice_fits (by omega) (by rw [hz2]; omega))
  refine ⟨_, _, _, hr, ?_, ((Below.refl w.heap.size w).drew).alloc (Nat.le_refl _) _⟩
  have hge := grownCap_ge w (k + m) k 34
  have hcm : grownCap w (k + m) k 34 ≤ maxLen := grownCap_le_maxLen w (k + m) k 34 (by unfold maxLen; omega)
  have hlen : (flatG (l ++ zs)).length = (k + m) * 11 := by rw [flatG_length, List.length_append, hl, hz]
  refine ⟨by rw [flatG_length], .inr ⟨w.heap.size, _, _, by rw [List.length_append, hl, hz], hB, heap_alloc_new w.drew _, by rw [List.length_append, hl, hz]; exact hge, hcm, ?_, ?_⟩⟩
  · simp only [Array.size_append, List.size_toArray, flatG_length, hl, hz]
    rw [size_zeroCells]
    show k * 11 + m * 11 + (grownCap w (k + m) k 34 - (k + m)) * 11 = _
    omega
  · rw [List.length_append, hl, hz]
    simp only [Array.toList_append, List.append_assoc]
    rw [← List.append_assoc, ← flatG_append, ← hlen]
    exact List.take_left
theorem wpList_growG {w : World} {ops : Array Oper} {rest : List Oper} {o : Oper} {a : Act} {Q : Exit → Act → World → Prop} (hgd : o.guard = none) (s x : Operand) (ho : o.op = .call { callee := .builtin .append, args := #[s, x], argTypes := #[22, 22] }) (hty : o.type = 22)
    (mb k : Nat) (l : List OG) (z : OG) (B : Nat) (hs : a.eval s = .slice (some ⟨mb, 0, none⟩) k k) (g : Nat) (hx : a.eval x = .slice (some ⟨g, 0, none⟩) 1 1) (h : Hid (l.length = k ∧ (∀ j u, (flatG l)[j]? = some u → w.cell? ((⟨mb, 0, none⟩ : Addr).add j) = some u) ∧ w.heap[g]? = some (.cells (opgC z) 34 (0, 0)) ∧ k < 900000 ∧ B ≤ w.heap.size)) (hK : ∀ p c w', Hid (RowG w' B (.slice p (k + 1) c) (l ++ [z]) ∧ Below w.heap.size w w') → wpList Tryz.prog ops Q rest (a.put o.dst (.slice p (k + 1) c)) w') : wpList Tryz.prog ops Q (o :: rest) a w := by
  obtain ⟨h1, h2, h3, h4, h5⟩ := h.out
  obtain ⟨p, cp, w', hr, hr1, hr2⟩ := run_growG (zs := [z]) h1 h2 (ad := ⟨g, 0, none⟩) (m := 1) (c := 1) rfl (fun j u hj => by
    rw [Addr.add_lit, Nat.zero_add, cellOf h3 j]
    simpa [opgC, opG, flatG] using hj) (by omega) (by omega) h5
  refine wpList_plain hgd fun K hK' => ?_
  unfold Oper.wp execOp
  simp only [ho, hty, resolve, invoke, builtin, Sem.run_bind, Sem.run_pure, Result.andThen_ok, List.map_toArray, List.map_cons, List.map_nil, hs, hx, hr]
  exact hK' _ _ (hK p cp w' ⟨hr1, hr2⟩)
theorem run_noneG {w : World} {mb k : Nat} (ad : Addr) (c : Nat) : (Builtin.append_ #[22, 22] 22 #[.slice (some ⟨mb, 0, none⟩) k k, .slice (some ad) 0 c]).run Tryz.prog w = .ok (.slice (some ⟨mb, 0, none⟩) k k) w := by
  obtain ⟨i0, hi0, hz0, hz1, hz2⟩ := infoOpG
  simp [Builtin.append_, run_underlying Tryz.underlying22, sizeOf, typeInfo, hi0, Builtin.lenOf, Builtin.firstCells, loadCells, loadCellsFrom, storeCells]
set_option maxRecDepth 8000 in
set_option maxHeartbeats 4000000 in
theorem to19a {Q : Exit → Act → World → Prop} {base : Array Value} {dd : List Deferred} {ops : Array Oper} (hops : Tryz.f4.body.bind (regs 19) = some ops) (mb off n c k : Nat) (o2 : Nat) (FP : Value → World → Prop) (hst : ∀ v W W', FP v W → Below W.heap.size W W' → FP v W') (h7a : (0 : Int) ≤ (k : Int) + 1) (h7b : (k : Int) + 1 ≤ n) (h79 : o2 = if c = k + 1 then off else off + (k + 1) * 11) (w9 : World) (hsz : base.size = 108) (b10 : base.getD 10 undef = .slice (some ⟨mb, off, none⟩) n c) (b12 : base.getD 12 undef = .int .i64 (k : Nat)) (hkc : k ≤ c) (hk1 : IntKind.i64.wrap ((k : Int) + 1) = (k : Int) + 1) (hap : ∀ W, Below w9.heap.size w9 W → ∃ v W2, (Builtin.append_ #[22, 22] 22 #[.slice (some ⟨mb, off, none⟩) k k, .slice (some ⟨mb, o2, none⟩) (n - (k + 1)) (c - (k + 1))]).run Tryz.prog W = .ok v W2 ∧ Below W.heap.size W W2 ∧ (FP) v W2) (hQ : ∀ (g8 : Value) (g9 : Value) W, Below w9.heap.size w9 W → (FP) g8 W → (FP) g9 W → Q .normal ⟨putAll base [(some 72, .slice (some ⟨mb, off, none⟩) n c), (some 73, .int .i64 (k : Nat)), (some 74, .int .i64 (k : Nat)), (some 75, .slice (some ⟨mb, off, none⟩) k k), (some 76, .slice (some ⟨mb, off, none⟩) n c), (some 77, .int .i64 (k : Nat)), (some 78, .int .i64 ((k + 1 : Nat) : Int)), (some 79, .slice (some ⟨mb, o2, none⟩) (n - (k + 1)) (c - (k + 1))), (some 80, g8), (some 10, g9)], dd⟩ W) :
    (Code.region 19 ops true).wp Tryz.prog Q ⟨base, dd⟩ w9 := by
  have hmix : Tryz.prog.follows .mixedOrders = true := by kernel_rfl
  have h2 := (show Tryz.f4.body.bind (regs 19) = some _ from rfl).symm.trans hops
  obtain rfl := Option.some.inj h2
  clear h2 hops
  obtain ⟨LL, hLe⟩ : ∃ LL : List (Option Tmp × Option Value), LL = [(some 72, some (.slice (some ⟨mb, off, none⟩) n c)), (some 73, some (.int .i64 (k : Nat))), (some 74, some (.int .i64 (k : Nat))), (some 75, some (.slice (some ⟨mb, off, none⟩) k k)), (some 76, some (.slice (some ⟨mb, off, none⟩) n c)), (some 77, some (.int .i64 (k : Nat))), (some 78, some (.int .i64 ((k + 1 : Nat) : Int))), (some 79, some (.slice (some ⟨mb, o2, none⟩) (n - (k + 1)) (c - (k + 1)))), (some 80, none), (some 10, none)] := ⟨_, rfl⟩
  have tv0 : tv LL 0 = some (.slice (some ⟨mb, off, none⟩) n c) := by rw [hLe]; rfl
  have tv1 : tv LL 1 = some (.int .i64 (k : Nat)) := by rw [hLe]; rfl
  have tv2 : tv LL 2 = some (.int .i64 (k : Nat)) := by rw [hLe]; rfl
  have tv3 : tv LL 3 = some (.slice (some ⟨mb, off, none⟩) k k) := by rw [hLe]; rfl
  have tv4 : tv LL 4 = some (.slice (some ⟨mb, off, none⟩) n c) := by rw [hLe]; rfl
  have tv5 : tv LL 5 = some (.int .i64 (k : Nat)) := by rw [hLe]; rfl
  have tv6 : tv LL 6 = some (.int .i64 ((k + 1 : Nat) : Int)) := by rw [hLe]; rfl
  have tv7 : tv LL 7 = some (.slice (some ⟨mb, o2, none⟩) (n - (k + 1)) (c - (k + 1))) := by rw [hLe]; rfl
  have tv8 : tv LL 8 = none := by rw [hLe]; rfl
  have tv9 : tv LL 9 = none := by rw [hLe]; rfl
  refine region_gh hmix (by kernel_rfl) 108 hsz (by kernel_rfl) LL (by rw [hLe]; rfl) (fun i v W => (i = 8 → (FP) v W) ∧ (i = 9 → (FP) v W) ∧ True) ?_ ?_ ?_
  · intro i v W W' h hb
    exact ⟨fun e => hst _ _ _ (h.1 e) hb, fun e => hst _ _ _ (h.2.1 e) hb, trivial⟩
  · intro g b W io o a hS hF hcl ho hb hd ev kp yl
    match io with
    | 0 =>
      simp only [qq] at ho; subst ho; rw [tv0]
      have n9 : b 9 = false := by
        cases h9 : b 9 with
        | false => rfl
        | true => (have h8 := hcl 9 _ rfl h9 ⟨8, .data⟩ (by simp) rfl; have h3 := hcl 8 _ rfl h8 ⟨3, .data⟩ (by simp) rfl; have h0 := hcl 3 _ rfl h3 ⟨0, .data⟩ (by simp) rfl; rw [hb] at h0; cases h0)
      have e10 : a.tmps[10]?.getD undef = .slice (some ⟨mb, off, none⟩) n c := (kp 10 (one_till (j := 9) (by kernel_rfl) n9)).trans b10; exact dV (by simp [execOp, go_sem, e10]) (Below.refl _ _)
    | 1 => simp only [qq] at ho; subst ho; rw [tv1]; have e12 := (kp 12 (none_till (by kernel_rfl))).trans b12; exact dV (by simp [execOp, go_sem, e12]) (Below.refl _ _)
    | 2 => simp only [qq] at ho; subst ho; rw [tv2]; have e12 := (kp 12 (none_till (by kernel_rfl))).trans b12; exact dV (by simp [execOp, go_sem, e12]) (Below.refl _ _)
    | 3 => simp only [qq] at ho; subst ho; rw [tv3]; have e72 := eT ev hd 0 72 tv0; have e73 := eT ev hd 1 73 tv1; have e74 := eT ev hd 2 74 tv2; exact dV (by simp [execOp, go_sem, e72, e73, e74, hkc]) (Below.refl _ _)
    | 4 =>
      simp only [qq] at ho; subst ho; rw [tv4]
      have n9 : b 9 = false := by
        cases h9 : b 9 with
        | false => rfl
        | true => (have h8 := hcl 9 _ rfl h9 ⟨8, .data⟩ (by simp) rfl; have h7 := hcl 8 _ rfl h8 ⟨7, .data⟩ (by simp) rfl; have h4 := hcl 7 _ rfl h7 ⟨4, .data⟩ (by simp) rfl; rw [hb] at h4; cases h4)
      have e10 : a.tmps[10]?.getD undef = .slice (some ⟨mb, off, none⟩) n c := (kp 10 (one_till (j := 9) (by kernel_rfl) n9)).trans b10; exact dV (by simp [execOp, go_sem, e10]) (Below.refl _ _)
    | 5 => simp only [qq] at ho; subst ho; rw [tv5]; have e12 := (kp 12 (none_till (by kernel_rfl))).trans b12; exact dV (by simp [execOp, go_sem, e12]) (Below.refl _ _)
    | 6 => simp only [qq] at ho; subst ho; rw [tv6]; have e77 := eT ev hd 5 77 tv5; exact dV (by simp [execOp, go_sem, e77, hk1]) (Below.refl _ _)
    | 7 => simp only [qq] at ho; subst ho; rw [tv7]; have e76 := eT ev hd 4 76 tv4; have e78 := eT ev hd 6 78 tv6; exact dV (by simp [execOp, go_sem, e76, e78, h7a, h7b, h79]; split <;> rfl) (Below.refl _ _)
    | 8 =>
      simp only [qq] at ho; subst ho; rw [tv8]; show Doesg Tryz.prog _ a W _ _; have e75 := eT ev hd 3 75 tv3; have e79 := eT ev hd 7 79 tv7
      obtain ⟨vv, W2, hrr, hbb, hff⟩ := hap W hS
      refine doesg_value rfl nofun (v := vv) (w' := W2) ?_ ⟨hbb, ⟨fun e => hff, fun e => absurd e (by decide), trivial⟩⟩
      simp only [execOp, resolve, invoke, builtin, Sem.run_bind, Sem.run_pure, Result.andThen_ok, List.map_toArray, List.map_cons, List.map_nil, (show a.eval (.tmp 75) = a.tmps[75]?.getD undef by simp [Act.eval]).trans e75, (show a.eval (.tmp 79) = a.tmps[79]?.getD undef by simp [Act.eval]).trans e79, hrr]
    | 9 =>
      simp only [qq] at ho; subst ho; have p8 := hD hd 8; rw [tv9]; show Doesg Tryz.prog _ a W _ _; have F8 := (hF 8 p8 tv8).1 rfl; have e80 : a.tmps[80]?.getD undef = g 8 := (ev 8 80 rfl p8).trans (by rw [tv8]; rfl)
      refine doesg_value rfl nofun (v := g 8) (w' := W) ?_ ⟨Below.refl _ _, ⟨fun e => absurd e (by decide), fun e => F8, trivial⟩⟩
      simp [execOp, go_sem, e80]
    | k + 10 => simp at ho
  · intro g W hS hF
    subst hLe
    exact hQ (g 8) (g 9) W hS ((hF 8 (by decide) rfl).1 rfl) ((hF 9 (by decide) rfl).2.1 rfl)
end Go.Proofs.YtgpbphjplbhfmaaGreat.Ck.Y.S
