import Derived.Test.YthhakekbffembaaGreatDoorKPj

namespace Go.Proofs.YthhakekbffembaaGreatDoor.Ck.Y
open Go.RowKit Go.Maps Go.Lib
theorem cell_alloc {w : World} {p : Addr} {v : Value} (h : w.cell? p = some v) (o : Obj) : (w.alloc o).cell? p = some v := by
 obtain ⟨b, k, s⟩ := p
 have hb : Below w.heap.size w (w.alloc o) := (Below.refl w.heap.size w).alloc (Nat.le_refl _) o
 refine (hb.cell (p := ⟨b, k, s⟩) ?_).trans h
 by_cases hlt : b < w.heap.size
 · exact hlt
 · simp [World.cell?, Array.getElem?_eq_none (Nat.le_of_not_lt hlt)] at h
set_option maxRecDepth 8000 in
set_option maxHeartbeats 4000000 in
theorem apply_r8 {Q : Exit → Act → World → Prop} {base : Array Value} {dd : List Deferred} {ops : Array Oper} (hops : Tryz.f27.body.bind (regs 8) = some ops) (gt bx len cp at_ : Nat) (p : Option Addr) (x : OG) (PS : Nat → World → Prop) (PN : Nat → Option Addr × Nat × Nat → World → World → Prop) (w9 : World) (hsz : base.size = 51) (b0 : base.getD 0 undef = .pointer (some ⟨gt, 0, none⟩)) (b3 : base.getD 3 undef = .pointer (some ⟨bx, 0, none⟩)) (b6 : base.getD 6 undef = .int .i64 (at_ : Nat))
   (g1 : w9.cell? ⟨gt, 1, none⟩ = some (.slice p len cp))
   (x0 : w9.cell? ⟨bx, 0, none⟩ = some (.int .i64 x.t))
   (x1 : w9.cell? ⟨bx, 1, none⟩ = some (.int .i64 x.n))
   (x2 : w9.cell? ⟨bx, 2, none⟩ = some (.int .i64 x.sq))
   (x3 : w9.cell? ⟨bx, 3, none⟩ = some (.int .i64 x.kd))
   (x4 : w9.cell? ⟨bx, 4, none⟩ = some (.int .i64 x.ot))
   (x5 : w9.cell? ⟨bx, 5, none⟩ = some (.int .i64 x.on))
   (x6 : w9.cell? ⟨bx, 6, none⟩ = some (.int .i64 x.pt))
   (x7 : w9.cell? ⟨bx, 7, none⟩ = some (.int .i64 x.pn))
   (x8 : w9.cell? ⟨bx, 8, none⟩ = some (.string x.nm))
   (x9 : w9.cell? ⟨bx, 9, none⟩ = some (.slice x.dp x.dl x.dc))
   (x10 : w9.cell? ⟨bx, 10, none⟩ = some (.slice x.sp x.sl x.sc)) (hc1 : Calls Tryz.prog 72 #[.pointer (some ⟨gt, 0, none⟩), opgv x] w9.drew fun e W' => ∃ sb, e = .returned (.pointer (some ⟨sb, 0, none⟩)) ∧ PS sb W') (hkS : ∀ sb W, PS sb W → W.cell? ⟨gt, 1, none⟩ = some (.slice p len cp)) (hc2 : ∀ sb W1, PS sb W1 → Calls Tryz.prog 71 #[.slice p len cp, .int .i64 (at_ : Nat), .slice (some ⟨W1.heap.size, 0, none⟩) 1 1] (W1.alloc (.cells #[.pointer (some ⟨sb, 0, none⟩)] 117)) fun e W' => ∃ y, e = .returned (.slice y.1 y.2.1 y.2.2) ∧ PN sb y W1 W') (hkI : ∀ sb y W1 W2, PN sb y W1 W2 → (W2.cell? ⟨gt, 1, none⟩).isSome = true ∧ W2.frozen? ⟨gt, 1, none⟩ = false) (hQ : ∀ (g : Nat × (Option Addr × Nat × Nat) × World × World) (W : World), ((PS g.1 g.2.2.1 ∧ PN g.1 g.2.1 g.2.2.1 g.2.2.2) ∧ W = g.2.2.2.setCell ⟨gt, 1, none⟩ (.slice g.2.1.1 g.2.1.2.1 g.2.1.2.2)) → Q .normal ⟨putAll base ((fun g : Nat × (Option Addr × Nat × Nat) × World × World => ([(some 37, .pointer (some ⟨gt, 0, none⟩)), (some 38, .pointer (some ⟨gt, 0, none⟩)), (some 39, .pointer (some ⟨gt, 0, none⟩)), (some 40, .pointer (some ⟨gt, 1, none⟩)), (some 41, .slice p len cp), (some 42, .int .i64 (at_ : Nat)), (some 43, .pointer (some ⟨gt, 0, none⟩)), (some 44, opgv x), (some 45, .pointer (some ⟨g.1, 0, none⟩)), (some 46, .slice (some ⟨g.2.2.1.heap.size, 0, none⟩) 1 1), (some 47, .slice g.2.1.1 g.2.1.2.1 g.2.1.2.2), (some 48, .pointer (some ⟨gt, 0, none⟩)), (some 49, .pointer (some ⟨gt, 1, none⟩)), (none, undef)] : List (Option Tmp × Value))) g), dd⟩ W) :
   (Code.region 8 ops true).wp Tryz.prog Q ⟨base, dd⟩ w9 := by
 have hmix := hmx
 have h2 := (show Tryz.f27.body.bind (regs 8) = some _ from rfl).symm.trans hops
 obtain rfl := Option.some.inj h2
 clear h2 hops
 have cK : ∀ (g : Nat × (Option Addr × Nat × Nat) × World × World) (W : World), W = w9.drew → Calls Tryz.prog 72 #[.pointer (some ⟨gt, 0, none⟩), opgv x] W fun e W' => ∃ x, e = .returned (.pointer (some ⟨x, 0, none⟩)) ∧ PS x W' := fun g W hW => by rw [hW]; exact hc1
 have cK2 : ∀ (g : Nat × (Option Addr × Nat × Nat) × World × World) (W : World), (PS g.1 g.2.2.1 ∧ W = g.2.2.1.alloc (.cells #[.pointer (some ⟨g.1, 0, none⟩)] 117)) → Calls Tryz.prog 71 #[.slice p len cp, .int .i64 (at_ : Nat), .slice (some ⟨g.2.2.1.heap.size, 0, none⟩) 1 1] W fun e W' => ∃ x, e = .returned (.slice x.1 x.2.1 x.2.2) ∧ PS g.1 g.2.2.1 ∧ PN g.1 x g.2.2.1 W' := fun g W hW => by
   rw [hW.2]
   exact (hc2 _ _ hW.1).mono fun e W' ⟨y, h1, h2⟩ => ⟨y, h1, hW.1, h2⟩
 obtain ⟨LL, hLe⟩ : ∃ LL : Nat × (Option Addr × Nat × Nat) × World × World → List (Option Tmp × Value), LL = (fun g : Nat × (Option Addr × Nat × Nat) × World × World => ([(some 37, .pointer (some ⟨gt, 0, none⟩)), (some 38, .pointer (some ⟨gt, 0, none⟩)), (some 39, .pointer (some ⟨gt, 0, none⟩)), (some 40, .pointer (some ⟨gt, 1, none⟩)), (some 41, .slice p len cp), (some 42, .int .i64 (at_ : Nat)), (some 43, .pointer (some ⟨gt, 0, none⟩)), (some 44, opgv x), (some 45, .pointer (some ⟨g.1, 0, none⟩)), (some 46, .slice (some ⟨g.2.2.1.heap.size, 0, none⟩) 1 1), (some 47, .slice g.2.1.1 g.2.1.2.1 g.2.1.2.2), (some 48, .pointer (some ⟨gt, 0, none⟩)), (some 49, .pointer (some ⟨gt, 1, none⟩)), (none, undef)] : List (Option Tmp × Value))) := ⟨_, rfl⟩
 have vv0 : ∀ g, vals (LL g) 0 = .pointer (some ⟨gt, 0, none⟩) := fun g => by rw [hLe]; rfl
 have vv1 : ∀ g, vals (LL g) 1 = .pointer (some ⟨gt, 0, none⟩) := fun g => by rw [hLe]; rfl
 have vv2 : ∀ g, vals (LL g) 2 = .pointer (some ⟨gt, 0, none⟩) := fun g => by rw [hLe]; rfl
 have vv3 : ∀ g, vals (LL g) 3 = .pointer (some ⟨gt, 1, none⟩) := fun g => by rw [hLe]; rfl
 have vv4 : ∀ g, vals (LL g) 4 = .slice p len cp := fun g => by rw [hLe]; rfl
 have vv5 : ∀ g, vals (LL g) 5 = .int .i64 (at_ : Nat) := fun g => by rw [hLe]; rfl
 have vv6 : ∀ g, vals (LL g) 6 = .pointer (some ⟨gt, 0, none⟩) := fun g => by rw [hLe]; rfl
 have vv7 : ∀ g, vals (LL g) 7 = opgv x := fun g => by rw [hLe]; rfl
 have vv8 : ∀ g, vals (LL g) 8 = .pointer (some ⟨g.1, 0, none⟩) := fun g => by rw [hLe]; rfl
 have vv9 : ∀ g, vals (LL g) 9 = .slice (some ⟨g.2.2.1.heap.size, 0, none⟩) 1 1 := fun g => by rw [hLe]; rfl
 have vv10 : ∀ g, vals (LL g) 10 = .slice g.2.1.1 g.2.1.2.1 g.2.1.2.2 := fun g => by rw [hLe]; rfl
 have vv11 : ∀ g, vals (LL g) 11 = .pointer (some ⟨gt, 0, none⟩) := fun g => by rw [hLe]; rfl
 have vv12 : ∀ g, vals (LL g) 12 = .pointer (some ⟨gt, 1, none⟩) := fun g => by rw [hLe]; rfl
 have vv13 : ∀ g, vals (LL g) 13 = undef := fun g => by rw [hLe]; rfl
 refine region_laidg hmix (by kernel_rfl) 51 hsz (by kernel_rfl) (0, (none, 0, 0), w9, w9) LL (fun g => by rw [hLe]; rfl) (fun (g : Nat × (Option Addr × Nat × Nat) × World × World) (b : Nat → Bool) (W : World) => if b 13 = true then ((PS g.1 g.2.2.1 ∧ PN g.1 g.2.1 g.2.2.1 g.2.2.2) ∧ W = g.2.2.2.setCell ⟨gt, 1, none⟩ (.slice g.2.1.1 g.2.1.2.1 g.2.1.2.2)) else if b 10 = true then ((PS g.1 g.2.2.1 ∧ PN g.1 g.2.1 g.2.2.1 g.2.2.2) ∧ W = g.2.2.2) else if b 9 = true then (PS g.1 g.2.2.1 ∧ W = g.2.2.1.alloc (.cells #[.pointer (some ⟨g.1, 0, none⟩)] 117)) else if b 8 = true then (PS g.1 g.2.2.1 ∧ W = g.2.2.1) else (W = w9.drew)) ?_ ?_ ?_
 · simp only [Bool.false_eq_true, if_false]
 · intro g b W io o a hS hcl ho hb hd ev kp yl
   have q13_12 : b 13 = true → b 12 = true := fun h => hcl 13 _ rfl h ⟨12, .data⟩ (by simp) rfl
   have q13_11 : b 13 = true → b 11 = true := fun h => hcl 12 _ rfl (q13_12 h) ⟨11, .data⟩ (by simp) rfl
   have q13_0 : b 13 = true → b 0 = true := fun h => hcl 11 _ rfl (q13_11 h) ⟨0, .data⟩ (by simp) rfl
   have q10_4 : b 10 = true → b 4 = true := fun h => hcl 10 _ rfl h ⟨4, .data⟩ (by simp) rfl
   have q10_3 : b 10 = true → b 3 = true := fun h => hcl 4 _ rfl (q10_4 h) ⟨3, .data⟩ (by simp) rfl
   have q10_2 : b 10 = true → b 2 = true := fun h => hcl 3 _ rfl (q10_3 h) ⟨2, .data⟩ (by simp) rfl
   have q10_1 : b 10 = true → b 1 = true := fun h => hcl 2 _ rfl (q10_2 h) ⟨1, .data⟩ (by simp) rfl
   have q13_10 : b 13 = true → b 10 = true := fun h => hcl 13 _ rfl h ⟨10, .data⟩ (by simp) rfl
   have q13_4 : b 13 = true → b 4 = true := fun h => hcl 10 _ rfl (q13_10 h) ⟨4, .data⟩ (by simp) rfl
   have q13_3 : b 13 = true → b 3 = true := fun h => hcl 4 _ rfl (q13_4 h) ⟨3, .data⟩ (by simp) rfl
   have q13_2 : b 13 = true → b 2 = true := fun h => hcl 3 _ rfl (q13_3 h) ⟨2, .data⟩ (by simp) rfl
   have q13_1 : b 13 = true → b 1 = true := fun h => hcl 2 _ rfl (q13_2 h) ⟨1, .data⟩ (by simp) rfl
   have q10_5 : b 10 = true → b 5 = true := fun h => hcl 10 _ rfl h ⟨5, .data⟩ (by simp) rfl
   have q13_5 : b 13 = true → b 5 = true := fun h => hcl 10 _ rfl (q13_10 h) ⟨5, .data⟩ (by simp) rfl
   have q8_6 : b 8 = true → b 6 = true := fun h => hcl 8 _ rfl h ⟨6, .data⟩ (by simp) rfl
   have q9_8 : b 9 = true → b 8 = true := fun h => hcl 9 _ rfl h ⟨8, .data⟩ (by simp) rfl
   have q9_6 : b 9 = true → b 6 = true := fun h => hcl 8 _ rfl (q9_8 h) ⟨6, .data⟩ (by simp) rfl
   have q10_9 : b 10 = true → b 9 = true := fun h => hcl 10 _ rfl h ⟨9, .data⟩ (by simp) rfl
   have q10_8 : b 10 = true → b 8 = true := fun h => hcl 9 _ rfl (q10_9 h) ⟨8, .data⟩ (by simp) rfl
   have q10_6 : b 10 = true → b 6 = true := fun h => hcl 8 _ rfl (q10_8 h) ⟨6, .data⟩ (by simp) rfl
   have q13_9 : b 13 = true → b 9 = true := fun h => hcl 10 _ rfl (q13_10 h) ⟨9, .data⟩ (by simp) rfl
   have q13_8 : b 13 = true → b 8 = true := fun h => hcl 9 _ rfl (q13_9 h) ⟨8, .data⟩ (by simp) rfl
   have q13_6 : b 13 = true → b 6 = true := fun h => hcl 8 _ rfl (q13_8 h) ⟨6, .data⟩ (by simp) rfl
   have q8_7 : b 8 = true → b 7 = true := fun h => hcl 8 _ rfl h ⟨7, .data⟩ (by simp) rfl
   have q9_7 : b 9 = true → b 7 = true := fun h => hcl 8 _ rfl (q9_8 h) ⟨7, .data⟩ (by simp) rfl
   have q10_7 : b 10 = true → b 7 = true := fun h => hcl 8 _ rfl (q10_8 h) ⟨7, .data⟩ (by simp) rfl
   have q13_7 : b 13 = true → b 7 = true := fun h => hcl 8 _ rfl (q13_8 h) ⟨7, .data⟩ (by simp) rfl
   have ch0 : b 9 = true → b 8 = true := fun h => hcl 9 _ rfl h ⟨8, .data⟩ (by simp) rfl
   have ch1 : b 10 = true → b 9 = true := fun h => hcl 10 _ rfl h ⟨9, .data⟩ (by simp) rfl
   have ch2 : b 13 = true → b 10 = true := fun h => hcl 13 _ rfl h ⟨10, .data⟩ (by simp) rfl
   match io with
   | 0 =>
     simp only [qq] at ho; subst ho; have e0 := (kp 0 (none_till (by kernel_rfl))).trans b0; have n13 := nF q13_0 hb
     refine doesg_value rfl nofun (v := .pointer (some ⟨gt, 0, none⟩)) (w' := W) ?_ ⟨g, fun _ _ => rfl, (vv0 g).symm, by simpa [did] using hS⟩
     · simp [execOp, go_sem, e0]
   | 1 =>
     simp only [qq] at ho; subst ho; have e0 := (kp 0 (none_till (by kernel_rfl))).trans b0; have n10 := nF q10_1 hb; have n13 := nF q13_1 hb
     refine doesg_value rfl nofun (v := .pointer (some ⟨gt, 0, none⟩)) (w' := W) ?_ ⟨g, fun _ _ => rfl, (vv1 g).symm, by simpa [did] using hS⟩
     · simp [execOp, go_sem, e0]
   | 2 =>
     simp only [qq] at ho; subst ho; have e38 := eD ev hd 1 38 (vv1 g); have n10 := nF q10_2 hb; have n13 := nF q13_2 hb
     refine doesg_value rfl nofun (v := .pointer (some ⟨gt, 0, none⟩)) (w' := W) ?_ ⟨g, fun _ _ => rfl, (vv2 g).symm, by simpa [did] using hS⟩
     · simp [execOp, go_sem, e38]
   | 3 =>
     simp only [qq] at ho; subst ho; have e39 := eD ev hd 2 39 (vv2 g); have n10 := nF q10_3 hb; have n13 := nF q13_3 hb
     refine doesg_value rfl nofun (v := .pointer (some ⟨gt, 1, none⟩)) (w' := W) ?_ ⟨g, fun _ _ => rfl, (vv3 g).symm, by simpa [did] using hS⟩
     · simp [execOp, go_sem, e39]
   | 4 =>
     simp only [qq] at ho; subst ho; have e40 := eD ev hd 3 40 (vv3 g); have n10 := nF q10_4 hb; have n13 := nF q13_4 hb
     have hl : W.cell? ⟨gt, 1, none⟩ = some (.slice p len cp) := by
       have hS2 : if b 9 = true then (PS g.1 g.2.2.1 ∧ W = g.2.2.1.alloc (.cells #[.pointer (some ⟨g.1, 0, none⟩)] 117)) else if b 8 = true then (PS g.1 g.2.2.1 ∧ W = g.2.2.1) else W = w9.drew := by simpa [n10, n13] using hS
       split at hS2
       · rw [hS2.2]; exact cell_alloc (hkS _ _ hS2.1) _
       · split at hS2
         · rw [hS2.2]; exact hkS _ _ hS2.1
         · rw [hS2]; exact g1
     refine doesg_value rfl nofun (v := .slice p len cp) (w' := W) ?_ ⟨g, fun _ _ => rfl, (vv4 g).symm, by simpa [did] using hS⟩
     · simp [execOp, go_sem, e40, hl]
   | 5 =>
     simp only [qq] at ho; subst ho; have e6 := (kp 6 (none_till (by kernel_rfl))).trans b6; have n10 := nF q10_5 hb; have n13 := nF q13_5 hb
     refine doesg_value rfl nofun (v := .int .i64 (at_ : Nat)) (w' := W) ?_ ⟨g, fun _ _ => rfl, (vv5 g).symm, by simpa [did] using hS⟩
     · simp [execOp, go_sem, e6]
   | 6 =>
     simp only [qq] at ho; subst ho; have e0 := (kp 0 (none_till (by kernel_rfl))).trans b0; have n8 := nF q8_6 hb; have n9 := nF q9_6 hb; have n10 := nF q10_6 hb; have n13 := nF q13_6 hb
     refine doesg_value rfl nofun (v := .pointer (some ⟨gt, 0, none⟩)) (w' := W) ?_ ⟨g, fun _ _ => rfl, (vv6 g).symm, by simpa [did] using hS⟩
     · simp [execOp, go_sem, e0]
   | 7 =>
     simp only [qq] at ho; subst ho; have e3 := (kp 3 (none_till (by kernel_rfl))).trans b3; have n8 := nF q8_7 hb; have n9 := nF q9_7 hb; have n10 := nF q10_7 hb; have n13 := nF q13_7 hb; have hW : W = w9.drew := by simpa [n8, n9, n10, n13] using hS
     have hl0 : W.cell? ⟨bx, 0, none⟩ = some (.int .i64 x.t) := by rw [hW]; exact x0
     have hl1 : W.cell? ⟨bx, 1, none⟩ = some (.int .i64 x.n) := by rw [hW]; exact x1
     have hl2 : W.cell? ⟨bx, 2, none⟩ = some (.int .i64 x.sq) := by rw [hW]; exact x2
     have hl3 : W.cell? ⟨bx, 3, none⟩ = some (.int .i64 x.kd) := by rw [hW]; exact x3
     have hl4 : W.cell? ⟨bx, 4, none⟩ = some (.int .i64 x.ot) := by rw [hW]; exact x4
     have hl5 : W.cell? ⟨bx, 5, none⟩ = some (.int .i64 x.on) := by rw [hW]; exact x5
     have hl6 : W.cell? ⟨bx, 6, none⟩ = some (.int .i64 x.pt) := by rw [hW]; exact x6
     have hl7 : W.cell? ⟨bx, 7, none⟩ = some (.int .i64 x.pn) := by rw [hW]; exact x7
     have hl8 : W.cell? ⟨bx, 8, none⟩ = some (.string x.nm) := by rw [hW]; exact x8
     have hl9 : W.cell? ⟨bx, 9, none⟩ = some (.slice x.dp x.dl x.dc) := by rw [hW]; exact x9
     have hl10 : W.cell? ⟨bx, 10, none⟩ = some (.slice x.sp x.sl x.sc) := by rw [hW]; exact x10
     refine doesg_value rfl nofun (v := opgv x) (w' := W) ?_ ⟨g, fun _ _ => rfl, (vv7 g).symm, by simpa [did] using hS⟩
     · simp [execOp, go_sem, e3, hl0, hl1, hl2, hl3, hl4, hl5, hl6, hl7, hl8, hl9, hl10]
   | 8 =>
     simp only [qq] at ho; subst ho; have e43 := eD ev hd 6 43 (vv6 g); have e44 := eD ev hd 7 44 (vv7 g); have n9 := nF q9_8 hb; have n10 := nF q10_8 hb; have n13 := nF q13_8 hb; have hS9 : W = w9.drew := by simpa [n9, n10, n13, hb] using hS
     refine doesg_call rfl nofun (f := 72) (args := #[.pointer (some ⟨gt, 0, none⟩), opgv x]) ?_ ?_
     · simp [go_sem, e43, e44]
     · refine (cK g W hS9).mono ?_
       rintro e W' ⟨x, rfl, hP⟩
       refine ⟨_, rfl, (x, g.2.1, W', g.2.2.2), ?_, (vv8 (x, g.2.1, W', g.2.2.2)).symm, ?_⟩
       · intro j hj
         match j, hj with
         | 0, h => exact (vv0 _).trans (vv0 g).symm
         | 1, h => exact (vv1 _).trans (vv1 g).symm
         | 2, h => exact (vv2 _).trans (vv2 g).symm
         | 3, h => exact (vv3 _).trans (vv3 g).symm
         | 4, h => exact (vv4 _).trans (vv4 g).symm
         | 5, h => exact (vv5 _).trans (vv5 g).symm
         | 6, h => exact (vv6 _).trans (vv6 g).symm
         | 7, h => exact (vv7 _).trans (vv7 g).symm
         | 8, h => exact absurd (h.symm.trans hb) (by decide)
         | 9, h => exact absurd ((hcl 9 _ rfl (h) ⟨8, .data⟩ (by simp) rfl).symm.trans hb) (by decide)
         | 10, h => exact (vv10 _).trans (vv10 g).symm
         | 11, h => exact (vv11 _).trans (vv11 g).symm
         | 12, h => exact (vv12 _).trans (vv12 g).symm
         | 13, h => exact (vv13 _).trans (vv13 g).symm
         | j + 14, _ => subst hLe; rfl
       · simpa [did, n9, n10, n13] using hP
   | 9 =>
     simp only [qq] at ho; subst ho; have p8 := hD hd 8; have e45 := (ev 8 45 rfl p8).trans (vv8 g); have n10 := nF q10_9 hb; have n13 := nF q13_9 hb; have hS9 : PS g.1 g.2.2.1 ∧ W = g.2.2.1 := by simpa [n10, n13, hb, p8] using hS
     obtain ⟨W', hr, hP⟩ := (⟨_, trivial, hS9.1, rfl⟩ : ∃ W', True ∧ PS g.1 g.2.2.1 ∧ W' = g.2.2.1.alloc (.cells #[.pointer (some ⟨g.1, 0, none⟩)] 117))
     refine doesg_value rfl nofun (v := .slice (some ⟨g.2.2.1.heap.size, 0, none⟩) 1 1) (w' := W') ?_ ⟨g, ?_, (vv9 _).symm, ?_⟩
     · rw [hS9.2, hP.2]; simp [execOp, go_sem, e45]
     · exact fun _ _ => rfl
     · simpa [did, n10, n13] using hP
   | 10 =>
     simp only [qq] at ho; subst ho; have p9 := hD hd 9; have e41 := eD ev hd 4 41 (vv4 g); have e42 := eD ev hd 5 42 (vv5 g); have e46 := (ev 9 46 rfl p9).trans (vv9 g); have n13 := nF q13_10 hb; have hS9 : PS g.1 g.2.2.1 ∧ W = g.2.2.1.alloc (.cells #[.pointer (some ⟨g.1, 0, none⟩)] 117) := by simpa [n13, hb, p9] using hS
     refine doesg_call rfl nofun (f := 71) (args := #[.slice p len cp, .int .i64 (at_ : Nat), .slice (some ⟨g.2.2.1.heap.size, 0, none⟩) 1 1]) ?_ ?_
     · simp [go_sem, e41, e42, e46]
     · refine (cK2 g W hS9).mono ?_
       rintro e W' ⟨x, rfl, hP⟩
       refine ⟨_, rfl, (g.1, x, g.2.2.1, W'), ?_, (vv10 (g.1, x, g.2.2.1, W')).symm, ?_⟩
       · intro j hj
         match j, hj with
         | 0, h => exact (vv0 _).trans (vv0 g).symm
         | 1, h => exact (vv1 _).trans (vv1 g).symm
         | 2, h => exact (vv2 _).trans (vv2 g).symm
         | 3, h => exact (vv3 _).trans (vv3 g).symm
         | 4, h => exact (vv4 _).trans (vv4 g).symm
         | 5, h => exact (vv5 _).trans (vv5 g).symm
         | 6, h => exact (vv6 _).trans (vv6 g).symm
         | 7, h => exact (vv7 _).trans (vv7 g).symm
         | 8, h => exact (vv8 _).trans (vv8 g).symm
         | 9, h => exact (vv9 _).trans (vv9 g).symm
         | 10, h => exact absurd (h.symm.trans hb) (by decide)
         | 11, h => exact (vv11 _).trans (vv11 g).symm
         | 12, h => exact (vv12 _).trans (vv12 g).symm
         | 13, h => exact (vv13 _).trans (vv13 g).symm
         | j + 14, _ => subst hLe; rfl
       · simpa [did, n13] using hP
   | 11 =>
     simp only [qq] at ho; subst ho; have e37 := eD ev hd 0 37 (vv0 g); have n13 := nF q13_11 hb
     refine doesg_value rfl nofun (v := .pointer (some ⟨gt, 0, none⟩)) (w' := W) ?_ ⟨g, fun _ _ => rfl, (vv11 g).symm, by simpa [did] using hS⟩
     · simp [execOp, go_sem, e37]
   | 12 =>
     simp only [qq] at ho; subst ho; have e48 := eD ev hd 11 48 (vv11 g); have n13 := nF q13_12 hb
     refine doesg_value rfl nofun (v := .pointer (some ⟨gt, 1, none⟩)) (w' := W) ?_ ⟨g, fun _ _ => rfl, (vv12 g).symm, by simpa [did] using hS⟩
     · simp [execOp, go_sem, e48]
   | 13 =>
     simp only [qq] at ho; subst ho; have p10 := hD hd 10; have e49 := eD ev hd 12 49 (vv12 g); have e47 := (ev 10 47 rfl p10).trans (vv10 g); have hS9 : (PS g.1 g.2.2.1 ∧ PN g.1 g.2.1 g.2.2.1 g.2.2.2) ∧ W = g.2.2.2 := by simpa [hb, p10] using hS
     obtain ⟨W', hr, hP⟩ := (⟨_, trivial, hS9.1, rfl⟩ : ∃ W', True ∧ (PS g.1 g.2.2.1 ∧ PN g.1 g.2.1 g.2.2.1 g.2.2.2) ∧ W' = g.2.2.2.setCell ⟨gt, 1, none⟩ (.slice g.2.1.1 g.2.1.2.1 g.2.1.2.2))
     refine doesg_skip rfl nofun (w' := W') ?_ ⟨g, fun _ _ => rfl, (vv13 _).symm, ?_⟩
     · (obtain ⟨hP1, hP2⟩ := hP; obtain ⟨c9, hc9⟩ := Option.isSome_iff_exists.1 (hkI _ _ _ _ hP1.2).1; have f9 := (hkI _ _ _ _ hP1.2).2; rw [hS9.2, hP2]; simp [execOp, go_sem, e49, e47, hc9, f9])
     · simpa [did] using hP
   | k + 14 => simp at ho
 · intro g b W hS hall
   have hl9 : b 13 = true := hall 13 (by decide)
   subst hLe
   exact hQ g W (by simpa [hl9] using hS)
end Go.Proofs.YthhakekbffembaaGreatDoor.Ck.Y

namespace Go.Proofs.YthhakekbffembaaGreatDoor.Ck.Y
open Go.RowKit Go.Maps Go.Lib
def hasT (T : List OB) (q : PI) : Bool := rootB q.1 q.2 || trashB q.1 q.2 || (findT T q.1 q.2).isSome
def entsT (B : List PI) (bl : PI → Nat) (T : List OB) : List (PI × Nat) := (B ++ T.map idp).map fun q => (q, bl q)
def exF (F : Nat → Prop) (mb : Nat) : Nat → Prop := fun b => F b ∧ b ≠ mb
structure TreeM (F : Nat → Prop) (w : World) (mb : Nat) (B U : List PI) (bl : PI → Nat) (kv : PI → Value) (dr : PI → Bool) (T : List OB) : Prop where
 objs : ObjsM (exF F mb) w U bl kv dr (placeT T) (placeT T)
 map : MapAt w mb (entsT B bl T)
 fmb : F mb
 bb : B = [(0, 0), (0, 1)] ∨ B = [(0, 1), (0, 0)]
 rt : (0, 0) ∈ U ∧ (0, 1) ∈ U
 ids : ∀ o ∈ T, idp o ∈ U
 drs : dr (0, 0) = true ∧ dr (0, 1) = true ∧ ∀ o ∈ T, dr (idp o) = o.dir
 wf : WfT T
theorem atM_map (bl : PI → Nat) (q : PI) : ∀ l : List PI, atM (l.map fun q => (q, bl q)) q = if q ∈ l then some (bl q) else none
 | [] => by simp [atM]
 | x :: l => by
   have ih := atM_map bl q l
   unfold atM at ih ⊢
   by_cases e : x = q
   · subst e; simp
   · have : ¬ q = x := fun h => e h.symm
     rw [List.map_cons, List.find?_cons]
     simp only [e, decide_false]
     rw [ih]
     simp [this]
section
variable {F : Nat → Prop} {w w' : World} {mb : Nat} {B U : List PI} {bl : PI → Nat} {kv : PI → Value} {dr : PI → Bool} {T : List OB}
theorem mem_find {q : PI} : q ∈ T.map idp ↔ (findT T q.1 q.2).isSome = true := by
 constructor
 · intro h
   obtain ⟨o, ho, e⟩ := List.mem_map.1 h
   cases hf : findT T q.1 q.2 with
   | some k => rfl
   | none => exact absurd ⟨congrArg Prod.fst e, congrArg Prod.snd e⟩ (findT_none hf o ho)
 · intro h
   obtain ⟨k, hk⟩ := Option.isSome_iff_exists.1 h
   obtain ⟨o, ho, e1, e2⟩ := findT_some hk
   exact List.mem_map.2 ⟨o, List.mem_of_getElem? ho, Prod.ext e1 e2⟩
theorem TreeM.mem (h : TreeM F w mb B U bl kv dr T) (q : PI) : q ∈ B ++ T.map idp ↔ hasT T q = true := by
 rw [List.mem_append, mem_find]
 unfold hasT
 rw [Bool.or_eq_true, Bool.or_eq_true]
 have : q ∈ B ↔ rootB q.1 q.2 = true ∨ trashB q.1 q.2 = true := by
   obtain ⟨a, b⟩ := q
   rcases h.bb with e | e <;> rw [e] <;> simp [rootB, trashB, or_comm]
 rw [this]
theorem TreeM.look (h : TreeM F w mb B U bl kv dr T) (t n : Int) : (Instr.lookup 71 (.map (some mb)) (idv t n) false).run Tryz.prog w = .ok (if hasT T (t, n) = true then .pointer (some ⟨bl (t, n), 0, none⟩) else .pointer none) w := by
 rw [look_map h.map t n]
 unfold entsT
 rw [atM_map]
 by_cases e : hasT T (t, n) = true
 · rw [if_pos ((h.mem _).2 e), if_pos e]; rfl
 · rw [if_neg (fun h' => e ((h.mem _).1 h')), if_neg e]; rfl
theorem TreeM.inU (h : TreeM F w mb B U bl kv dr T) {q : PI} (hq : hasT T q = true) : q ∈ U := by
 unfold hasT at hq
 rw [Bool.or_eq_true, Bool.or_eq_true] at hq
 rcases hq with (hq | hq) | hq
 · have : q = (0, 0) := by obtain ⟨a, b⟩ := q; simpa [rootB] using hq
   rw [this]; exact h.rt.1
 · have : q = (0, 1) := by obtain ⟨a, b⟩ := q; simpa [trashB] using hq
   rw [this]; exact h.rt.2
 · obtain ⟨o, ho, e⟩ := List.mem_map.1 (mem_find.2 hq)
   rw [← e]; exact h.ids o ho
theorem TreeM.isdir (h : TreeM F w mb B U bl kv dr T) (q : PI) : dirT T q.1 q.2 = (hasT T q && dr q) := by
 unfold dirT hasT
 cases h1 : rootB q.1 q.2 with
 | true =>
   have : q = (0, 0) := by obtain ⟨a, b⟩ := q; simpa [rootB] using h1
   rw [this]; simp [h.drs.1]
 | false =>
   cases h2 : trashB q.1 q.2 with
   | true =>
     have : q = (0, 1) := by obtain ⟨a, b⟩ := q; simpa [trashB] using h2
     rw [this]; simp [h.drs.2.1]
   | false =>
     cases hf : findT T q.1 q.2 with
     | none => rfl
     | some k =>
       obtain ⟨o, ho, e1, e2⟩ := findT_some hf
       have := h.drs.2.2 o (List.mem_of_getElem? ho)
       have eq : idp o = q := Prod.ext e1 e2
       rw [eq] at this
       simp [ho, this]
theorem TreeM.par (h : TreeM F w mb B U bl kv dr T) : ∀ q ∈ U, ∀ p nm, placeT T q = some (p, nm) → p ∈ U := fun q _ p nm hp => by
 obtain ⟨k, o, hf, ho, e1, e2, e3⟩ := placeT_some hp
 have := h.wf.home o (List.mem_of_getElem? ho)
 have hd := h.isdir (o.pt, o.pn)
 rw [this] at hd
 have hh : hasT T (o.pt, o.pn) = true := (Bool.and_eq_true_iff.1 hd.symm).1
 rw [e2] at hh
 exact h.inU hh
theorem TreeM.par_ne (h : TreeM F w mb B U bl kv dr T) {q p : PI} {nm : ByteArray} (hp : placeT T q = some (p, nm)) : p ≠ q := by
 intro e
 subst e
 exact h.wf.rank.self p (.one (by rw [placeT_up, hp]; rfl))
theorem TreeM.kept {S : Nat → Prop} (h : TreeM F w mb B U bl kv dr T) (ho : Only S w w') (hn : ∀ b, F b → ¬ S b) : TreeM F w' mb B U bl kv dr T :=
 ⟨h.objs.kept ho fun b hb => hn b hb.1, h.map.kept ho (hn _ h.fmb), h.fmb, h.bb, h.rt, h.ids, h.drs, h.wf⟩
theorem TreeM.below (h : TreeM F w mb B U bl kv dr T) (hb : Below w.heap.size w w') : TreeM F w' mb B U bl kv dr T := h.kept (Below.only hb (fun _ => False)) fun _ _ f => f
theorem TreeM.mono {F' : Nat → Prop} (h : TreeM F w mb B U bl kv dr T) (hn : ∀ b, F b → F' b) : TreeM F' w mb B U bl kv dr T :=
 ⟨h.objs.mono fun b hb => ⟨hn b hb.1, hb.2⟩, h.map, hn _ h.fmb, h.bb, h.rt, h.ids, h.drs, h.wf⟩
end
theorem only_sub {S S' : Nat → Prop} {w w' : World} (h : Only S w w') (hs : ∀ b, S b → S' b) : Only S' w w' := ⟨h.os, h.tape, h.output, h.size, fun i hi hn => h.block i hi fun e => hn (hs i e)⟩
def MkAt (w : World) (mk gt : Nat) (bl : PI → Nat) (o : OG) : Prop := w.heap[mk]? = some (.cells #[.pointer (some ⟨gt, 0, none⟩), .pointer (some ⟨bl (o.ot, o.on), 0, none⟩), .int .i64 o.pt, .int .i64 o.pn, .string o.nm] 158 (0, 0))
def Didd (F : Nat → Prop) (mb : Nat) (B U : List PI) (bl : PI → Nat) (dr : PI → Bool) (T : List OB) (o : OG) (w w' : World) (r : Bool) (T' : List OB) : Prop :=
 (∀ s, StepT T s o T' (if r = true then s else s + 1)) ∧ (∃ kv', TreeM (growF F w w') w' mb B U bl kv' dr T') ∧ Only F w w'
set_option maxRecDepth 8000 in
set_option maxHeartbeats 4000000 in
theorem mkdo_any {F : Nat → Prop} {w : World} {mb : Nat} {B U : List PI} {bl : PI → Nat} {kv : PI → Value} {dr : PI → Bool} {T : List OB} (h : TreeM F w mb B U bl kv dr T) (hF : ∀ b, F b → b < w.heap.size) (gt mk : Nat) (o : OG) (hg : w.cell? ⟨gt, 0, none⟩ = some (.map (some mb))) (hm : MkAt w mk gt bl o) (hmF : ¬ F mk) (hkd : o.kd = 1 ∨ o.kd = 2) (hdr : dr (o.ot, o.on) = decide (o.kd = 1)) (hq : (o.ot, o.on) ∈ U) (hf : findT T o.ot o.on = none) (h0 : ¬ o.ot = 0) (hp : trashB o.pt o.pn = false) :
   Calls Tryz.prog 107 #[.pointer (some ⟨mk, 0, none⟩)] w fun e w' => ∃ r T', e = .returned (.bool r) ∧ Didd F mb B U bl dr T o w w' r T' := by
 have m0 : w.cell? ⟨mk, 0, none⟩ = some (.pointer (some ⟨gt, 0, none⟩)) := cellOf hm 0
 have m2 : w.cell? ⟨mk, 2, none⟩ = some (.int .i64 o.pt) := cellOf hm 2
 have m3 : w.cell? ⟨mk, 3, none⟩ = some (.int .i64 o.pn) := cellOf hm 3
 have HH : Hid (TreeM F w mb B U bl kv dr T ∧ (∀ b, F b → b < w.heap.size) ∧ w.cell? ⟨gt, 0, none⟩ = some (.map (some mb)) ∧ MkAt w mk gt bl o) := ⟨h, hF, hg, hm⟩
 have hdir := h.isdir (o.pt, o.pn)
 have hinU : hasT T (o.pt, o.pn) = true → (o.pt, o.pn) ∈ U := fun e => h.inU e
 clear h hF hm
 go_enter Tryz.func107, Tryz.ntmps107
 go_wp2_with fail
 refine mkdo_r1 (by kernel_rfl) mk gt mb o.pt o.pn _ _ rfl rfl m0 m2 m3 hg (fun W hW => (HH.out.1.below hW).look o.pt o.pn) ?_
 intro W1 hB1
 have h1 := HH.out.1.below hB1
 have hmW : MkAt W1 mk gt bl o := (hB1.block _ (block_lt HH.out.2.2.2)).trans HH.out.2.2.2
 have hgW : W1.cell? ⟨gt, 0, none⟩ = some (.map (some mb)) := (hB1.cell (p := ⟨gt, 0, none⟩) (cell_lt hg)).trans hg
 have HW : Hid (Below w.heap.size w W1) := hB1
 simp only [putAll, sA, sB, sC]
 clear m0 m2 m3
 have skip : (hasT T (o.pt, o.pn) && dr (o.pt, o.pn)) = false → Didd F mb B U bl dr T o w W1 false T := fun e =>
   ⟨fun s => .made hkd (.inr (.inl (hdir.trans e))), ⟨kv, h1.mono fun b hb => .inl hb⟩, Below.only HW.out F⟩
 cases hh : hasT T (o.pt, o.pn) with
 | false =>
   have HS : Hid (Didd F mb B U bl dr T o w W1 false T) := skip (by rw [hh]; rfl)
   clear h1 hmW hgW hB1 skip hdir hinU
   simp only [Bool.false_eq_true, if_false]
   go_wp2_with fail
   go_ret
   exact ⟨false, T, rfl, HS.out⟩
 | true =>
   have hpU := hinU hh
   have c4 : W1.cell? ⟨bl (o.pt, o.pn), 4, none⟩ = some (.bool (dr (o.pt, o.pn))) := h1.objs.cell hpU 4
   simp only [if_true]
   cases hd : dr (o.pt, o.pn) with
   | false =>
     have HS : Hid (Didd F mb B U bl dr T o w W1 false T) := skip (by rw [hd, hh]; rfl)
     rw [hd] at c4
     clear h1 hmW hgW hB1 skip hdir hinU
     go_wp2_with fail
     go_ret
     exact ⟨false, T, rfl, HS.out⟩
   | true =>
     rw [hd] at c4
     have hdir' : dirT T o.pt o.pn = true := hdir.trans (by rw [hh, hd]; rfl)
     have hstep : ∀ s, StepT T s o (T ++ [madeO o]) s := fun s => .make hkd hp hdir' hf
     have hmb := h1.map.lt
     have hpq : (o.pt, o.pn) ≠ (o.ot, o.on) := fun e => by
       have e1 := congrArg Prod.fst e
       have e2 := congrArg Prod.snd e
       simp only at e1 e2
       unfold hasT at hh
       simp only [e1, e2, hf] at hh
       simp [rootB, trashB, h0] at hh
     obtain ⟨WE, hrun, hmap, honly, hsz⟩ := put_map (w := W1.drew) (mb := mb) (E := entsT B bl T) (by exact h1.map.kept (S := fun _ => False) ⟨rfl, rfl, rfl, Nat.le_refl _, fun _ _ _ => rfl⟩ (fun f => f)) o.ot o.on (bl (o.ot, o.on)) (by
       unfold entsT
       rw [atM_map, if_neg]
       intro hx
       have := (h1.mem _).1 hx
       unfold hasT at this
       simp [rootB, trashB, h0, hf] at this)
     have m0 : W1.cell? ⟨mk, 0, none⟩ = some (.pointer (some ⟨gt, 0, none⟩)) := cellOf hmW 0
     have m1 : W1.cell? ⟨mk, 1, none⟩ = some (.pointer (some ⟨bl (o.ot, o.on), 0, none⟩)) := cellOf hmW 1
     have o2 : W1.cell? ⟨bl (o.ot, o.on), 2, none⟩ = some (.int .i64 o.ot) := h1.objs.cell hq 2
     have o3 : W1.cell? ⟨bl (o.ot, o.on), 3, none⟩ = some (.int .i64 o.on) := h1.objs.cell hq 3
     have honly1 : Only (· = mb) W1 WE := ⟨honly.os, honly.tape, honly.output, honly.size, honly.block⟩
     have hE : ObjsM (exF F mb) WE U bl kv dr (placeT T) (placeT T) := h1.objs.kept honly1 fun b hb => hb.2
     have hFE : ∀ b, exF F mb b → b < WE.heap.size := fun b hb => by have := HH.out.2.1 b hb.1; have := HW.out.size; have : WE.heap.size = W1.heap.size := hsz; omega
     have hmE : MkAt WE mk gt bl o := (honly1.block _ (block_lt hmW) (fun e => hmF (by rw [e]; exact h1.fmb))).trans hmW
     have hput := put_ns (p2 := (o.pt, o.pn)) (nm2 := o.nm) (w := WE.drew) (hE.below ⟨rfl, rfl, rfl, Nat.le_refl _, fun _ _ => rfl⟩) hFE hq (placeT_none hf) hpU hpq
     have HG : Hid (TreeM F W1 mb B U bl kv dr T ∧ Only (· = mb) W1 WE ∧ MapAt WE mb (entsT B bl T ++ [((o.ot, o.on), bl (o.ot, o.on))]) ∧ (∀ s, StepT T s o (T ++ [madeO o]) s) ∧ WE.heap.size = W1.heap.size) := ⟨h1, honly1, hmap, hstep, hsz⟩
     have n1 : WE.cell? ⟨mk, 1, none⟩ = some (.pointer (some ⟨bl (o.ot, o.on), 0, none⟩)) := cellOf hmE 1
     have n4 : WE.cell? ⟨mk, 4, none⟩ = some (.string o.nm) := cellOf hmE 4
     clear h1 hmW hB1 skip hdir hinU hstep hmap honly honly1 hE hFE hmE hmb
     go_wp2_with fail
     refine mkdo_r4 (by kernel_rfl) mk gt mb (bl (o.ot, o.on)) o.ot o.on WE _ rfl rfl m0 m1 hgW o2 o3 hrun ?_
     rintro _ W4 hW4
     rw [hW4]
     clear hW4 W4
     simp only [putAll, sA, sB, sC]
     clear m0 m1 o2 o3 hgW c4 hrun
     go_wp2_with fail
     refine mkdo_r5 (by kernel_rfl) mk (bl (o.ot, o.on)) (bl (o.pt, o.pn)) o.nm (fun W => ∃ kv', ObjsM (growF (exF F mb) WE.drew W) W U bl kv' dr (updP (placeT T) (o.ot, o.on) (some ((o.pt, o.pn), o.nm))) (updP (placeT T) (o.ot, o.on) (some ((o.pt, o.pn), o.nm))) ∧ Only (exF F mb) WE.drew W) _ rfl rfl rfl n1 n4 hput ?_
     rintro _ W5 ⟨kv', hO5, hOn5⟩
     have HR : Hid (Didd F mb B U bl dr T o w W5 true (T ++ [madeO o])) := by
       obtain ⟨h1, ho1, hmap, hstep, hsz⟩ := HG.out
       have hOn5' : Only (exF F mb) WE W5 := ⟨hOn5.os, hOn5.tape, hOn5.output, hOn5.size, hOn5.block⟩
       have hmb := h1.map.lt
       refine ⟨hstep, ⟨kv', ⟨?_, ?_, .inl h1.fmb, h1.bb, h1.rt, fun x hx => ?_, ⟨h1.drs.1, h1.drs.2.1, fun x hx => ?_⟩, h1.wf.step (hstep 0) h0⟩⟩, ?_⟩
       · have e : placeT (T ++ [madeO o]) = updP (placeT T) (o.ot, o.on) (some ((o.pt, o.pn), o.nm)) := placeT_snoc (x := madeO o) hf
         rw [e]
         refine hO5.mono fun b hb => ?_
         have hw1 := HW.out.size
         rcases hb with hb | hb
         · exact ⟨.inl hb.1, hb.2⟩
         · have : WE.heap.size ≤ b := hb.1
           exact ⟨.inr ⟨by omega, hb.2⟩, by omega⟩
       · have e : entsT B bl (T ++ [madeO o]) = entsT B bl T ++ [((o.ot, o.on), bl (o.ot, o.on))] := by
           unfold entsT
           simp only [List.map_append, List.map_cons, List.map_nil, List.append_assoc]
           rfl
         rw [e]
         exact hmap.kept hOn5' (fun hb => hb.2 rfl)
       · rcases List.mem_append.1 hx with hx | hx
         · exact h1.ids x hx
         · rw [List.mem_singleton.1 hx]; exact hq
       · rcases List.mem_append.1 hx with hx | hx
         · exact h1.drs.2.2 x hx
         · rw [List.mem_singleton.1 hx]; exact hdr
       · have a1 : Only F w W1 := Below.only HW.out F
         have a2 : Only F W1 WE := only_sub ho1 fun b hb => by rw [hb]; exact h1.fmb
         have a3 : Only F WE W5 := only_sub hOn5' fun b hb => hb.1
         exact (a1.next a2).next a3
     clear HG hO5 hOn5 hput n1 n4
     simp only [putAll, sA, sB, sC]
     go_wp2_with fail
     go_ret
     exact ⟨true, _, rfl, HR.out⟩
end Go.Proofs.YthhakekbffembaaGreatDoor.Ck.Y

namespace Go.Proofs.YthhakekbffembaaGreatDoor.Ck.Y
open Go.RowKit Go.Maps Go.Lib
theorem drew_only (w : World) : Only (fun _ => False) w w.drew := ⟨rfl, rfl, rfl, Nat.le_refl _, fun _ _ _ => rfl⟩
theorem of_drew_only {S : Nat → Prop} {w w' : World} (h : Only S w.drew w') : Only S w w' := ⟨h.os, h.tape, h.output, h.size, h.block⟩
set_option maxRecDepth 8000 in
set_option maxHeartbeats 4000000 in
theorem mkun_any {F : Nat → Prop} {w : World} {mb : Nat} {B U : List PI} {bl : PI → Nat} {kv : PI → Value} {dr : PI → Bool} {T : List OB} (gt mk : Nat) (o : OG) (h : TreeM F w mb B U bl kv dr (T ++ [madeO o])) (hF : ∀ b, F b → b < w.heap.size) (hg : w.cell? ⟨gt, 0, none⟩ = some (.map (some mb))) (hm : MkAt w mk gt bl o) (hgF : ¬ F gt) (hmF : ¬ F mk) (hf : findT T o.ot o.on = none) (h0 : ¬ o.ot = 0) (hwf : WfT T) :
   Calls Tryz.prog 108 #[.pointer (some ⟨mk, 0, none⟩)] w fun e w' => e = .returned (.tuple #[]) ∧ (∃ kv', TreeM (growF F w w') w' mb B U bl kv' dr T) ∧ Only F w w' := by
 have m1 : w.cell? ⟨mk, 1, none⟩ = some (.pointer (some ⟨bl (o.ot, o.on), 0, none⟩)) := cellOf hm 1
 have hq : (o.ot, o.on) ∈ U := h.ids (madeO o) (by simp)
 have hpl : placeT (T ++ [madeO o]) = updP (placeT T) (o.ot, o.on) (some ((o.pt, o.pn), o.nm)) := placeT_snoc (x := madeO o) hf
 have hpf : placeT (T ++ [madeO o]) (o.ot, o.on) = some ((o.pt, o.pn), o.nm) := by rw [hpl, updP_at]
 have hback : updP (placeT (T ++ [madeO o])) (o.ot, o.on) none = placeT T := by
   rw [hpl, updP_twice]
   have := updP_self (placeT T) (o.ot, o.on)
   rwa [placeT_none hf] at this
 have hput := put_sn h.objs (fun b hb => hF b hb.1) hq hpf (h.par _ hq _ _ hpf) (h.par_ne hpf)
 rw [hback] at hput
 have HH : Hid (TreeM F w mb B U bl kv dr (T ++ [madeO o]) ∧ (∀ b, F b → b < w.heap.size) ∧ w.cell? ⟨gt, 0, none⟩ = some (.map (some mb)) ∧ MkAt w mk gt bl o) := ⟨h, hF, hg, hm⟩
 clear h hF hg hm hpl hpf hback
 go_enter Tryz.func108, Tryz.ntmps108
 go_wp2_with (go_at_call 150; refine hput.mono ?_; rintro e W1 ⟨rfl, kv', hO1, hOn1⟩; have HO : Hid (ObjsM (growF (exF F mb) w W1) W1 U bl kv' dr (placeT T) (placeT T) ∧ Only (exF F mb) w W1) := ⟨hO1, hOn1⟩; clear hO1 hOn1 hput)
 obtain ⟨h, hF, hg, hm⟩ := HH.out
 obtain ⟨hO1, hOn1⟩ := HO.out
 have hm1 : MkAt W1 mk gt bl o := (hOn1.block _ (block_lt hm) (fun e => hmF e.1)).trans hm
 have m0 : W1.cell? ⟨mk, 0, none⟩ = some (.pointer (some ⟨gt, 0, none⟩)) := cellOf hm1 0
 have m1 : W1.cell? ⟨mk, 1, none⟩ = some (.pointer (some ⟨bl (o.ot, o.on), 0, none⟩)) := cellOf hm1 1
 have hg1 : W1.cell? ⟨gt, 0, none⟩ = some (.map (some mb)) := only_cell hOn1 hg fun e => hgF e.1
 have o2 : W1.cell? ⟨bl (o.ot, o.on), 2, none⟩ = some (.int .i64 o.ot) := hO1.cell hq 2
 have o3 : W1.cell? ⟨bl (o.ot, o.on), 3, none⟩ = some (.int .i64 o.on) := hO1.cell hq 3
 have hents : entsT B bl (T ++ [madeO o]) = entsT B bl T ++ [((o.ot, o.on), bl (o.ot, o.on))] := by
   unfold entsT
   simp only [List.map_append, List.map_cons, List.map_nil, List.append_assoc]
   rfl
 have hmap1 : MapAt W1.drew mb (entsT B bl T ++ [((o.ot, o.on), bl (o.ot, o.on))]) := by
   rw [← hents]
   exact (h.map.kept hOn1 (fun e => e.2 rfl)).kept (drew_only W1) (fun f => f)
 have hno : atM (entsT B bl T) (o.ot, o.on) = none := by
   unfold entsT
   rw [atM_map, if_neg]
   intro hx
   rcases List.mem_append.1 hx with hx | hx
   · rcases h.bb with e | e <;> rw [e] at hx <;> simp [h0] at hx
   · have := mem_find.1 hx
     simp only [hf] at this
     cases this
 obtain ⟨WE, hrun, hmapE, honly, hsz⟩ : ∃ W, (∀ ty, (Builtin.delete_ #[71, 28] ty #[.map (some mb), idv o.ot o.on]).run Tryz.prog W1.drew = .ok (.tuple #[]) W) ∧ MapAt W mb (entsT B bl T) ∧ Only (· = mb) W1.drew W ∧ W.heap.size = W1.drew.heap.size := by
   obtain ⟨W, h1, h2, h3, h4⟩ := del_map hmap1 hno 0
   exact ⟨W, fun ty => h1, h2, h3, h4⟩
 have HR : Hid ((∃ kv', TreeM (growF F w WE) WE mb B U bl kv' dr T) ∧ Only F w WE) := by
   have ho1 : Only (· = mb) W1 WE := of_drew_only honly
   have hsz' : WE.heap.size = W1.heap.size := hsz
   have hmb := h.map.lt
   have hs1 := hOn1.size
   refine ⟨⟨kv', ⟨?_, hmapE, .inl h.fmb, h.bb, h.rt, fun x hx => h.ids x (List.mem_append.2 (.inl hx)), ⟨h.drs.1, h.drs.2.1, fun x hx => h.drs.2.2 x (List.mem_append.2 (.inl hx))⟩, hwf⟩⟩, ?_⟩
   · refine (hO1.kept ho1 (fun b hb e => ?_)).mono fun b hb => ?_
     · rcases hb with hb | hb
       · exact hb.2 e
       · omega
     · rcases hb with hb | hb
       · exact ⟨.inl hb.1, hb.2⟩
       · exact ⟨.inr ⟨hb.1, by omega⟩, by omega⟩
   · exact (only_sub hOn1 fun b hb => hb.1).next (only_sub ho1 fun b hb => by rw [hb]; exact h.fmb)
 clear h hF hg hm hO1 hOn1 hm1 hents hmap1 hno hmapE honly hsz
 refine mkun_r1 (by kernel_rfl) mk gt mb (bl (o.ot, o.on)) o.ot o.on WE _ rfl rfl m0 m1 hg1 o2 o3 hrun ?_
 rintro _ W4 hW4
 rw [hW4]
 clear hW4 W4 m0 m1 hg1 o2 o3 hrun
 simp only [putAll, sA, sB, sC]
 go_wp2_with fail
 go_end0
 exact ⟨rfl, HR.out⟩
def MvAt (w : World) (mv gt : Nat) (o : OG) (fu : Value) (fn : ByteArray) : Prop := w.heap[mv]? = some (.cells #[.pointer (some ⟨gt, 0, none⟩), .int .i64 o.ot, .int .i64 o.on, .int .i64 o.pt, .int .i64 o.pn, .string o.nm, fu, .string fn] 161 (0, 0))
theorem MvAt.set {w : World} {mv gt : Nat} {o : OG} {fu : Value} {fn : ByteArray} (h : MvAt w mv gt o fu fn) (fu' : Value) (fn' : ByteArray) : MvAt ((w.setCell ⟨mv, 6, none⟩ fu').setCell ⟨mv, 7, none⟩ (.string fn')) mv gt o fu' fn' := heap_set_same (k := 7) (heap_set_same (k := 6) h fu') (.string fn')
theorem two_only (w : World) (b i j : Nat) (u v : Value) : Only (· = b) w ((w.setCell ⟨b, i, none⟩ u).setCell ⟨b, j, none⟩ v) := (Only.setCell (S := (· = b)) w ⟨b, i, none⟩ u rfl).next (Only.setCell (S := (· = b)) _ ⟨b, j, none⟩ v rfl)
structure Movd (F : Nat → Prop) (mb : Nat) (B U : List PI) (bl : PI → Nat) (dr : PI → Bool) (T : List OB) (o : OG) (mv gt : Nat) (fu : Value) (fn : ByteArray) (w w' : World) (r : Bool) (T' : List OB) : Prop where
 step : ∀ s, StepT T s o T' (if r = true then s else s + 1)
 tree : ∃ kv', TreeM (growF F w w') w' mb B U bl kv' dr T'
 only : Only (fun b => F b ∨ b = mv) w w'
 yes : r = true → ∃ k b, findT T o.ot o.on = some k ∧ T[k]? = some b ∧ T' = T.set k (moveO o b) ∧ MvAt w' mv gt o (.pointer (some ⟨bl (b.pt, b.pn), 0, none⟩)) b.nm
 no : r = false → MvAt w' mv gt o fu fn
set_option maxRecDepth 8000 in
set_option maxHeartbeats 4000000 in
theorem mvdo_any {F : Nat → Prop} {w : World} {mb : Nat} {B U : List PI} {bl : PI → Nat} {kv : PI → Value} {dr : PI → Bool} {T : List OB} (h : TreeM F w mb B U bl kv dr T) (hF : ∀ b, F b → b < w.heap.size) (gt mv : Nat) (o : OG) (fu : Value) (fn : ByteArray) (hg : w.cell? ⟨gt, 0, none⟩ = some (.map (some mb))) (hm : MvAt w mv gt o fu fn) (hmF : ¬ F mv) (hkd : o.kd = 3) (h0 : ¬ o.ot = 0) :
   Calls Tryz.prog 109 #[.pointer (some ⟨mv, 0, none⟩)] w fun e w' => ∃ r T', e = .returned (.bool r) ∧ Movd F mb B U bl dr T o mv gt fu fn w w' r T' := by
 have m0 : w.cell? ⟨mv, 0, none⟩ = some (.pointer (some ⟨gt, 0, none⟩)) := cellOf hm 0
 have m1 : w.cell? ⟨mv, 1, none⟩ = some (.int .i64 o.ot) := cellOf hm 1
 have m2 : w.cell? ⟨mv, 2, none⟩ = some (.int .i64 o.on) := cellOf hm 2
 have m3 : w.cell? ⟨mv, 3, none⟩ = some (.int .i64 o.pt) := cellOf hm 3
 have m4 : w.cell? ⟨mv, 4, none⟩ = some (.int .i64 o.pn) := cellOf hm 4
 have HH : Hid (TreeM F w mb B U bl kv dr T ∧ (∀ b, F b → b < w.heap.size) ∧ MvAt w mv gt o fu fn) := ⟨h, hF, hm⟩
 have hdir := h.isdir (o.pt, o.pn)
 have hinU : hasT T (o.pt, o.pn) = true → (o.pt, o.pn) ∈ U := fun e => h.inU e
 have hhq : hasT T (o.ot, o.on) = (findT T o.ot o.on).isSome := by unfold hasT; simp [rootB, trashB, h0]
 have hinQ : hasT T (o.ot, o.on) = true → (o.ot, o.on) ∈ U := fun e => h.inU e
 clear h hF hm
 go_enter Tryz.func109, Tryz.ntmps109
 go_wp2_with fail
 refine mvdo_r1 (by kernel_rfl) mv gt mb o.ot o.on o.pt o.pn _ _ _ rfl rfl m0 m1 m2 m3 m4 hg (fun W hW => (HH.out.1.below hW).look o.ot o.on) (fun W hW => (HH.out.1.below hW).look o.pt o.pn) ?_
 intro W1 hB1
 have h1 := HH.out.1.below hB1
 have hm1 : MvAt W1 mv gt o fu fn := (hB1.block _ (block_lt HH.out.2.2)).trans HH.out.2.2
 have HW : Hid (Below w.heap.size w W1) := hB1
 clear m0 m1 m2 m3 m4 hg
 simp only [putAll, sA, sB, sC]
 have skip : (findT T o.ot o.on = none ∨ dirT T o.pt o.pn = false ∨ (o.pt = o.ot ∧ o.pn = o.on) ∨ Bel T (o.pt, o.pn) (o.ot, o.on)) → Movd F mb B U bl dr T o mv gt fu fn w W1 false T := fun e =>
   ⟨fun s => .moved hkd e, ⟨kv, h1.mono fun b hb => .inl hb⟩, Below.only HW.out _, (fun e => by cases e), fun _ => hm1⟩
 cases hq : findT T o.ot o.on with
 | none =>
   have HS : Hid (Movd F mb B U bl dr T o mv gt fu fn w W1 false T) := skip (.inl hq)
   have e1 : hasT T (o.ot, o.on) = false := by rw [hhq, hq]; rfl
   rw [e1]
   clear h1 hm1 hB1 skip hdir hinU hhq hinQ
   simp only [Bool.false_eq_true, if_false]
   generalize (if hasT T (o.pt, o.pn) = true then Value.pointer (some ⟨bl (o.pt, o.pn), 0, none⟩) else .pointer none) = v2
   go_wp2_with fail
   go_ret
   exact ⟨false, T, rfl, HS.out⟩
 | some k =>
   obtain ⟨b, hb, eb1, eb2⟩ := findT_some hq
   have e1 : hasT T (o.ot, o.on) = true := by rw [hhq, hq]; rfl
   have hqU := hinQ e1
   rw [e1]
   simp only [if_true]
   cases hh : hasT T (o.pt, o.pn) with
   | false =>
     have HS : Hid (Movd F mb B U bl dr T o mv gt fu fn w W1 false T) := skip (.inr (.inl (by rw [hdir, hh]; rfl)))
     clear h1 hm1 hB1 skip hdir hinU hhq hinQ
     simp only [Bool.false_eq_true, if_false]
     go_wp2_with fail
     go_ret
     exact ⟨false, T, rfl, HS.out⟩
   | true =>
     have hpU := hinU hh
     have c4 : W1.cell? ⟨bl (o.pt, o.pn), 4, none⟩ = some (.bool (dr (o.pt, o.pn))) := h1.objs.cell hpU 4
     simp only [if_true]
     cases hd : dr (o.pt, o.pn) with
     | false =>
       have HS : Hid (Movd F mb B U bl dr T o mv gt fu fn w W1 false T) := skip (.inr (.inl (by rw [hdir, hh, hd]; rfl)))
       rw [hd] at c4
       clear h1 hm1 hB1 skip hdir hinU hhq hinQ
       go_wp2_with fail
       go_ret
       exact ⟨false, T, rfl, HS.out⟩
     | true =>
       rw [hd] at c4
       have hdir' : dirT T o.pt o.pn = true := hdir.trans (by rw [hh, hd]; rfl)
       by_cases hpq : (o.pt, o.pn) = (o.ot, o.on)
       · have HS : Hid (Movd F mb B U bl dr T o mv gt fu fn w W1 false T) := skip (.inr (.inr (.inl ⟨congrArg Prod.fst hpq, congrArg Prod.snd hpq⟩)))
         rw [hpq] at c4 ⊢
         have hE := peq_same (bl (o.ot, o.on)) W1
         clear h1 hm1 hB1 skip hdir hinU hhq hinQ
         go_wp2_with fail
         go_ret
         exact ⟨false, T, rfl, HS.out⟩
       · have hblne : bl (o.pt, o.pn) ≠ bl (o.ot, o.on) := fun e => hpq (h1.objs.inj _ hpU _ hqU e)
         have hE := peq_other hblne (h1.objs.obj _ hpU) (h1.objs.obj _ hqU)
         have hbel := obelow_any h1.objs h1.par h1.wf.rank hpU hqU
         by_cases hB : Bel T (o.pt, o.pn) (o.ot, o.on)
         · have HS : Hid (Movd F mb B U bl dr T o mv gt fu fn w W1 false T) := skip (.inr (.inr (.inr hB)))
           have hbel' : Calls Tryz.prog 82 #[.pointer (some ⟨bl (o.pt, o.pn), 0, none⟩), .pointer (some ⟨bl (o.ot, o.on), 0, none⟩)] W1 fun e w' => e = .returned (.bool true) ∧ w' = W1 := by
             refine hbel.mono ?_
             rintro e w' ⟨r, rfl, hr, hw⟩
             rw [hr.2 hB]
             exact ⟨rfl, hw⟩
           clear h1 hm1 hB1 skip hdir hinU hhq hinQ hbel
           go_wp2_with (go_at_call 82; refine Calls_on hbel' ?_)
           go_ret
           exact ⟨false, T, rfl, HS.out⟩
         · have hbel' : Calls Tryz.prog 82 #[.pointer (some ⟨bl (o.pt, o.pn), 0, none⟩), .pointer (some ⟨bl (o.ot, o.on), 0, none⟩)] W1 fun e w' => e = .returned (.bool false) ∧ w' = W1 := by
             refine hbel.mono ?_
             rintro e w' ⟨r, rfl, hr, hw⟩
             cases r
             · exact ⟨rfl, hw⟩
             · exact absurd (hr.1 rfl) hB
           have hplq : placeT T (o.ot, o.on) = some ((b.pt, b.pn), b.nm) := placeT_at hq hb
           have hpb := h1.par _ hqU _ _ hplq
           have hpbne := h1.par_ne hplq
           have q0 : W1.cell? ⟨bl (o.ot, o.on), 0, none⟩ = some (.pointer (some ⟨bl (b.pt, b.pn), 0, none⟩)) := by rw [h1.objs.cell hqU 0, hplq]; rfl
           have q1 : W1.cell? ⟨bl (o.ot, o.on), 1, none⟩ = some (.string b.nm) := by rw [h1.objs.cell hqU 1, hplq]; rfl
           have m6 : W1.cell? ⟨mv, 6, none⟩ = some fu := cellOf hm1 6
           have m7 : W1.cell? ⟨mv, 7, none⟩ = some (.string fn) := cellOf hm1 7
           have f6 : W1.frozen? ⟨mv, 6, none⟩ = false := frozenOf hm1 6
           have f7 : W1.frozen? ⟨mv, 7, none⟩ = false := frozenOf hm1 7
           obtain ⟨W4, hW4⟩ : ∃ W4, W4 = (W1.setCell ⟨mv, 6, none⟩ (.pointer (some ⟨bl (b.pt, b.pn), 0, none⟩))).setCell ⟨mv, 7, none⟩ (.string b.nm) := ⟨_, rfl⟩
           have ho4 : Only (· = mv) W1 W4 := by rw [hW4]; exact two_only _ _ _ _ _ _
           have hm4 : MvAt W4 mv gt o (.pointer (some ⟨bl (b.pt, b.pn), 0, none⟩)) b.nm := by rw [hW4]; exact hm1.set _ _
           have h4 : TreeM F W4 mb B U bl kv dr T := h1.kept ho4 fun b hb e => hmF (by rw [← e]; exact hb)
           have hF4 : ∀ b, exF F mb b → b < W4.heap.size := fun b hb => by have := HH.out.2.1 b hb.1; have := HW.out.size; have := ho4.size; omega
           have hput := put_ss (p2 := (o.pt, o.pn)) (nm2 := o.nm) h4.objs hF4 hqU hplq hpb hpbne hpU hpq
           have n5 : W4.cell? ⟨mv, 5, none⟩ = some (.string o.nm) := cellOf hm4 5
           have hw5 : ((W1.setCell ⟨mv, 6, none⟩ (.pointer (some ⟨bl (b.pt, b.pn), 0, none⟩))).setCell ⟨mv, 7, none⟩ (.string b.nm)).cell? ⟨mv, 5, none⟩ = some (.string o.nm) := by rw [← hW4]; exact n5
           have hstep : ∀ s, StepT T s o (T.set k (moveO o b)) s := fun s => .move hkd hq hb hdir' (fun e => hpq (Prod.ext e.1 e.2)) hB
           have HG : Hid (TreeM F W4 mb B U bl kv dr T ∧ Only (· = mv) W1 W4 ∧ MvAt W4 mv gt o (.pointer (some ⟨bl (b.pt, b.pn), 0, none⟩)) b.nm ∧ (∀ s, StepT T s o (T.set k (moveO o b)) s) ∧ idp b = (o.ot, o.on)) := ⟨h4, ho4, hm4, hstep, Prod.ext eb1 eb2⟩
           have HWq : Hid (W4 = (W1.setCell ⟨mv, 6, none⟩ (.pointer (some ⟨bl (b.pt, b.pn), 0, none⟩))).setCell ⟨mv, 7, none⟩ (.string b.nm)) := hW4
           have hput' := hput
           rw [hW4] at hput'
           clear h1 hm1 hB1 skip hdir hinU hhq hinQ hbel ho4 hm4 h4 hF4 hput hstep n5 hW4
           go_wp2_with (first | (go_at_call 82; refine Calls_on hbel' ?_) | (go_at_call 150; refine hput'.mono ?_; rintro e W5 ⟨rfl, kv', hO5, hOn5⟩; have HO : Hid (ObjsM (growF (exF F mb) W4 W5) W5 U bl kv' dr (updP (placeT T) (o.ot, o.on) (some ((o.pt, o.pn), o.nm))) (updP (placeT T) (o.ot, o.on) (some ((o.pt, o.pn), o.nm))) ∧ Only (exF F mb) W4 W5) := (by rw [HWq.out]; exact ⟨hO5, hOn5⟩); clear hO5 hOn5 hput'))
           go_ret
           obtain ⟨h4, ho4, hm4, hstep, hid⟩ := HG.out
           obtain ⟨hO5, hOn5⟩ := HO.out
           have hmb := h4.map.lt
           have s4 := ho4.size
           have s5 := hOn5.size
           have hmv := block_lt hm4
           have hw1 := HW.out.size
           refine ⟨true, T.set k (moveO o b), rfl, hstep, ⟨kv', ?_⟩, ?_, fun _ => ⟨k, b, hq, hb, rfl, (hOn5.block _ hmv (fun e => hmF e.1)).trans hm4⟩, fun e => by cases e⟩
           · refine ⟨?_, ?_, .inl h4.fmb, h4.bb, h4.rt, fun x hx => ?_, ⟨h4.drs.1, h4.drs.2.1, fun x hx => ?_⟩, h4.wf.step (hstep 0) h0⟩
             · have e : placeT (T.set k (moveO o b)) = updP (placeT T) (o.ot, o.on) (some ((o.pt, o.pn), o.nm)) := by
                 have := placeT_set (b' := moveO o b) h4.wf.apart hb rfl
                 rw [hid] at this
                 exact this
               rw [e]
               refine hO5.mono fun x hx => ?_
               rcases hx with hx | hx
               · exact ⟨.inl hx.1, hx.2⟩
               · exact ⟨.inr ⟨by omega, hx.2⟩, by omega⟩
             · have e : entsT B bl (T.set k (moveO o b)) = entsT B bl T := by
                 unfold entsT
                 rw [map_set_idp (b' := moveO o b) hb rfl]
               rw [e]
               exact h4.map.kept hOn5 (fun e => e.2 rfl)
             · have hx' : idp x ∈ (T.set k (moveO o b)).map idp := List.mem_map.2 ⟨x, hx, rfl⟩
               rw [map_set_idp (b' := moveO o b) hb rfl] at hx'
               obtain ⟨y, hy, e⟩ := List.mem_map.1 hx'
               rw [← e]
               exact h4.ids y hy
             · rcases List.mem_or_eq_of_mem_set hx with hx | hx
               · exact h4.drs.2.2 x hx
               · rw [hx]
                 exact h4.drs.2.2 b (List.mem_of_getElem? hb)
           · have a1 : Only (fun b => F b ∨ b = mv) w W1 := Below.only HW.out _
             have a2 : Only (fun b => F b ∨ b = mv) W1 W4 := only_sub ho4 fun b hb => .inr hb
             have a3 : Only (fun b => F b ∨ b = mv) W4 W5 := only_sub hOn5 fun b hb => .inl hb.1
             exact (a1.next a2).next a3
set_option maxRecDepth 8000 in
set_option maxHeartbeats 4000000 in
theorem mvun_any {F : Nat → Prop} {w : World} {mb : Nat} {B U : List PI} {bl : PI → Nat} {kv : PI → Value} {dr : PI → Bool} {T : List OB} {k : Nat} {b : OB} (gt mv : Nat) (o : OG) (h : TreeM F w mb B U bl kv dr (T.set k (moveO o b))) (hF : ∀ b, F b → b < w.heap.size) (hg : w.cell? ⟨gt, 0, none⟩ = some (.map (some mb))) (hm : MvAt w mv gt o (.pointer (some ⟨bl (b.pt, b.pn), 0, none⟩)) b.nm) (hmF : ¬ F mv) (hq : findT T o.ot o.on = some k) (hb : T[k]? = some b) (hwf : WfT T) :
   Calls Tryz.prog 110 #[.pointer (some ⟨mv, 0, none⟩)] w fun e w' => e = .returned (.tuple #[]) ∧ (∃ kv', TreeM (growF F w w') w' mb B U bl kv' dr T) ∧ Only (fun b => F b ∨ b = mv) w w' ∧ MvAt w' mv gt o (.pointer none) ⟨#[]⟩ := by
 have hkl := (List.getElem?_eq_some_iff.1 hb).1
 obtain ⟨b', hb', eb1, eb2⟩ := findT_some hq
 rw [hb] at hb'
 cases hb'
 have hid : idp b = (o.ot, o.on) := Prod.ext eb1 eb2
 have hset : (T.set k (moveO o b))[k]? = some (moveO o b) := by simp [hkl]
 have hfs : ∀ t n, findT (T.set k (moveO o b)) t n = findT T t n := fun t n => findT_set (b' := moveO o b) hb rfl t n
 have hq' : findT (T.set k (moveO o b)) o.ot o.on = some k := by rw [hfs]; exact hq
 have hpf : placeT (T.set k (moveO o b)) (o.ot, o.on) = some ((o.pt, o.pn), o.nm) := placeT_at hq' hset
 have hinv : (T.set k (moveO o b)).set k b = T := by
   rw [List.set_set]
   have e := (List.getElem?_eq_some_iff.1 hb).2
   rw [← e]
   exact List.set_getElem_self hkl
 have hback : updP (placeT (T.set k (moveO o b))) (o.ot, o.on) (some ((b.pt, b.pn), b.nm)) = placeT T := by
   have := placeT_set (b' := b) h.wf.apart hset rfl
   rw [hinv] at this
   have e : idp (moveO o b) = (o.ot, o.on) := hid
   rw [e] at this
   exact this.symm
 have hqU : (o.ot, o.on) ∈ U := by
   have := h.ids (moveO o b) (List.mem_of_getElem? hset)
   have e : idp (moveO o b) = (o.ot, o.on) := hid
   rwa [e] at this
 have hhas : ∀ q, hasT (T.set k (moveO o b)) q = hasT T q := fun q => by unfold hasT; rw [hfs]
 have hpb : (b.pt, b.pn) ∈ U := by
   refine h.inU ?_
   rw [hhas]
   have hd := hwf.home b (List.mem_of_getElem? hb)
   unfold dirT at hd
   unfold hasT
   simp only [Bool.or_eq_true] at hd ⊢
   rcases hd with (hd | hd) | hd
   · exact .inl (.inl hd)
   · exact .inl (.inr hd)
   · refine .inr ?_
     cases hf : findT T b.pt b.pn with
     | none => rw [hf] at hd; cases hd
     | some j => rfl
 have hpbne : (b.pt, b.pn) ≠ (o.ot, o.on) := fun e => by
   refine hwf.rank.self (o.ot, o.on) (.one ?_)
   rw [upT_at (a := (o.ot, o.on)) hq hb, e]
 have hput := put_ss (p2 := (b.pt, b.pn)) (nm2 := b.nm) (w := w.drew) (h.objs.below ⟨rfl, rfl, rfl, Nat.le_refl _, fun _ _ => rfl⟩) (fun b hb => hF b hb.1) hqU hpf (h.par _ hqU _ _ hpf) (h.par_ne hpf) hpb hpbne
 rw [hback] at hput
 have hlk : (Instr.lookup 71 (.map (some mb)) (idv o.ot o.on) false).run Tryz.prog w.drew = .ok (.pointer (some ⟨bl (o.ot, o.on), 0, none⟩)) w.drew := by
   have := (h.below (w' := w.drew) ⟨rfl, rfl, rfl, Nat.le_refl _, fun _ _ => rfl⟩).look o.ot o.on
   rw [if_pos] at this
   · exact this
   · rw [hhas]; unfold hasT; rw [hq]; simp
 have m0 : w.cell? ⟨mv, 0, none⟩ = some (.pointer (some ⟨gt, 0, none⟩)) := cellOf hm 0
 have m1 : w.cell? ⟨mv, 1, none⟩ = some (.int .i64 o.ot) := cellOf hm 1
 have m2 : w.cell? ⟨mv, 2, none⟩ = some (.int .i64 o.on) := cellOf hm 2
 have m6 : w.cell? ⟨mv, 6, none⟩ = some (.pointer (some ⟨bl (b.pt, b.pn), 0, none⟩)) := cellOf hm 6
 have m7 : w.cell? ⟨mv, 7, none⟩ = some (.string b.nm) := cellOf hm 7
 have HH : Hid (TreeM F w mb B U bl kv dr (T.set k (moveO o b)) ∧ (∀ b, F b → b < w.heap.size) ∧ MvAt w mv gt o (.pointer (some ⟨bl (b.pt, b.pn), 0, none⟩)) b.nm ∧ (T.set k (moveO o b)).map idp = T.map idp ∧ WfT T ∧ (∀ x ∈ T, ∃ y ∈ T.set k (moveO o b), idp y = idp x ∧ y.dir = x.dir)) := by
   refine ⟨h, hF, hm, map_set_idp (b' := moveO o b) hb rfl, hwf, fun x hx => ?_⟩
   obtain ⟨j, hj, e⟩ := List.getElem_of_mem hx
   by_cases ejk : j = k
   · subst ejk
     refine ⟨moveO o b, List.mem_of_getElem? hset, ?_⟩
     rw [List.getElem?_eq_getElem hj, e] at hb
     cases hb
     exact ⟨rfl, rfl⟩
   · refine ⟨x, List.mem_of_getElem? (i := j) ?_, rfl, rfl⟩
     rw [List.getElem?_set_ne (Ne.symm ejk), List.getElem?_eq_getElem hj, e]
 clear h hF hm hset hfs hq' hpf hinv hback hhas hpb hpbne hq hb hwf
 go_enter Tryz.func110, Tryz.ntmps110
 go_wp2_with fail
 refine mvun_r0 (by kernel_rfl) mv gt mb (bl (o.ot, o.on)) o.ot o.on (.pointer (some ⟨bl (b.pt, b.pn), 0, none⟩)) b.nm (fun W => ∃ kv', ObjsM (growF (exF F mb) w.drew W) W U bl kv' dr (placeT T) (placeT T) ∧ Only (exF F mb) w.drew W) _ rfl rfl m0 m1 m2 m6 m7 hg hlk hput ?_
 rintro _ W1 ⟨kv', hO1, hOn1⟩
 have hOn1' : Only (exF F mb) w W1 := of_drew_only hOn1
 have hm1 : MvAt W1 mv gt o (.pointer (some ⟨bl (b.pt, b.pn), 0, none⟩)) b.nm := (hOn1'.block _ (block_lt HH.out.2.2.1) (fun e => hmF e.1)).trans HH.out.2.2.1
 have n6 : W1.cell? ⟨mv, 6, none⟩ = some (.pointer (some ⟨bl (b.pt, b.pn), 0, none⟩)) := cellOf hm1 6
 have n7 : W1.cell? ⟨mv, 7, none⟩ = some (.string b.nm) := cellOf hm1 7
 have f6 : W1.frozen? ⟨mv, 6, none⟩ = false := frozenOf hm1 6
 have f7 : W1.frozen? ⟨mv, 7, none⟩ = false := frozenOf hm1 7
 have HR : Hid ((∃ kv', TreeM (growF F w ((W1.setCell ⟨mv, 6, none⟩ (.pointer none)).setCell ⟨mv, 7, none⟩ (.string ⟨#[]⟩))) ((W1.setCell ⟨mv, 6, none⟩ (.pointer none)).setCell ⟨mv, 7, none⟩ (.string ⟨#[]⟩)) mb B U bl kv' dr T) ∧ Only (fun b => F b ∨ b = mv) w ((W1.setCell ⟨mv, 6, none⟩ (.pointer none)).setCell ⟨mv, 7, none⟩ (.string ⟨#[]⟩)) ∧ MvAt ((W1.setCell ⟨mv, 6, none⟩ (.pointer none)).setCell ⟨mv, 7, none⟩ (.string ⟨#[]⟩)) mv gt o (.pointer none) ⟨#[]⟩) := by
   obtain ⟨h, hF, hm, hmap, hwf, hdd⟩ := HH.out
   have ho2 : Only (· = mv) W1 ((W1.setCell ⟨mv, 6, none⟩ (.pointer none)).setCell ⟨mv, 7, none⟩ (.string ⟨#[]⟩)) := two_only _ _ _ _ _ _
   have hmb := h.map.lt
   have hs1 := hOn1'.size
   have hmv := block_lt hm
   have he : entsT B bl T = entsT B bl (T.set k (moveO o b)) := by unfold entsT; rw [hmap]
   refine ⟨⟨kv', ⟨?_, ?_, .inl h.fmb, h.bb, h.rt, fun x hx => ?_, ⟨h.drs.1, h.drs.2.1, fun x hx => ?_⟩, hwf⟩⟩, ?_, hm1.set _ _⟩
   · refine (hO1.kept ho2 (fun x hx e => ?_)).mono fun x hx => ?_
     · rcases hx with hx | hx
       · exact hmF (by rw [← e]; exact hx.1)
       · have : w.heap.size ≤ x := hx.1
         omega
     · rcases hx with hx | hx
       · exact ⟨.inl hx.1, hx.2⟩
       · have : w.heap.size ≤ x := hx.1
         exact ⟨.inr ⟨hx.1, by simpa using hx.2⟩, by omega⟩
   · rw [he]
     exact (h.map.kept hOn1' (fun e => e.2 rfl)).kept ho2 (fun e => hmF (by rw [← e]; exact h.fmb))
   · obtain ⟨y, hy, e1, _⟩ := hdd x hx
     rw [← e1]; exact h.ids y hy
   · obtain ⟨y, hy, e1, e2⟩ := hdd x hx
     rw [← e1, ← e2]; exact h.drs.2.2 y hy
   · exact (only_sub hOn1' fun b hb => .inl hb.1).next (only_sub ho2 fun b hb => .inr hb)
 clear hO1 hOn1 hOn1' hm1 hput hlk m0 m1 m2 m6 m7 hg
 simp only [putAll, sA, sB, sC]
 go_wp2_with fail
 go_end0
 exact ⟨rfl, HR.out⟩
end Go.Proofs.YthhakekbffembaaGreatDoor.Ck.Y

namespace Go.Proofs.YthhakekbffembaaGreatDoor.Ck.Y
open Go.RowKit Go.Maps Go.Lib
def mkK (o : OG) : Bool := decide (o.kd = 1) || decide (o.kd = 2)
def doF (o : OG) (x : Nat) : Value := if mkK o = true then .func (.func 107) #[.pointer (some ⟨x, 0, none⟩)] #[] else if o.kd = 3 then .func (.func 109) #[.pointer (some ⟨x, 0, none⟩)] #[] else .func (.func 111) #[.agg #[]] #[]
def unF (o : OG) (x : Nat) : Value := if mkK o = true then .func (.func 108) #[.pointer (some ⟨x, 0, none⟩)] #[] else if o.kd = 3 then .func (.func 110) #[.pointer (some ⟨x, 0, none⟩)] #[] else .func (.func 112) #[.agg #[]] #[]
structure StAt (w : World) (gt : Nat) (bl : PI → Nat) (o : OG) (sb x : Nat) (did : Bool) (fu : Value) (fn : ByteArray) : Prop where
 blk : w.heap[sb]? = some (.cells #[.int .i64 o.t, .int .i64 o.n, doF o x, unF o x, .bool did] 152 (0, 0))
 mkat : mkK o = true → MkAt w x gt bl o
 mvat : o.kd = 3 → MvAt w x gt o fu fn
def newC (o : OG) : Array Value := #[.pointer none, .string ⟨#[]⟩, .int .i64 o.ot, .int .i64 o.on, .bool (decide (o.kd = 1)), .slice none 0 0]
structure Made (w w' : World) (gt : Nat) (o : OG) (sb x ob : Nat) : Prop where
 bel : Below w.heap.size w w'
 hsb : w.heap.size ≤ sb
 hx : w.heap.size ≤ x
 hob : w.heap.size ≤ ob
 xl : x < w'.heap.size
 obj : mkK o = true → w'.heap[ob]? = some (.cells (newC o) 131 (0, 0))
 st : ∀ bl : PI → Nat, (mkK o = true → bl (o.ot, o.on) = ob) → StAt w' gt bl o sb x false (.pointer none) ⟨#[]⟩
set_option maxRecDepth 8000 in
set_option maxHeartbeats 4000000 in
theorem stepOf_1 (gt : Nat) (t n sq ot on pt pn : Int) (nm : ByteArray) (dp sp : Option Addr) (dl dc sl sc : Nat) (w : World) (hn : nm.size ≤ 1000000) :
   Calls Tryz.prog 72 #[.pointer (some ⟨gt, 0, none⟩), .agg #[.int .i64 t, .int .i64 n, .int .i64 sq, .int .i64 1, .int .i64 ot, .int .i64 on, .int .i64 pt, .int .i64 pn, .string nm, .slice dp dl dc, .slice sp sl sc]] w fun e w' => ∃ sb x ob, e = .returned (.pointer (some ⟨sb, 0, none⟩)) ∧ Made w w' gt ⟨t, n, sq, 1, ot, on, pt, pn, nm, dp, dl, dc, sp, sl, sc⟩ sb x ob := by
 have hcl := fun W => sclone_any nm W hn
 obtain ⟨w0, hw0⟩ : ∃ w0, w0 = w.alloc (.cells #[.int .i64 t, .int .i64 n, .int .i64 sq, .int .i64 1, .int .i64 ot, .int .i64 on, .int .i64 pt, .int .i64 pn, .string nm, .slice dp dl dc, .slice sp sl sc] 33) := ⟨_, rfl⟩
 have HB0 : Hid (Below w.heap.size w w0) := by rw [hw0]; exact (Below.refl w.heap.size w).alloc (Nat.le_refl _) _
 have HX : Hid (w0.heap[w.heap.size]? = some (.cells #[.int .i64 t, .int .i64 n, .int .i64 sq, .int .i64 1, .int .i64 ot, .int .i64 on, .int .i64 pt, .int .i64 pn, .string nm, .slice dp dl dc, .slice sp sl sc] 33 (0, 0))) := by rw [hw0]; exact heap_alloc_new w _
 have HW : Hid (w0 = w.alloc (.cells #[.int .i64 t, .int .i64 n, .int .i64 sq, .int .i64 1, .int .i64 ot, .int .i64 on, .int .i64 pt, .int .i64 pn, .string nm, .slice dp dl dc, .slice sp sl sc] 33)) := hw0
 clear hw0 hn
 go_enter Tryz.func72, Tryz.ntmps72
 go_wp2_with (go_at_call 106; rw [← HW.out]; refine (hcl w0).mono ?_; rintro e W1 ⟨rfl, hb1⟩; have HB1 : Hid (Below w.heap.size w W1) := HB0.out.trans (hb1.mono HB0.out.size); have hx1 : W1.heap[w.heap.size]? = _ := (hb1.block _ (block_lt HX.out)).trans HX.out; have x0 : W1.cell? ⟨w.heap.size, 0, none⟩ = some (.int .i64 t) := cellOf hx1 0; have x1 : W1.cell? ⟨w.heap.size, 1, none⟩ = some (.int .i64 n) := cellOf hx1 1; have x3 : W1.cell? ⟨w.heap.size, 3, none⟩ = some (.int .i64 1) := cellOf hx1 3; have x4 : W1.cell? ⟨w.heap.size, 4, none⟩ = some (.int .i64 ot) := cellOf hx1 4; have x5 : W1.cell? ⟨w.heap.size, 5, none⟩ = some (.int .i64 on) := cellOf hx1 5; have x6 : W1.cell? ⟨w.heap.size, 6, none⟩ = some (.int .i64 pt) := cellOf hx1 6; have x7 : W1.cell? ⟨w.heap.size, 7, none⟩ = some (.int .i64 pn) := cellOf hx1 7; have hlt : w.heap.size < W1.heap.size := block_lt hx1; clear hx1 hb1 hcl)
 go_ret
 have s1 := HB1.out.size
 refine ⟨W1.heap.size + 2, W1.heap.size + 1, W1.heap.size, ?_, ⟨?_, by omega, by omega, by omega, by simp <;> omega, fun _ => ?_, fun bl hbl => ⟨?_, fun _ => ?_, fun h => ?_⟩⟩⟩
 · simp
 · exact ((HB1.out.alloc HB1.out.size _).alloc (by simp; omega) _).alloc (by simp; omega) _
 · rw [heap_alloc_old _ _ (by simp; omega), heap_alloc_old _ _ (by simp)]; exact heap_alloc_new W1 _
 · have := heap_alloc_new ((W1.alloc (.cells #[.pointer none, .string ⟨#[]⟩, .int .i64 ot, .int .i64 on, .bool true, .slice none 0 0] 131)).alloc (.cells #[.pointer (some ⟨gt, 0, none⟩), .pointer (some ⟨W1.heap.size, 0, none⟩), .int .i64 pt, .int .i64 pn, .string nm] 158)) (.cells #[.int .i64 t, .int .i64 n, .func (.func 107) #[.pointer (some ⟨W1.heap.size + 1, 0, none⟩)] #[], .func (.func 108) #[.pointer (some ⟨W1.heap.size + 1, 0, none⟩)] #[], .bool false] 152)
   simpa [doF, unF, mkK] using this
 · have e := hbl (by simp [mkK])
   have := heap_alloc_new (W1.alloc (.cells #[.pointer none, .string ⟨#[]⟩, .int .i64 ot, .int .i64 on, .bool true, .slice none 0 0] 131)) (.cells #[.pointer (some ⟨gt, 0, none⟩), .pointer (some ⟨W1.heap.size, 0, none⟩), .int .i64 pt, .int .i64 pn, .string nm] 158)
   unfold MkAt
   rw [heap_alloc_old _ _ (by simp), e]
   simpa using this
 · exact absurd h (by simp)
set_option maxRecDepth 8000 in
set_option maxHeartbeats 4000000 in
theorem stepOf_2 (gt : Nat) (t n sq ot on pt pn : Int) (nm : ByteArray) (dp sp : Option Addr) (dl dc sl sc : Nat) (w : World) (hn : nm.size ≤ 1000000) :
   Calls Tryz.prog 72 #[.pointer (some ⟨gt, 0, none⟩), .agg #[.int .i64 t, .int .i64 n, .int .i64 sq, .int .i64 2, .int .i64 ot, .int .i64 on, .int .i64 pt, .int .i64 pn, .string nm, .slice dp dl dc, .slice sp sl sc]] w fun e w' => ∃ sb x ob, e = .returned (.pointer (some ⟨sb, 0, none⟩)) ∧ Made w w' gt ⟨t, n, sq, 2, ot, on, pt, pn, nm, dp, dl, dc, sp, sl, sc⟩ sb x ob := by
 have hcl := fun W => sclone_any nm W hn
 obtain ⟨w0, hw0⟩ : ∃ w0, w0 = w.alloc (.cells #[.int .i64 t, .int .i64 n, .int .i64 sq, .int .i64 2, .int .i64 ot, .int .i64 on, .int .i64 pt, .int .i64 pn, .string nm, .slice dp dl dc, .slice sp sl sc] 33) := ⟨_, rfl⟩
 have HB0 : Hid (Below w.heap.size w w0) := by rw [hw0]; exact (Below.refl w.heap.size w).alloc (Nat.le_refl _) _
 have HX : Hid (w0.heap[w.heap.size]? = some (.cells #[.int .i64 t, .int .i64 n, .int .i64 sq, .int .i64 2, .int .i64 ot, .int .i64 on, .int .i64 pt, .int .i64 pn, .string nm, .slice dp dl dc, .slice sp sl sc] 33 (0, 0))) := by rw [hw0]; exact heap_alloc_new w _
 have HW : Hid (w0 = w.alloc (.cells #[.int .i64 t, .int .i64 n, .int .i64 sq, .int .i64 2, .int .i64 ot, .int .i64 on, .int .i64 pt, .int .i64 pn, .string nm, .slice dp dl dc, .slice sp sl sc] 33)) := hw0
 clear hw0 hn
 go_enter Tryz.func72, Tryz.ntmps72
 go_wp2_with (go_at_call 106; rw [← HW.out]; refine (hcl w0).mono ?_; rintro e W1 ⟨rfl, hb1⟩; have HB1 : Hid (Below w.heap.size w W1) := HB0.out.trans (hb1.mono HB0.out.size); have hx1 : W1.heap[w.heap.size]? = _ := (hb1.block _ (block_lt HX.out)).trans HX.out; have x0 : W1.cell? ⟨w.heap.size, 0, none⟩ = some (.int .i64 t) := cellOf hx1 0; have x1 : W1.cell? ⟨w.heap.size, 1, none⟩ = some (.int .i64 n) := cellOf hx1 1; have x3 : W1.cell? ⟨w.heap.size, 3, none⟩ = some (.int .i64 2) := cellOf hx1 3; have x4 : W1.cell? ⟨w.heap.size, 4, none⟩ = some (.int .i64 ot) := cellOf hx1 4; have x5 : W1.cell? ⟨w.heap.size, 5, none⟩ = some (.int .i64 on) := cellOf hx1 5; have x6 : W1.cell? ⟨w.heap.size, 6, none⟩ = some (.int .i64 pt) := cellOf hx1 6; have x7 : W1.cell? ⟨w.heap.size, 7, none⟩ = some (.int .i64 pn) := cellOf hx1 7; have hlt : w.heap.size < W1.heap.size := block_lt hx1; clear hx1 hb1 hcl)
 go_ret
 have s1 := HB1.out.size
 refine ⟨W1.heap.size + 2, W1.heap.size + 1, W1.heap.size, ?_, ⟨?_, by omega, by omega, by omega, by simp <;> omega, fun _ => ?_, fun bl hbl => ⟨?_, fun _ => ?_, fun h => ?_⟩⟩⟩
 · simp
 · exact ((HB1.out.alloc HB1.out.size _).alloc (by simp; omega) _).alloc (by simp; omega) _
 · rw [heap_alloc_old _ _ (by simp; omega), heap_alloc_old _ _ (by simp)]; exact heap_alloc_new W1 _
 · have := heap_alloc_new ((W1.alloc (.cells #[.pointer none, .string ⟨#[]⟩, .int .i64 ot, .int .i64 on, .bool false, .slice none 0 0] 131)).alloc (.cells #[.pointer (some ⟨gt, 0, none⟩), .pointer (some ⟨W1.heap.size, 0, none⟩), .int .i64 pt, .int .i64 pn, .string nm] 158)) (.cells #[.int .i64 t, .int .i64 n, .func (.func 107) #[.pointer (some ⟨W1.heap.size + 1, 0, none⟩)] #[], .func (.func 108) #[.pointer (some ⟨W1.heap.size + 1, 0, none⟩)] #[], .bool false] 152)
   simpa [doF, unF, mkK] using this
 · have e := hbl (by simp [mkK])
   have := heap_alloc_new (W1.alloc (.cells #[.pointer none, .string ⟨#[]⟩, .int .i64 ot, .int .i64 on, .bool false, .slice none 0 0] 131)) (.cells #[.pointer (some ⟨gt, 0, none⟩), .pointer (some ⟨W1.heap.size, 0, none⟩), .int .i64 pt, .int .i64 pn, .string nm] 158)
   unfold MkAt
   rw [heap_alloc_old _ _ (by simp), e]
   simpa using this
 · exact absurd h (by simp)
set_option maxRecDepth 8000 in
set_option maxHeartbeats 4000000 in
theorem stepOf_3 (gt : Nat) (t n sq ot on pt pn : Int) (nm : ByteArray) (dp sp : Option Addr) (dl dc sl sc : Nat) (w : World) (hn : nm.size ≤ 1000000) :
   Calls Tryz.prog 72 #[.pointer (some ⟨gt, 0, none⟩), .agg #[.int .i64 t, .int .i64 n, .int .i64 sq, .int .i64 3, .int .i64 ot, .int .i64 on, .int .i64 pt, .int .i64 pn, .string nm, .slice dp dl dc, .slice sp sl sc]] w fun e w' => ∃ sb x ob, e = .returned (.pointer (some ⟨sb, 0, none⟩)) ∧ Made w w' gt ⟨t, n, sq, 3, ot, on, pt, pn, nm, dp, dl, dc, sp, sl, sc⟩ sb x ob := by
 have hcl := fun W => sclone_any nm W hn
 obtain ⟨w0, hw0⟩ : ∃ w0, w0 = w.alloc (.cells #[.int .i64 t, .int .i64 n, .int .i64 sq, .int .i64 3, .int .i64 ot, .int .i64 on, .int .i64 pt, .int .i64 pn, .string nm, .slice dp dl dc, .slice sp sl sc] 33) := ⟨_, rfl⟩
 have HB0 : Hid (Below w.heap.size w w0) := by rw [hw0]; exact (Below.refl w.heap.size w).alloc (Nat.le_refl _) _
 have HX : Hid (w0.heap[w.heap.size]? = some (.cells #[.int .i64 t, .int .i64 n, .int .i64 sq, .int .i64 3, .int .i64 ot, .int .i64 on, .int .i64 pt, .int .i64 pn, .string nm, .slice dp dl dc, .slice sp sl sc] 33 (0, 0))) := by rw [hw0]; exact heap_alloc_new w _
 have HW : Hid (w0 = w.alloc (.cells #[.int .i64 t, .int .i64 n, .int .i64 sq, .int .i64 3, .int .i64 ot, .int .i64 on, .int .i64 pt, .int .i64 pn, .string nm, .slice dp dl dc, .slice sp sl sc] 33)) := hw0
 clear hw0 hn
 go_enter Tryz.func72, Tryz.ntmps72
 go_wp2_with (go_at_call 106; rw [← HW.out]; refine (hcl w0).mono ?_; rintro e W1 ⟨rfl, hb1⟩; have HB1 : Hid (Below w.heap.size w W1) := HB0.out.trans (hb1.mono HB0.out.size); have hx1 : W1.heap[w.heap.size]? = _ := (hb1.block _ (block_lt HX.out)).trans HX.out; have x0 : W1.cell? ⟨w.heap.size, 0, none⟩ = some (.int .i64 t) := cellOf hx1 0; have x1 : W1.cell? ⟨w.heap.size, 1, none⟩ = some (.int .i64 n) := cellOf hx1 1; have x3 : W1.cell? ⟨w.heap.size, 3, none⟩ = some (.int .i64 3) := cellOf hx1 3; have x4 : W1.cell? ⟨w.heap.size, 4, none⟩ = some (.int .i64 ot) := cellOf hx1 4; have x5 : W1.cell? ⟨w.heap.size, 5, none⟩ = some (.int .i64 on) := cellOf hx1 5; have x6 : W1.cell? ⟨w.heap.size, 6, none⟩ = some (.int .i64 pt) := cellOf hx1 6; have x7 : W1.cell? ⟨w.heap.size, 7, none⟩ = some (.int .i64 pn) := cellOf hx1 7; have hlt : w.heap.size < W1.heap.size := block_lt hx1; clear hx1 hb1 hcl)
 go_ret
 have s1 := HB1.out.size
 refine ⟨W1.heap.size + 1, W1.heap.size, W1.heap.size, ?_, ⟨?_, by omega, by omega, by omega, by simp <;> omega, fun h => ?_, fun bl hbl => ⟨?_, fun h => ?_, fun _ => ?_⟩⟩⟩
 · simp
 · exact (HB1.out.alloc HB1.out.size _).alloc (by simp; omega) _
 · simp [mkK] at h
 · have := heap_alloc_new (W1.alloc (.cells #[.pointer (some ⟨gt, 0, none⟩), .int .i64 ot, .int .i64 on, .int .i64 pt, .int .i64 pn, .string nm, .pointer none, .string ⟨#[]⟩] 161)) (.cells #[.int .i64 t, .int .i64 n, .func (.func 109) #[.pointer (some ⟨W1.heap.size, 0, none⟩)] #[], .func (.func 110) #[.pointer (some ⟨W1.heap.size, 0, none⟩)] #[], .bool false] 152)
   simpa [doF, unF, mkK] using this
 · simp [mkK] at h
 · unfold MvAt
   rw [heap_alloc_old _ _ (by simp)]; exact heap_alloc_new W1 _
set_option maxRecDepth 8000 in
set_option maxHeartbeats 4000000 in
theorem stepOf_o (gt : Nat) (t n sq ot on pt pn : Int) (nm : ByteArray) (dp sp : Option Addr) (dl dc sl sc : Nat) (kd : Int) (k1 : ¬ kd = 1) (k2 : ¬ kd = 2) (k3 : ¬ kd = 3) (w : World) (hn : nm.size ≤ 1000000) :
   Calls Tryz.prog 72 #[.pointer (some ⟨gt, 0, none⟩), .agg #[.int .i64 t, .int .i64 n, .int .i64 sq, .int .i64 kd, .int .i64 ot, .int .i64 on, .int .i64 pt, .int .i64 pn, .string nm, .slice dp dl dc, .slice sp sl sc]] w fun e w' => ∃ sb x ob, e = .returned (.pointer (some ⟨sb, 0, none⟩)) ∧ Made w w' gt ⟨t, n, sq, kd, ot, on, pt, pn, nm, dp, dl, dc, sp, sl, sc⟩ sb x ob := by
 have hcl := fun W => sclone_any nm W hn
 obtain ⟨w0, hw0⟩ : ∃ w0, w0 = w.alloc (.cells #[.int .i64 t, .int .i64 n, .int .i64 sq, .int .i64 kd, .int .i64 ot, .int .i64 on, .int .i64 pt, .int .i64 pn, .string nm, .slice dp dl dc, .slice sp sl sc] 33) := ⟨_, rfl⟩
 have HB0 : Hid (Below w.heap.size w w0) := by rw [hw0]; exact (Below.refl w.heap.size w).alloc (Nat.le_refl _) _
 have HX : Hid (w0.heap[w.heap.size]? = some (.cells #[.int .i64 t, .int .i64 n, .int .i64 sq, .int .i64 kd, .int .i64 ot, .int .i64 on, .int .i64 pt, .int .i64 pn, .string nm, .slice dp dl dc, .slice sp sl sc] 33 (0, 0))) := by rw [hw0]; exact heap_alloc_new w _
 have HW : Hid (w0 = w.alloc (.cells #[.int .i64 t, .int .i64 n, .int .i64 sq, .int .i64 kd, .int .i64 ot, .int .i64 on, .int .i64 pt, .int .i64 pn, .string nm, .slice dp dl dc, .slice sp sl sc] 33)) := hw0
 clear hw0 hn
 go_enter Tryz.func72, Tryz.ntmps72
 go_wp2_with (go_at_call 106; rw [← HW.out]; refine (hcl w0).mono ?_; rintro e W1 ⟨rfl, hb1⟩; have HB1 : Hid (Below w.heap.size w W1) := HB0.out.trans (hb1.mono HB0.out.size); have hx1 : W1.heap[w.heap.size]? = _ := (hb1.block _ (block_lt HX.out)).trans HX.out; have x0 : W1.cell? ⟨w.heap.size, 0, none⟩ = some (.int .i64 t) := cellOf hx1 0; have x1 : W1.cell? ⟨w.heap.size, 1, none⟩ = some (.int .i64 n) := cellOf hx1 1; have x3 : W1.cell? ⟨w.heap.size, 3, none⟩ = some (.int .i64 kd) := cellOf hx1 3; have x4 : W1.cell? ⟨w.heap.size, 4, none⟩ = some (.int .i64 ot) := cellOf hx1 4; have x5 : W1.cell? ⟨w.heap.size, 5, none⟩ = some (.int .i64 on) := cellOf hx1 5; have x6 : W1.cell? ⟨w.heap.size, 6, none⟩ = some (.int .i64 pt) := cellOf hx1 6; have x7 : W1.cell? ⟨w.heap.size, 7, none⟩ = some (.int .i64 pn) := cellOf hx1 7; have hlt : w.heap.size < W1.heap.size := block_lt hx1; clear hx1 hb1 hcl)
 go_ret
 have s1 := HB1.out.size
 have km : mkK ⟨t, n, sq, kd, ot, on, pt, pn, nm, dp, dl, dc, sp, sl, sc⟩ = false := by simp [mkK, k1, k2]
 refine ⟨W1.heap.size + 1, W1.heap.size, W1.heap.size, ?_, ⟨?_, by omega, by omega, by omega, by simp <;> omega, fun h => ?_, fun bl hbl => ⟨?_, fun h => ?_, fun h => absurd h k3⟩⟩⟩
 · simp
 · exact (HB1.out.alloc HB1.out.size _).alloc (by simp; omega) _
 · rw [km] at h; cases h
 · have := heap_alloc_new (W1.alloc (.cells #[] 163)) (.cells #[.int .i64 t, .int .i64 n, .func (.func 111) #[.agg #[]] #[], .func (.func 112) #[.agg #[]] #[], .bool false] 152)
   unfold doF unF
   rw [km]
   simpa [k3] using this
 · rw [km] at h; cases h
theorem stepOf_any (gt : Nat) (o : OG) (w : World) (hn : o.nm.size ≤ 1000000) :
   Calls Tryz.prog 72 #[.pointer (some ⟨gt, 0, none⟩), opgv o] w fun e w' => ∃ sb x ob, e = .returned (.pointer (some ⟨sb, 0, none⟩)) ∧ Made w w' gt o sb x ob := by
 obtain ⟨t, n, sq, kd, ot, on, pt, pn, nm, dp, dl, dc, sp, sl, sc⟩ := o
 by_cases k1 : kd = 1
 · subst k1; exact stepOf_1 gt t n sq ot on pt pn nm dp sp dl dc sl sc w hn
 · by_cases k2 : kd = 2
   · subst k2; exact stepOf_2 gt t n sq ot on pt pn nm dp sp dl dc sl sc w hn
   · by_cases k3 : kd = 3
     · subst k3; exact stepOf_3 gt t n sq ot on pt pn nm dp sp dl dc sl sc w hn
     · exact stepOf_o gt t n sq ot on pt pn nm dp sp dl dc sl sc kd k1 k2 k3 w hn
def UndoR (bl : PI → Nat) (U : List PI) (o : OG) (T T' : List OB) (r : Bool) (fu : Value) (fn : ByteArray) : Prop :=
 (∀ s, StepT T s o T' (if r = true then s else s + 1)) ∧ (o.kd = 3 → r = true → ∃ k b, findT T o.ot o.on = some k ∧ T[k]? = some b ∧ T' = T.set k (moveO o b) ∧ fu = .pointer (some ⟨bl (b.pt, b.pn), 0, none⟩) ∧ fn = b.nm ∧ (b.pt, b.pn) ∈ U)
structure OpOk (T : List OB) (U : List PI) (dr : PI → Bool) (o : OG) : Prop where
 h0 : ¬ o.ot = 0
 mak : mkK o = true → dr (o.ot, o.on) = decide (o.kd = 1) ∧ (o.ot, o.on) ∈ U ∧ findT T o.ot o.on = none ∧ trashB o.pt o.pn = false
theorem mkK_iff {o : OG} : mkK o = true ↔ o.kd = 1 ∨ o.kd = 2 := by simp [mkK]
theorem wrdo_any (w : World) : Calls Tryz.prog 111 #[.agg #[]] w fun e w' => e = .returned (.bool true) ∧ Below w.heap.size w w' := by
 go_enter Tryz.func111, Tryz.ntmps111
 go_wp2
 go_ret
 exact ⟨rfl, (Below.refl w.heap.size w).alloc (Nat.le_refl _) _⟩
theorem wrun_any (w : World) : Calls Tryz.prog 112 #[.agg #[]] w fun e w' => e = .returned (.tuple #[]) ∧ Below w.heap.size w w' := by
 go_enter Tryz.func112, Tryz.ntmps112
 go_wp2
 go_end0
 exact ⟨rfl, (Below.refl w.heap.size w).alloc (Nat.le_refl _) _⟩
structure Ran (F : Nat → Prop) (mb : Nat) (B U : List PI) (bl : PI → Nat) (dr : PI → Bool) (T : List OB) (o : OG) (gt sb x : Nat) (w w' : World) (r : Bool) : Prop where
 out : ∃ T' fu fn, UndoR bl U o T T' r fu fn ∧ (∃ kv', TreeM (growF F w w') w' mb B U bl kv' dr T') ∧ StAt w' gt bl o sb x r fu fn
 only : Only (fun b => F b ∨ b = sb ∨ (b = x ∧ o.kd = 3)) w w'
section
variable {F : Nat → Prop} {w w1 : World} {mb : Nat} {B U : List PI} {bl : PI → Nat} {kv : PI → Value} {dr : PI → Bool} {T T' : List OB} {gt sb x : Nat} {o : OG} {did : Bool} {fu fu' : Value} {fn fn' : ByteArray}
theorem Ran.flag (r : Bool) (hsF : ¬ F sb) (hsb : sb < w.heap.size) (hu : UndoR bl U o T T' r fu' fn') (ht : ∃ kv', TreeM (growF F w w1) w1 mb B U bl kv' dr T') (hs : StAt w1 gt bl o sb x did fu' fn') (ho : Only (fun b => F b ∨ b = x ∧ o.kd = 3) w w1) : Ran F mb B U bl dr T o gt sb x w (w1.setCell ⟨sb, 4, none⟩ (.bool r)) r := by
 have ho2 : Only (· = sb) w1 (w1.setCell ⟨sb, 4, none⟩ (.bool r)) := Only.setCell (S := (· = sb)) w1 ⟨sb, 4, none⟩ _ rfl
 obtain ⟨kv', ht⟩ := ht
 refine ⟨⟨T', fu', fn', hu, ⟨kv', ?_⟩, ⟨heap_set_same (k := 4) hs.blk (.bool r), fun h => ?_, fun h => ?_⟩⟩, (only_sub ho fun b hb => hb.elim .inl fun h => .inr (.inr h)).next (only_sub ho2 fun b hb => .inr (.inl hb))⟩
 · refine (ht.kept ho2 fun b hb e => ?_).mono fun b hb => ?_
   · rw [e] at hb
     rcases hb with hb | hb
     · exact hsF hb
     · omega
   · rcases hb with hb | hb
     · exact .inl hb
     · exact .inr ⟨hb.1, by simpa using hb.2⟩
 · have := hs.mkat h
   exact (ho2.block _ (block_lt this) (apart_tags this hs.blk (by decide))).trans this
 · have := hs.mvat h
   exact (ho2.block _ (block_lt this) (apart_tags this hs.blk (by decide))).trans this
set_option maxRecDepth 8000 in
set_option maxHeartbeats 4000000 in
theorem run_mk (h : TreeM F w mb B U bl kv dr T) (hF : ∀ b, F b → b < w.heap.size) (hg : w.cell? ⟨gt, 0, none⟩ = some (.map (some mb))) (hs : StAt w gt bl o sb x did fu fn) (hsF : ¬ F sb) (hxF : ¬ F x) (ok : OpOk T U dr o) (km : mkK o = true) : Calls Tryz.prog 159 #[.pointer (some ⟨sb, 0, none⟩)] w fun e w' => ∃ r, e = .returned (.bool r) ∧ Ran F mb B U bl dr T o gt sb x w w' r := by
 have hsb := block_lt hs.blk
 have hd : doF o x = .func (.func 107) #[.pointer (some ⟨x, 0, none⟩)] #[] := by unfold doF; rw [if_pos km]
 have hkk := mkK_iff.1 km
 have hcall : Calls Tryz.prog 107 #[.pointer (some ⟨x, 0, none⟩)] w fun e w1 => ∃ r, e = .returned (.bool r) ∧ w1.cell? ⟨sb, 4, none⟩ = some (.bool did) ∧ w1.frozen? ⟨sb, 4, none⟩ = false ∧ Hid (Ran F mb B U bl dr T o gt sb x w (w1.setCell ⟨sb, 4, none⟩ (.bool r)) r) := by
   refine (mkdo_any h hF gt x o hg (hs.mkat km) hxF hkk (ok.mak km).1 (ok.mak km).2.1 (ok.mak km).2.2.1 ok.h0 (ok.mak km).2.2.2).mono ?_
   rintro e w1 ⟨r, T', rfl, h1, h2, h3⟩
   have hb1 := (h3.block _ hsb hsF).trans hs.blk
   have hx1 : MkAt w1 x gt bl o := (h3.block _ (block_lt (hs.mkat km)) hxF).trans (hs.mkat km)
   exact ⟨r, rfl, cellOf hb1 4, frozenOf hb1 4, Ran.flag (did := did) (fu' := .pointer none) (fn' := ⟨#[]⟩) r hsF hsb ⟨h1, fun e => absurd e (by omega)⟩ h2 ⟨hb1, fun _ => hx1, fun e => absurd e (by omega)⟩ (only_sub h3 fun b hb => .inl hb)⟩
 have c2 : w.cell? ⟨sb, 2, none⟩ = some (doF o x) := cellOf hs.blk 2
 rw [hd] at c2
 clear hs hd hF h hg
 go_enter Tryz.func159, Tryz.ntmps159
 go_wp2_with (go_at_call 107; refine hcall.mono ?_; rintro e w1 ⟨r, rfl, c4, f4, HR⟩; clear hcall)
 go_ret
 exact ⟨r, rfl, HR.out⟩
set_option maxRecDepth 8000 in
set_option maxHeartbeats 4000000 in
theorem run_mv (h : TreeM F w mb B U bl kv dr T) (hF : ∀ b, F b → b < w.heap.size) (hg : w.cell? ⟨gt, 0, none⟩ = some (.map (some mb))) (hs : StAt w gt bl o sb x did fu fn) (hsF : ¬ F sb) (hxF : ¬ F x) (ok : OpOk T U dr o) (km : o.kd = 3) : Calls Tryz.prog 159 #[.pointer (some ⟨sb, 0, none⟩)] w fun e w' => ∃ r, e = .returned (.bool r) ∧ Ran F mb B U bl dr T o gt sb x w w' r := by
 have hsb := block_lt hs.blk
 have kn : mkK o = false := by simp [mkK, km]
 have hd : doF o x = .func (.func 109) #[.pointer (some ⟨x, 0, none⟩)] #[] := by unfold doF; rw [if_neg (by rw [kn]; decide), if_pos km]
 have hcall : Calls Tryz.prog 109 #[.pointer (some ⟨x, 0, none⟩)] w fun e w1 => ∃ r, e = .returned (.bool r) ∧ w1.cell? ⟨sb, 4, none⟩ = some (.bool did) ∧ w1.frozen? ⟨sb, 4, none⟩ = false ∧ Hid (Ran F mb B U bl dr T o gt sb x w (w1.setCell ⟨sb, 4, none⟩ (.bool r)) r) := by
   refine (mvdo_any h hF gt x o fu fn hg (hs.mvat km) hxF km ok.h0).mono ?_
   rintro e w1 ⟨r, T', rfl, hM⟩
   have hxs : sb ≠ x := apart_tags hs.blk (hs.mvat km) (by decide)
   have hb1 := (hM.only.block _ hsb (fun e => e.elim hsF hxs)).trans hs.blk
   have ho : Only (fun b => F b ∨ b = x ∧ o.kd = 3) w w1 := only_sub hM.only fun b hb => hb.imp id fun e => ⟨e, km⟩
   refine ⟨r, rfl, cellOf hb1 4, frozenOf hb1 4, ?_⟩
   cases r with
   | false => exact Ran.flag (did := did) (fu' := fu) (fn' := fn) false hsF hsb ⟨hM.step, fun _ e => by cases e⟩ hM.tree ⟨hb1, fun e => absurd e (by rw [kn]; decide), fun _ => hM.no rfl⟩ ho
   | true =>
     obtain ⟨k, b, e1, e2, e3, e4⟩ := hM.yes rfl
     exact Ran.flag (did := did) (fu' := .pointer (some ⟨bl (b.pt, b.pn), 0, none⟩)) (fn' := b.nm) true hsF hsb ⟨hM.step, fun _ _ => ⟨k, b, e1, e2, e3, rfl, rfl, h.par (o.ot, o.on) (h.inU (by unfold hasT; rw [e1]; simp)) _ _ (placeT_at (q := (o.ot, o.on)) e1 e2)⟩⟩ hM.tree ⟨hb1, fun e => absurd e (by rw [kn]; decide), fun _ => e4⟩ ho
 have c2 : w.cell? ⟨sb, 2, none⟩ = some (doF o x) := cellOf hs.blk 2
 rw [hd] at c2
 clear hs hd hF h hg
 go_enter Tryz.func159, Tryz.ntmps159
 go_wp2_with (go_at_call 109; refine hcall.mono ?_; rintro e w1 ⟨r, rfl, c4, f4, HR⟩; clear hcall)
 go_ret
 exact ⟨r, rfl, HR.out⟩
set_option maxRecDepth 8000 in
set_option maxHeartbeats 4000000 in
theorem run_wr (h : TreeM F w mb B U bl kv dr T) (hs : StAt w gt bl o sb x did fu fn) (hsF : ¬ F sb) (kn : mkK o = false) (k3 : ¬ o.kd = 3) : Calls Tryz.prog 159 #[.pointer (some ⟨sb, 0, none⟩)] w fun e w' => ∃ r, e = .returned (.bool r) ∧ Ran F mb B U bl dr T o gt sb x w w' r := by
 have hsb := block_lt hs.blk
 have hd : doF o x = .func (.func 111) #[.agg #[]] #[] := by unfold doF; rw [if_neg (by rw [kn]; decide), if_neg k3]
 have hcall : Calls Tryz.prog 111 #[.agg #[]] w fun e w1 => ∃ r, e = .returned (.bool r) ∧ w1.cell? ⟨sb, 4, none⟩ = some (.bool did) ∧ w1.frozen? ⟨sb, 4, none⟩ = false ∧ Hid (Ran F mb B U bl dr T o gt sb x w (w1.setCell ⟨sb, 4, none⟩ (.bool r)) r) := by
   refine (wrdo_any w).mono ?_
   rintro e w1 ⟨rfl, hb⟩
   have hb1 := (hb.block _ hsb).trans hs.blk
   refine ⟨true, rfl, cellOf hb1 4, frozenOf hb1 4, Ran.flag (did := did) (fu' := fu) (fn' := fn) true hsF hsb ⟨fun s => .other ?_, fun e => absurd e k3⟩ ⟨kv, (h.below hb).mono fun b hb => .inl hb⟩ ⟨hb1, fun e => absurd e (by rw [kn]; decide), fun e => absurd e k3⟩ (Below.only hb _)⟩
   rintro (e | e | e)
   · rw [mkK_iff.2 (.inl e)] at kn; cases kn
   · rw [mkK_iff.2 (.inr e)] at kn; cases kn
   · exact k3 e
 have c2 : w.cell? ⟨sb, 2, none⟩ = some (doF o x) := cellOf hs.blk 2
 rw [hd] at c2
 clear hs hd h
 go_enter Tryz.func159, Tryz.ntmps159
 go_wp2_with (go_at_call 111; refine hcall.mono ?_; rintro e w1 ⟨r, rfl, c4, f4, HR⟩; clear hcall)
 go_ret
 exact ⟨r, rfl, HR.out⟩
theorem run_any (h : TreeM F w mb B U bl kv dr T) (hF : ∀ b, F b → b < w.heap.size) (hg : w.cell? ⟨gt, 0, none⟩ = some (.map (some mb))) (hs : StAt w gt bl o sb x did fu fn) (hsF : ¬ F sb) (hxF : ¬ F x) (ok : OpOk T U dr o) : Calls Tryz.prog 159 #[.pointer (some ⟨sb, 0, none⟩)] w fun e w' => ∃ r, e = .returned (.bool r) ∧ Ran F mb B U bl dr T o gt sb x w w' r := by
 cases km : mkK o with
 | true => exact run_mk h hF hg hs hsF hxF ok km
 | false =>
   by_cases k3 : o.kd = 3
   · exact run_mv h hF hg hs hsF hxF ok k3
   · exact run_wr h hs hsF km k3
end
end Go.Proofs.YthhakekbffembaaGreatDoor.Ck.Y

namespace Go.Proofs.YthhakekbffembaaGreatDoor.Ck.Y
open Go.RowKit Go.Maps Go.Lib
structure Back (F : Nat → Prop) (mb : Nat) (B U : List PI) (bl : PI → Nat) (dr : PI → Bool) (T : List OB) (o : OG) (gt sb x : Nat) (r : Bool) (w w' : World) : Prop where
 out : ∃ fu fn, (∃ kv', TreeM (growF F w w') w' mb B U bl kv' dr T) ∧ StAt w' gt bl o sb x r fu fn
 only : Only (fun b => F b ∨ (b = x ∧ o.kd = 3)) w w'
theorem StepT.no {T T' : List OB} {s : Nat} {o : OG} (h : StepT T s o T' (s + 1)) : T' = T := by
 generalize e : s + 1 = s' at h
 cases h <;> first | rfl | omega
theorem StepT.mk_yes {T T' : List OB} {s : Nat} {o : OG} (h : StepT T s o T' s) (hk : o.kd = 1 ∨ o.kd = 2) : T' = T ++ [madeO o] ∧ findT T o.ot o.on = none := by
 generalize e : s = s' at h
 cases h with
 | make h1 h2 h3 h4 => exact ⟨rfl, h4⟩
 | move h1 => omega
 | other h1 => exact absurd (hk.elim .inl fun e => .inr (.inl e)) h1
theorem StepT.other_yes {T T' : List OB} {s : Nat} {o : OG} (h : StepT T s o T' s) (hk : ¬ (o.kd = 1 ∨ o.kd = 2)) (h3 : ¬ o.kd = 3) : T' = T := by
 generalize e : s = s' at h
 cases h with
 | make h1 => exact absurd h1 hk
 | move h1 => exact absurd h1 h3
 | other => rfl
section
variable {F : Nat → Prop} {w : World} {mb : Nat} {B U : List PI} {bl : PI → Nat} {kv : PI → Value} {dr : PI → Bool} {T T' : List OB} {gt sb x : Nat} {o : OG} {fu : Value} {fn : ByteArray}
set_option maxRecDepth 8000 in
set_option maxHeartbeats 4000000 in
theorem back_no (h : TreeM F w mb B U bl kv dr T') (hs : StAt w gt bl o sb x false fu fn) (hu : UndoR bl U o T T' false fu fn) :
   Calls Tryz.prog 103 #[.pointer (some ⟨sb, 0, none⟩)] w fun e w' => e = .returned (.bool false) ∧ Back F mb B U bl dr T o gt sb x false w w' := by
 have e : T' = T := (hu.1 0).no
 subst e
 have HR : Hid (Back F mb B U bl dr T' o gt sb x false w w) := ⟨⟨fu, fn, ⟨kv, h.mono fun b hb => .inl hb⟩, hs⟩, Only.refl _ _⟩
 have c4 : w.cell? ⟨sb, 4, none⟩ = some (.bool false) := cellOf hs.blk 4
 clear h hs hu
 go_enter Tryz.func103, Tryz.ntmps103
 go_wp2_with fail
 go_ret
 exact ⟨rfl, HR.out⟩
set_option maxRecDepth 8000 in
set_option maxHeartbeats 4000000 in
theorem back_mk (h : TreeM F w mb B U bl kv dr T') (hF : ∀ b, F b → b < w.heap.size) (hg : w.cell? ⟨gt, 0, none⟩ = some (.map (some mb))) (hgF : ¬ F gt) (hs : StAt w gt bl o sb x true fu fn) (hsF : ¬ F sb) (hxF : ¬ F x) (h0 : ¬ o.ot = 0) (hu : UndoR bl U o T T' true fu fn) (hwf : WfT T) (km : mkK o = true) :
   Calls Tryz.prog 103 #[.pointer (some ⟨sb, 0, none⟩)] w fun e w' => e = .returned (.bool true) ∧ Back F mb B U bl dr T o gt sb x true w w' := by
 have hkk := mkK_iff.1 km
 obtain ⟨rfl, hf⟩ := (hu.1 0).mk_yes hkk
 have hsb := block_lt hs.blk
 have hd : unF o x = .func (.func 108) #[.pointer (some ⟨x, 0, none⟩)] #[] := by unfold unF; rw [if_pos km]
 have hcall : Calls Tryz.prog 108 #[.pointer (some ⟨x, 0, none⟩)] w fun e w1 => e = .returned (.tuple #[]) ∧ w1.cell? ⟨sb, 4, none⟩ = some (.bool true) ∧ Hid (Back F mb B U bl dr T o gt sb x true w w1) := by
   refine (mkun_any gt x o h hF hg (hs.mkat km) hgF hxF hf h0 hwf).mono ?_
   rintro e w1 ⟨rfl, h2, h3⟩
   have hb1 := (h3.block _ hsb hsF).trans hs.blk
   have hx1 : MkAt w1 x gt bl o := (h3.block _ (block_lt (hs.mkat km)) hxF).trans (hs.mkat km)
   exact ⟨rfl, cellOf hb1 4, ⟨fu, fn, h2, hb1, fun _ => hx1, fun e => absurd e (by omega)⟩, only_sub h3 fun b hb => .inl hb⟩
 have c3 : w.cell? ⟨sb, 3, none⟩ = some (unF o x) := cellOf hs.blk 3
 have c4 : w.cell? ⟨sb, 4, none⟩ = some (.bool true) := cellOf hs.blk 4
 rw [hd] at c3
 clear h hs hu hd hF hg
 go_enter Tryz.func103, Tryz.ntmps103
 go_wp2_with (go_at_call 108; refine hcall.mono ?_; rintro e w1 ⟨rfl, d4, HR⟩; clear hcall c3 c4)
 go_ret
 exact ⟨rfl, HR.out⟩
set_option maxRecDepth 8000 in
set_option maxHeartbeats 4000000 in
theorem back_mv (h : TreeM F w mb B U bl kv dr T') (hF : ∀ b, F b → b < w.heap.size) (hg : w.cell? ⟨gt, 0, none⟩ = some (.map (some mb))) (hs : StAt w gt bl o sb x true fu fn) (hsF : ¬ F sb) (hxF : ¬ F x) (hu : UndoR bl U o T T' true fu fn) (hwf : WfT T) (km : o.kd = 3) :
   Calls Tryz.prog 103 #[.pointer (some ⟨sb, 0, none⟩)] w fun e w' => e = .returned (.bool true) ∧ Back F mb B U bl dr T o gt sb x true w w' := by
 obtain ⟨k, b, hq, hb, rfl, rfl, rfl, _⟩ := hu.2 km rfl
 have hsb := block_lt hs.blk
 have kn : mkK o = false := by simp [mkK, km]
 have hd : unF o x = .func (.func 110) #[.pointer (some ⟨x, 0, none⟩)] #[] := by unfold unF; rw [if_neg (by rw [kn]; decide), if_pos km]
 have hcall : Calls Tryz.prog 110 #[.pointer (some ⟨x, 0, none⟩)] w fun e w1 => e = .returned (.tuple #[]) ∧ w1.cell? ⟨sb, 4, none⟩ = some (.bool true) ∧ Hid (Back F mb B U bl dr T o gt sb x true w w1) := by
   refine (mvun_any gt x o h hF hg (hs.mvat km) hxF hq hb hwf).mono ?_
   rintro e w1 ⟨rfl, h2, h3, h4⟩
   have hxs : sb ≠ x := apart_tags hs.blk (hs.mvat km) (by decide)
   have hb1 := (h3.block _ hsb (fun e => e.elim hsF hxs)).trans hs.blk
   exact ⟨rfl, cellOf hb1 4, ⟨.pointer none, ⟨#[]⟩, h2, hb1, fun e => absurd e (by rw [kn]; decide), fun _ => h4⟩, only_sub h3 fun b hb => hb.imp id fun e => ⟨e, km⟩⟩
 have c3 : w.cell? ⟨sb, 3, none⟩ = some (unF o x) := cellOf hs.blk 3
 have c4 : w.cell? ⟨sb, 4, none⟩ = some (.bool true) := cellOf hs.blk 4
 rw [hd] at c3
 clear h hs hu hd hF hg
 go_enter Tryz.func103, Tryz.ntmps103
 go_wp2_with (go_at_call 110; refine hcall.mono ?_; rintro e w1 ⟨rfl, d4, HR⟩; clear hcall c3 c4)
 go_ret
 exact ⟨rfl, HR.out⟩
set_option maxRecDepth 8000 in
set_option maxHeartbeats 4000000 in
theorem back_wr (h : TreeM F w mb B U bl kv dr T') (hs : StAt w gt bl o sb x true fu fn) (hu : UndoR bl U o T T' true fu fn) (kn : mkK o = false) (k3 : ¬ o.kd = 3) :
   Calls Tryz.prog 103 #[.pointer (some ⟨sb, 0, none⟩)] w fun e w' => e = .returned (.bool true) ∧ Back F mb B U bl dr T o gt sb x true w w' := by
 have e : T' = T := (hu.1 0).other_yes (fun e => by rw [mkK_iff.2 e] at kn; cases kn) k3
 subst e
 have hsb := block_lt hs.blk
 have hd : unF o x = .func (.func 112) #[.agg #[]] #[] := by unfold unF; rw [if_neg (by rw [kn]; decide), if_neg k3]
 have hcall : Calls Tryz.prog 112 #[.agg #[]] w fun e w1 => e = .returned (.tuple #[]) ∧ w1.cell? ⟨sb, 4, none⟩ = some (.bool true) ∧ Hid (Back F mb B U bl dr T' o gt sb x true w w1) := by
   refine (wrun_any w).mono ?_
   rintro e w1 ⟨rfl, hb⟩
   have hb1 := (hb.block _ hsb).trans hs.blk
   exact ⟨rfl, cellOf hb1 4, ⟨fu, fn, ⟨kv, (h.below hb).mono fun b hb => .inl hb⟩, hb1, fun e => absurd e (by rw [kn]; decide), fun e => absurd e k3⟩, Below.only hb _⟩
 have c3 : w.cell? ⟨sb, 3, none⟩ = some (unF o x) := cellOf hs.blk 3
 have c4 : w.cell? ⟨sb, 4, none⟩ = some (.bool true) := cellOf hs.blk 4
 rw [hd] at c3
 clear h hs hu hd
 go_enter Tryz.func103, Tryz.ntmps103
 go_wp2_with (go_at_call 112; refine hcall.mono ?_; rintro e w1 ⟨rfl, d4, HR⟩; clear hcall c3 c4)
 go_ret
 exact ⟨rfl, HR.out⟩
theorem back_any {r : Bool} (h : TreeM F w mb B U bl kv dr T') (hF : ∀ b, F b → b < w.heap.size) (hg : w.cell? ⟨gt, 0, none⟩ = some (.map (some mb))) (hgF : ¬ F gt) (hs : StAt w gt bl o sb x r fu fn) (hsF : ¬ F sb) (hxF : ¬ F x) (h0 : ¬ o.ot = 0) (hu : UndoR bl U o T T' r fu fn) (hwf : WfT T) :
   Calls Tryz.prog 103 #[.pointer (some ⟨sb, 0, none⟩)] w fun e w' => e = .returned (.bool r) ∧ Back F mb B U bl dr T o gt sb x r w w' := by
 cases r with
 | false => exact back_no h hs hu
 | true =>
   cases km : mkK o with
   | true => exact back_mk h hF hg hgF hs hsF hxF h0 hu hwf km
   | false =>
     by_cases k3 : o.kd = 3
     · exact back_mv h hF hg hs hsF hxF hu hwf k3
     · exact back_wr h hs hu km k3
end
structure SR where
 o : OG
 sb : Nat
 x : Nat
 did : Bool
 fu : Value
 fn : ByteArray
inductive DoneT (bl : PI → Nat) (U : List PI) : List SR → List OB → Nat → Prop
 | nil : DoneT bl U [] [] 0
 | snoc {L : List SR} {T T' : List OB} {s : Nat} {e : SR} : DoneT bl U L T s → UndoR bl U e.o T T' e.did e.fu e.fn → DoneT bl U (L ++ [e]) T' (if e.did = true then s else s + 1)
section
variable {bl : PI → Nat} {U : List PI}
theorem DoneT.fold {L : List SR} {T : List OB} {s : Nat} (h : DoneT bl U L T s) : FoldT [] 0 (L.map (·.o)) T s := by
 induction h with
 | nil => exact .nil _ _
 | snoc h1 h2 ih => rw [List.map_append]; exact ih.snoc (h2.1 _)
theorem DoneT.wf {L : List SR} {T : List OB} {s : Nat} (h : DoneT bl U L T s) (h0 : ∀ e ∈ L, ¬ e.o.ot = 0) : WfT T := WfT.nil.fold h.fold (fun o ho => by
 obtain ⟨e, he, rfl⟩ := List.mem_map.1 ho
 exact h0 e he)
theorem DoneT.last {L : List SR} {e : SR} {T' : List OB} {s' : Nat} (h : DoneT bl U (L ++ [e]) T' s') : ∃ T s, DoneT bl U L T s ∧ UndoR bl U e.o T T' e.did e.fu e.fn ∧ s' = if e.did = true then s else s + 1 := by
 generalize hL : L ++ [e] = L' at h
 cases h with
 | nil => simp at hL
 | snoc h1 h2 =>
   obtain ⟨e1, e2⟩ := List.append_inj' hL rfl
   cases e1
   cases e2
   exact ⟨_, _, h1, h2, rfl⟩
theorem DoneT.mono {bl' : PI → Nat} {U' : List PI} {L : List SR} {T : List OB} {s : Nat} (h : DoneT bl U L T s) (hb : ∀ q ∈ U, bl' q = bl q) (hu : ∀ q ∈ U, q ∈ U') : DoneT bl' U' L T s := by
 induction h with
 | nil => exact .nil
 | snoc h1 h2 ih =>
   refine .snoc ih ⟨h2.1, fun k r => ?_⟩
   obtain ⟨k, b, e1, e2, e3, e4, e5, e6⟩ := h2.2 k r
   exact ⟨k, b, e1, e2, e3, by rw [hb _ e6]; exact e4, e5, hu _ e6⟩
theorem DoneT.ids {L : List SR} {T : List OB} {s : Nat} (h : DoneT bl U L T s) : ∀ y ∈ T, ∃ e ∈ L, mkK e.o = true ∧ idp y = (e.o.ot, e.o.on) := by
 induction h with
 | nil => intro y hy; simp at hy
 | @snoc L T T' s e h1 h2 ih =>
   intro y hy
   have keep : ∀ y ∈ T, ∃ e' ∈ L ++ [e], mkK e'.o = true ∧ idp y = (e'.o.ot, e'.o.on) := fun y hy => by
     obtain ⟨e', he', h3⟩ := ih y hy
     exact ⟨e', List.mem_append.2 (.inl he'), h3⟩
   have hst := h2.1 0
   generalize (if e.did = true then 0 else 0 + 1) = s' at hst
   cases hst with
   | make k1 =>
     rcases List.mem_append.1 hy with hy | hy
     · exact keep y hy
     · rw [List.mem_singleton.1 hy]
       exact ⟨e, by simp, mkK_iff.2 k1, rfl⟩
   | made => exact keep y hy
   | @move k b k1 k2 k3 k4 k5 k6 =>
     have : idp y ∈ (T.set k (moveO e.o b)).map idp := List.mem_map.2 ⟨y, hy, rfl⟩
     rw [map_set_idp (b' := moveO e.o b) k3 rfl] at this
     obtain ⟨z, hz, ez⟩ := List.mem_map.1 this
     rw [← ez]
     exact keep z hz
   | moved => exact keep y hy
   | other => exact keep y hy
end
end Go.Proofs.YthhakekbffembaaGreatDoor.Ck.Y

namespace Go.Proofs.YthhakekbffembaaGreatDoor.Ck.Y
open Go.RowKit Go.Maps Go.Lib
structure VB where
 b : Nat
 fv : Value
 cn : Value
structure SM (F FO : Nat → Prop) (w : World) (gt : Nat) (v : Value) (L : List SR) (U : List PI) (bl : PI → Nat) (dr : PI → Bool) : Prop where
 row : RowP 117 w 0 v (L.map (·.sb))
 st : ∀ e ∈ L, StAt w gt bl e.o e.sb e.x e.did e.fu e.fn
 nd : L.Pairwise fun a b => a.sb ≠ b.sb ∧ a.x ≠ b.x
 rise : L.Pairwise fun a b => lessP (a.o.t, a.o.n) (b.o.t, b.o.n)
 ok : ∀ e ∈ L, ¬ e.o.ot = 0 ∧ (mkK e.o = true → e.o.ot = e.o.t ∧ e.o.on = e.o.n ∧ trashB e.o.pt e.o.pn = false ∧ (e.o.ot, e.o.on) ∈ U ∧ dr (e.o.ot, e.o.on) = decide (e.o.kd = 1))
 len : L.length ≤ 800
 sub : ∀ b, FO b → F b
 gtF : F gt ∧ ¬ FO gt
 rowF : ∀ g, v.ownBlock = some g → F g ∧ ¬ FO g
 stF : ∀ e ∈ L, F e.sb ∧ ¬ FO e.sb ∧ F e.x ∧ ¬ FO e.x
 low : ∀ b, F b → b < w.heap.size
theorem pair_sym {α : Type} {R : α → α → Prop} (hs : ∀ a b, R a b → R b a) {L : List α} (h : L.Pairwise R) {i j : Nat} {a b : α} (hi : L[i]? = some a) (hj : L[j]? = some b) (hne : i ≠ j) : R a b := by
 obtain ⟨h1, e1⟩ := List.getElem?_eq_some_iff.1 hi
 obtain ⟨h2, e2⟩ := List.getElem?_eq_some_iff.1 hj
 rcases Nat.lt_or_gt_of_ne hne with hlt | hlt
 · have := List.pairwise_iff_getElem.1 h i j h1 h2 hlt
   rwa [e1, e2] at this
 · have := List.pairwise_iff_getElem.1 h j i h2 h1 hlt
   rw [e1, e2] at this
   exact hs _ _ this
theorem map_set_same {α β : Type} (f : α → β) {L : List α} {d : Nat} {e e' : α} (hd : L[d]? = some e) (h : f e' = f e) : (L.set d e').map f = L.map f := by
 rw [List.map_set, h]
 have hlt := (List.getElem?_eq_some_iff.1 hd).1
 have : (L.map f)[d]'(by rw [List.length_map]; exact hlt) = f e := by rw [List.getElem_map, (List.getElem?_eq_some_iff.1 hd).2]
 rw [← this]
 exact List.set_getElem_self _
theorem pairwise_set {α β : Type} (f : α → β) {R : β → β → Prop} {L : List α} {d : Nat} {e e' : α} (hd : L[d]? = some e) (h : f e' = f e) (hp : L.Pairwise fun a b => R (f a) (f b)) : (L.set d e').Pairwise fun a b => R (f a) (f b) := by
 rw [← List.pairwise_map] at hp ⊢
 rw [map_set_same f hd h]
 exact hp
section
variable {F FO : Nat → Prop} {w w' : World} {gt : Nat} {v : Value} {L : List SR} {U : List PI} {bl : PI → Nat} {dr : PI → Bool}
theorem SM.turn (h : SM F FO w gt v L U bl dr) {d : Nat} {e : SR} (hd : L[d]? = some e) {did : Bool} {fu : Value} {fn : ByteArray} (hs : StAt w' gt bl e.o e.sb e.x did fu fn) (ho : Only (fun b => FO b ∨ b = e.sb ∨ (b = e.x ∧ e.o.kd = 3)) w w') :
   SM (growF F w w') (growF FO w w') w' gt v (L.set d ⟨e.o, e.sb, e.x, did, fu, fn⟩) U bl dr ∧ Only F w w' := by
 have he : e ∈ L := List.mem_of_getElem? hd
 have hse := h.st e he
 have nogrow : ∀ b, F b → ¬ FO b → ¬ growF FO w w' b := fun b h1 h2 hg => by
   rcases hg with hg | hg
   · exact h2 hg
   · have := h.low b h1; omega
 have hmem : ∀ f ∈ L.set d ⟨e.o, e.sb, e.x, did, fu, fn⟩, f = ⟨e.o, e.sb, e.x, did, fu, fn⟩ ∨ ∃ j, j ≠ d ∧ L[j]? = some f := fun f hf => by
   obtain ⟨j, hj, ej⟩ := List.getElem_of_mem hf
   rw [List.length_set] at hj
   by_cases e' : j = d
   · subst e'
     left
     rw [← ej, List.getElem_set_self]
   · right
     refine ⟨j, e', ?_⟩
     rw [← ej, List.getElem_set_ne (fun e'' => e' e''.symm), List.getElem?_eq_getElem hj]
 have blk_kept : ∀ {b : Nat} {cs : Array Value} {t : TypeId}, w.heap[b]? = some (.cells cs t (0, 0)) → ¬ FO b → b ≠ e.sb → (e.o.kd = 3 → b ≠ e.x) → w'.heap[b]? = some (.cells cs t (0, 0)) := fun {b cs t} hb h1 h2 h3 =>
   (ho.block _ (block_lt hb) (fun hh => by rcases hh with hh | hh | hh; exact h1 hh; exact h2 hh; exact h3 hh.2 hh.1)).trans hb
 refine ⟨⟨?_, fun f hf => ?_, ?_, ?_, fun f hf => ?_, by rw [List.length_set]; exact h.len, fun b hb => ?_, ⟨.inl h.gtF.1, nogrow _ h.gtF.1 h.gtF.2⟩, fun g hg => ⟨.inl (h.rowF g hg).1, nogrow _ (h.rowF g hg).1 (h.rowF g hg).2⟩, fun f hf => ?_, fun b hb => ?_⟩, only_sub ho fun b hb => ?_⟩
 · rw [map_set_same (·.sb) (e' := ⟨e.o, e.sb, e.x, did, fu, fn⟩) hd rfl]
   refine h.row.kept ho fun g hg hh => ?_
   obtain ⟨_, _, cur, ht⟩ := h.row.tag hg
   rcases hh with hh | hh | hh
   · exact (h.rowF g hg).2 hh
   · exact apart_tags ht hse.blk (by decide) hh
   · exact apart_tags ht (hse.mvat hh.2) (by decide) hh.1
 · rcases hmem f hf with rfl | ⟨j, hj, hf'⟩
   · exact hs
   · have hfm := List.mem_of_getElem? hf'
     have hsf := h.st f hfm
     have hne := pair_sym (R := fun a b => a.sb ≠ b.sb ∧ a.x ≠ b.x) (fun a b h => ⟨h.1.symm, h.2.symm⟩) h.nd hf' hd hj
     have hF := h.stF f hfm
     exact ⟨blk_kept hsf.blk hF.2.1 hne.1 (fun k => apart_tags hsf.blk (hse.mvat k) (by decide)),
       fun k => blk_kept (hsf.mkat k) hF.2.2.2 (apart_tags (hsf.mkat k) hse.blk (by decide)) (fun _ => hne.2),
       fun k => blk_kept (hsf.mvat k) hF.2.2.2 (apart_tags (hsf.mvat k) hse.blk (by decide)) (fun _ => hne.2)⟩
 · exact pairwise_set (fun a : SR => (a.sb, a.x)) (R := fun a b => a.1 ≠ b.1 ∧ a.2 ≠ b.2) hd rfl h.nd
 · exact pairwise_set (fun a : SR => (a.o.t, a.o.n)) (R := lessP) hd rfl h.rise
 · rcases hmem f hf with rfl | ⟨j, _, hf'⟩
   · exact h.ok e he
   · exact h.ok f (List.mem_of_getElem? hf')
 · rcases hb with hb | hb
   · exact .inl (h.sub b hb)
   · exact .inr hb
 · have key : ∀ f ∈ L, growF F w w' f.sb ∧ ¬ growF FO w w' f.sb ∧ growF F w w' f.x ∧ ¬ growF FO w w' f.x := fun f hf =>
     have hF := h.stF f hf
     ⟨.inl hF.1, nogrow _ hF.1 hF.2.1, .inl hF.2.2.1, nogrow _ hF.2.2.1 hF.2.2.2⟩
   rcases hmem f hf with rfl | ⟨j, _, hf'⟩
   · exact key e he
   · exact key f (List.mem_of_getElem? hf')
 · rcases hb with hb | hb
   · have := h.low b hb; have := ho.size; omega
   · exact hb.2
 · rcases hb with hb | hb | hb
   · exact h.sub b hb
   · rw [hb]; exact (h.stF e he).1
   · rw [hb.1]; exact (h.stF e he).2.2.1
theorem SM.kept {S : Nat → Prop} (h : SM F FO w gt v L U bl dr) (ho : Only S w w') (hS : ∀ b, S b → b = gt ∨ FO b ∨ ¬ F b) (hgt : ∃ cs, w.heap[gt]? = some (.cells cs 77 (0, 0))) : SM F FO w' gt v L U bl dr := by
 obtain ⟨cs, hgt⟩ := hgt
 have no : ∀ {b : Nat} {cs : Array Value} {t : TypeId}, w.heap[b]? = some (.cells cs t (0, 0)) → t ≠ 77 → F b → ¬ FO b → ¬ S b := fun hb ht h1 h2 hs => by
   rcases hS _ hs with e | e | e
   · exact apart_tags hb hgt ht e
   · exact h2 e
   · exact e h1
 refine ⟨h.row.kept ho fun g hg => ?_, fun e he => ?_, h.nd, h.rise, h.ok, h.len, h.sub, h.gtF, h.rowF, h.stF, fun b hb => by have := h.low b hb; have := ho.size; omega⟩
 · obtain ⟨_, _, cur, ht⟩ := h.row.tag hg
   exact no ht (by decide) (h.rowF g hg).1 (h.rowF g hg).2
 · have hs := h.st e he
   have hF := h.stF e he
   exact ⟨(ho.block _ (block_lt hs.blk) (no hs.blk (by decide) hF.1 hF.2.1)).trans hs.blk,
     fun k => (ho.block _ (block_lt (hs.mkat k)) (no (hs.mkat k) (by decide) hF.2.2.1 hF.2.2.2)).trans (hs.mkat k),
     fun k => (ho.block _ (block_lt (hs.mvat k)) (no (hs.mvat k) (by decide) hF.2.2.1 hF.2.2.2)).trans (hs.mvat k)⟩
end
structure TSm (F : Nat → Prop) (w : World) (gt : VB) (l : List OG) (d : Nat) (T : List OB) (s : Nat) (mb : Nat) (B U : List PI) (bl : PI → Nat) (dr : PI → Bool) : Prop where
 out : ∃ FO kv L v, SM F FO w gt.b v L U bl dr ∧ L.map (·.o) = l ∧ w.heap[gt.b]? = some (.cells #[.map (some mb), v, .int .i64 (d : Nat), .int .i64 (s : Nat), gt.fv, gt.cn] 77 (0, 0)) ∧ DoneT bl U (L.take d) T s ∧ TreeM FO w mb B U bl kv dr T
 dl : d ≤ l.length
 sd : s ≤ d
 uid : ∀ q ∈ U, q.1 = 0 ∨ ∃ o ∈ l, q = (o.t, o.n)
 ul : U.length ≤ l.length + 2
theorem DoneT.le {bl : PI → Nat} {U : List PI} {L : List SR} {T : List OB} {s : Nat} (h : DoneT bl U L T s) : s ≤ L.length := by
 induction h with
 | nil => exact Nat.le_refl _
 | snoc h1 h2 ih => rw [List.length_append]; split <;> simp <;> omega
theorem SM.ok_now {F FO : Nat → Prop} {w : World} {gt : Nat} {v : Value} {L : List SR} {U : List PI} {bl : PI → Nat} {dr : PI → Bool} {T : List OB} {s d : Nat} {e : SR} (h : SM F FO w gt v L U bl dr) (hD : DoneT bl U (L.take d) T s) (hd : L[d]? = some e) : OpOk T U dr e.o := by
 have he := h.ok e (List.mem_of_getElem? hd)
 refine ⟨he.1, fun k => ?_⟩
 obtain ⟨e1, e2, e3, e4, e5⟩ := he.2 k
 refine ⟨e5, e4, ?_, e3⟩
 cases hf : findT T e.o.ot e.o.on with
 | none => rfl
 | some j =>
   obtain ⟨y, hy, h1, h2⟩ := findT_some hf
   obtain ⟨f, hf', k', ey⟩ := hD.ids y (List.mem_of_getElem? hy)
   obtain ⟨i, hi, ei⟩ := List.getElem_of_mem hf'
   rw [List.length_take] at hi
   rw [List.getElem_take] at ei
   have hdl := (List.getElem?_eq_some_iff.1 hd).1
   have hr := List.pairwise_iff_getElem.1 h.rise i d (by omega) hdl (by omega)
   rw [ei, (List.getElem?_eq_some_iff.1 hd).2] at hr
   obtain ⟨f1, f2, _⟩ := (h.ok f (by rw [← ei]; exact List.getElem_mem _)).2 k'
   have q1 : e.o.ot = f.o.ot := h1.symm.trans (congrArg Prod.fst ey)
   have q2 : e.o.on = f.o.on := h2.symm.trans (congrArg Prod.snd ey)
   rw [← f1, ← f2, ← e1, ← e2, q1, q2] at hr
   exact absurd hr (lessP_irrefl _)
end Go.Proofs.YthhakekbffembaaGreatDoor.Ck.Y

namespace Go.Proofs.YthhakekbffembaaGreatDoor.Ck.Y
open Go.RowKit Go.Maps Go.Lib
def doneW (gt : Nat) (w : World) : Nat := match w.cell? ⟨gt, 2, none⟩ with | some (.int _ z) => z.toNat | _ => 0
theorem growF_trans {F : Nat → Prop} {a b c : World} (hab : a.heap.size ≤ b.heap.size) (hbc : b.heap.size ≤ c.heap.size) {x : Nat} (h : growF (growF F a b) b c x) : growF F a c x := by
 rcases h with (h | h) | h
 · exact .inl h
 · exact .inr ⟨h.1, by omega⟩
 · exact .inr ⟨by omega, h.2⟩
theorem only_grow {F : Nat → Prop} {a b c : World} (h1 : Only F a b) (h2 : Only (growF F a b) b c) : Only F a c := h1.trans h2 fun i hi => by
 rcases hi with hi | hi
 · exact .inl hi
 · exact .inr hi.1
theorem SM.mono {F F' FO : Nat → Prop} {w : World} {gt : Nat} {v : Value} {L : List SR} {U : List PI} {bl : PI → Nat} {dr : PI → Bool} (h : SM F FO w gt v L U bl dr) (hF : ∀ b, F b → F' b) (hl : ∀ b, F' b → b < w.heap.size) : SM F' FO w gt v L U bl dr :=
 ⟨h.row, h.st, h.nd, h.rise, h.ok, h.len, fun b hb => hF b (h.sub b hb), ⟨hF _ h.gtF.1, h.gtF.2⟩, fun g hg => ⟨hF _ (h.rowF g hg).1, (h.rowF g hg).2⟩, fun e he => ⟨hF _ (h.stF e he).1, (h.stF e he).2.1, hF _ (h.stF e he).2.2.1, (h.stF e he).2.2.2⟩, hl⟩
section
variable {F : Nat → Prop} {w w' : World} {gt : VB} {d s mb : Nat} {l : List OG} {T : List OB} {B U : List PI} {bl : PI → Nat} {dr : PI → Bool}
theorem TSm.mono {F' : Nat → Prop} (h : TSm F w gt l d T s mb B U bl dr) (hF : ∀ b, F b → F' b) (hl : ∀ b, F' b → b < w.heap.size) : TSm F' w gt l d T s mb B U bl dr := by
 obtain ⟨FO, kv, L, v, hS, hr⟩ := h.out
 exact ⟨⟨FO, kv, L, v, hS.mono hF hl, hr⟩, h.dl, h.sd, h.uid, h.ul⟩
theorem TSm.kept {S : Nat → Prop} (h : TSm F w gt l d T s mb B U bl dr) (ho : Only S w w') (hS : ∀ b, F b → ¬ S b) : TSm F w' gt l d T s mb B U bl dr := by
 obtain ⟨FO, kv, L, v, h1, h2, h3, h4, h5⟩ := h.out
 exact ⟨⟨FO, kv, L, v, h1.kept ho (fun b hb => .inr (.inr fun e => hS b e hb)) ⟨_, h3⟩, h2, (ho.block _ (block_lt h3) (hS _ h1.gtF.1)).trans h3, h4, h5.kept ho fun b hb => hS b (h1.sub b hb)⟩, h.dl, h.sd, h.uid, h.ul⟩
theorem TSm.below (h : TSm F w gt l d T s mb B U bl dr) (hb : Below w.heap.size w w') : TSm F w' gt l d T s mb B U bl dr := h.kept (Below.only hb (fun _ => False)) fun _ _ f => f
end
theorem StAt.drewr {W : World} {gt : Nat} {bl : PI → Nat} {o : OG} {sb x : Nat} {did : Bool} {fu : Value} {fn : ByteArray} (h : StAt W gt bl o sb x did fu fn) : StAt W.drew gt bl o sb x did fu fn := ⟨h.blk, h.mkat, h.mvat⟩
theorem ran_next {F FO : Nat → Prop} {W W3 Wf : World} {gt : VB} {d s mb : Nat} {v : Value} {L : List SR} {T : List OB} {B U : List PI} {bl : PI → Nat} {dr : PI → Bool} {e : SR} {r : Bool} (hS : SM F FO W gt.b v L U bl dr) (hg : W.heap[gt.b]? = some (.cells #[.map (some mb), v, .int .i64 (d : Nat), .int .i64 (s : Nat), gt.fv, gt.cn] 77 (0, 0))) (hD : DoneT bl U (L.take d) T s) (hd : L[d]? = some e) (hR : Ran FO mb B U bl dr T e.o gt.b e.sb e.x W W3 r) (hui : ∀ q ∈ U, q.1 = 0 ∨ ∃ o ∈ L.map (·.o), q = (o.t, o.n)) (hul : U.length ≤ (L.map (·.o)).length + 2) (hof : Only (· = gt.b) W3 Wf) (hgf : Wf.heap[gt.b]? = some (.cells #[.map (some mb), v, .int .i64 (d + 1 : Nat), .int .i64 ((if r = true then s else s + 1 : Nat) : Nat), gt.fv, gt.cn] 77 (0, 0))) :
   (∃ T', TSm (growF F W Wf) Wf gt (L.map (·.o)) (d + 1) T' (if r = true then s else s + 1) mb B U bl dr) ∧ Only F W Wf := by
 obtain ⟨T', fu, fn, hu, ⟨kv', hT⟩, hst⟩ := hR.out
 obtain ⟨hS3, hO3⟩ := hS.turn hd hst hR.only
 have hdl := (List.getElem?_eq_some_iff.1 hd).1
 have hse := hS.st e (List.mem_of_getElem? hd)
 have hg3 : W3.heap[gt.b]? = _ := (hR.only.block _ (block_lt hg) (fun hh => by
   rcases hh with hh | hh | hh
   · exact hS.gtF.2 hh
   · exact apart_tags hg hse.blk (by decide) hh
   · exact apart_tags hg (hse.mvat hh.2) (by decide) hh.1)).trans hg
 have hSf := hS3.kept hof (fun b hb => .inl hb) ⟨_, hg3⟩
 have s3 := hR.only.size
 have sf := hof.size
 have hD' : DoneT bl U ((L.set d ⟨e.o, e.sb, e.x, r, fu, fn⟩).take (d + 1)) T' (if r = true then s else s + 1) := by
   have e1 : (L.set d ⟨e.o, e.sb, e.x, r, fu, fn⟩).take (d + 1) = L.take d ++ [⟨e.o, e.sb, e.x, r, fu, fn⟩] := by
     rw [List.take_add_one, List.take_set_of_le (Nat.le_refl _)]
     simp [hdl]
   rw [e1]
   exact .snoc hD hu
 have hle := hD'.le
 rw [List.length_take, List.length_set] at hle
 refine ⟨⟨T', ⟨growF FO W W3, kv', L.set d ⟨e.o, e.sb, e.x, r, fu, fn⟩, v, hSf.mono (fun b hb => ?_) (fun b hb => ?_), map_set_same (·.o) (e' := ⟨e.o, e.sb, e.x, r, fu, fn⟩) hd rfl, hgf, hD', hT.kept hof fun b hb hh => hS3.gtF.2 (by rw [← hh]; exact hb)⟩, by rw [List.length_map]; omega, by omega, hui, hul⟩, ?_⟩
 · rcases hb with hb | hb
   · exact .inl hb
   · exact .inr ⟨hb.1, by omega⟩
 · rcases hb with hb | hb
   · have := hS.low b hb; omega
   · exact hb.2
 · exact hO3.next (only_sub hof fun b hb => by rw [hb]; exact hS.gtF.1)
theorem eqin_map (d mb : Nat) (w : World) : (Op.equalIn (d + 1) 71 (.map (some mb)) (.map none)).run Tryz.prog w = .ok false w := by
 simp [Op.equalIn, run_underlying Tryz.underlying71]
theorem meq_some (mb : Nat) (w : World) : (binOp .eql 71 (.map (some mb)) (.map none)).run Tryz.prog w = .ok (.bool false) w := by
 simp only [binOp]
 simp [Op.equal, Op.maxDepth, eqin_map 9999 mb w]
theorem eqin_nmap (d : Nat) (w : World) : (Op.equalIn (d + 1) 71 (.map none) (.map none)).run Tryz.prog w = .ok true w := by
 simp [Op.equalIn, run_underlying Tryz.underlying71]
theorem meq_none (w : World) : (binOp .eql 71 (.map none) (.map none)).run Tryz.prog w = .ok (.bool true) w := by
 simp only [binOp]
 simp [Op.equal, Op.maxDepth, eqin_nmap 9999 w]
set_option maxRecDepth 8000 in
set_option maxHeartbeats 4000000 in
theorem catch_some {F : Nat → Prop} {w : World} {gt : VB} {d s mb : Nat} {l : List OG} {T : List OB} {B U : List PI} {bl : PI → Nat} {dr : PI → Bool} (h : TSm F w gt l d T s mb B U bl dr) :
   Calls Tryz.prog 118 #[.pointer (some ⟨gt.b, 0, none⟩)] w fun e w' => e = .returned (.tuple #[]) ∧ (∃ T' s', TSm (growF F w w') w' gt l l.length T' s' mb B U bl dr) ∧ Only F w w' := by
 have hlow : ∀ b, F b → b < w.heap.size := by obtain ⟨FO, kv, L, v, hS, _⟩ := h.out; exact hS.low
 have g0 : w.cell? ⟨gt.b, 0, none⟩ = some (.map (some mb)) := by obtain ⟨FO, kv, L, v, hS, _, hg, _⟩ := h.out; exact cellOf hg 0
 have HH : Hid (TSm (growF F w w) w gt l d T s mb B U bl dr ∧ ∀ b, F b → b < w.heap.size) := ⟨h.mono (fun b hb => .inl hb) (fun b hb => hb.elim (hlow b) fun e => e.2), hlow⟩
 have hE := meq_some mb w
 clear h hlow
 go_enter Tryz.func118, Tryz.ntmps118
 go_wp2_with fail
 go_loopw [11] (fun _ wr => Hid (∃ d T s, TSm (growF F w wr) wr gt l d T s mb B U bl dr ∧ Only F w wr ∧ doneW gt.b wr = d)) (fun _ wr => l.length - doneW gt.b wr)
 case atStart => exact ⟨d, T, s, HH.out.1, Only.refl _ _, by
   obtain ⟨FO, kv, L, v, hS, _, hg, _⟩ := HH.out.1.out
   unfold doneW
   rw [cellOf hg 2]
   simp⟩
 case round =>
   clear g0 hE
   obtain ⟨d, T, s, hT, hOw, hdw⟩ := hrel.out
   have hdl := hT.dl
   obtain ⟨FO, kv, L, v, hS, hL, hg, hD, hM⟩ := hT.out
   obtain ⟨p, cp, rfl, hlc, hcm, hpp⟩ := hS.row.form
   have hlen : (L.map (·.sb)).length = l.length := by rw [← hL, List.length_map, List.length_map]
   have hl8 : l.length ≤ 800 := by have := hS.len; rw [← hL, List.length_map]; exact this
   rw [hlen] at hg hlc hpp
   have g1 : wr.cell? ⟨gt.b, 1, none⟩ = some (.slice p l.length cp) := cellOf hg 1
   have g2 : wr.cell? ⟨gt.b, 2, none⟩ = some (.int .i64 (d : Nat)) := cellOf hg 2
   have HI : Hid (TSm (growF F w wr) wr gt l d T s mb B U bl dr ∧ Only F w wr ∧ doneW gt.b wr = d) := ⟨hT, hOw, hdw⟩
   clear hrel
   go_wp2_with fail
   refine catch_r2 (by kernel_rfl) gt.b l.length cp d p _ rfl rfl g1 g2 ?_
   intro W hB
   simp only [putAll, sA, sB, sC]
   have HB : Hid (Below wr.heap.size wr W) := hB
   by_cases hdd : d < l.length
   · have hddI : decide ((d : Int) < (l.length : Int)) = true := decide_eq_true (by omega)
     rw [hddI]
     obtain ⟨g9, rfl, hcell⟩ := hpp (by omega)
     obtain ⟨e, he⟩ : ∃ e, L[d]? = some e := ⟨_, List.getElem?_eq_getElem (by rw [← hL, List.length_map] at hdd; exact hdd)⟩
     have r0 : wr.cell? ⟨g9, d, none⟩ = some (.pointer (some ⟨e.sb, 0, none⟩)) := hcell d e.sb (by rw [List.getElem?_map, he]; rfl)
     obtain ⟨T1, s1, hst⟩ := StepT.total T 0 e.o
     have hTW := hT.below hB
     have hSW := hS.kept (Below.only hB (fun _ => False)) (fun b f => f.elim) ⟨_, hg⟩
     have hMW := hM.below hB
     have hgW : W.heap[gt.b]? = _ := (hB.block _ (block_lt hg)).trans hg
     have hFO : ∀ b, FO b → b < W.drew.heap.size := fun b hb => hSW.low b (hSW.sub b hb)
     have hse := hSW.stF e (List.mem_of_getElem? he)
     have hdrew : Below W.heap.size W W.drew := ⟨rfl, rfl, rfl, Nat.le_refl _, fun _ _ => rfl⟩
     have hrun := run_any (w := W.drew) (hMW.below hdrew) hFO (show W.drew.cell? ⟨gt.b, 0, none⟩ = some (.map (some mb)) from cellOf hgW 0) (hSW.st e (List.mem_of_getElem? he)).drewr hse.2.1 hse.2.2.2 (hSW.ok_now hD he)
     have hrun' : Calls Tryz.prog 159 #[.pointer (some ⟨e.sb, 0, none⟩)] W.drew fun x W' => x = .returned (.bool (decide (s1 = 0))) ∧ Ran FO mb B U bl dr T e.o gt.b e.sb e.x W.drew W' (decide (s1 = 0)) := by
       refine hrun.mono ?_
       rintro x W' ⟨r, rfl, hR⟩
       obtain ⟨T', fu, fn, hu, _⟩ := hR.out
       have := ((hu.1 0).unique hst).2
       have er : r = decide (s1 = 0) := by rw [← this]; cases r <;> simp
       rw [← er]
       exact ⟨rfl, hR⟩
     have c1 : W.cell? ⟨gt.b, 1, none⟩ = some (.slice (some ⟨g9, 0, none⟩) l.length cp) := cellOf hgW 1
     have c2 : W.cell? ⟨gt.b, 2, none⟩ = some (.int .i64 (d : Nat)) := cellOf hgW 2
     have c3 : W.cell? ⟨g9, d, none⟩ = some (.pointer (some ⟨e.sb, 0, none⟩)) := (hB.cell (p := ⟨g9, d, none⟩) (cell_lt r0)).trans r0
     have hsd := hT.sd
     have HK : Hid (SM (growF F w wr) FO W gt.b (.slice (some ⟨g9, 0, none⟩) l.length cp) L U bl dr ∧ L.map (·.o) = l ∧ W.heap[gt.b]? = some (.cells #[.map (some mb), .slice (some ⟨g9, 0, none⟩) l.length cp, .int .i64 (d : Nat), .int .i64 (s : Nat), gt.fv, gt.cn] 77 (0, 0)) ∧ DoneT bl U (L.take d) T s ∧ L[d]? = some e) := ⟨by rw [hlen] at hSW; exact hSW, hL, hgW, hD, he⟩
     clear hT hS hg hD hM hlc hpp hcell r0 hTW hSW hMW hgW hFO hse hdrew hrun hlen hcm g1 g2 hB hst he
     go_wp2_with fail
     generalize hrr : decide (s1 = 0) = rr at hrun'
     refine catch_r3 (by kernel_rfl) gt.b g9 l.length cp d e.sb rr (fun W' => Ran FO mb B U bl dr T e.o gt.b e.sb e.x W W' rr) _ rfl rfl hdd c1 c2 c3 (hrun'.mono fun x W' hx => ⟨hx.1, ⟨hx.2.out, ⟨hx.2.only.os, hx.2.only.tape, hx.2.only.output, hx.2.only.size, hx.2.only.block⟩⟩⟩) ?_
     intro _ W3 hR
     have hg3 : W3.heap[gt.b]? = some (.cells #[.map (some mb), .slice (some ⟨g9, 0, none⟩) l.length cp, .int .i64 (d : Nat), .int .i64 (s : Nat), gt.fv, gt.cn] 77 (0, 0)) := by
       have hse := HK.out.1.st e (List.mem_of_getElem? HK.out.2.2.2.2)
       refine (hR.only.block _ (block_lt HK.out.2.2.1) (fun hh => ?_)).trans HK.out.2.2.1
       rcases hh with hh | hh | hh
       · exact HK.out.1.gtF.2 hh
       · exact apart_tags HK.out.2.2.1 hse.blk (by decide) hh
       · exact apart_tags HK.out.2.2.1 (hse.mvat hh.2) (by decide) hh.1
     have k2 : W3.cell? ⟨gt.b, 2, none⟩ = some (.int .i64 (d : Nat)) := cellOf hg3 2
     have k3 : W3.cell? ⟨gt.b, 3, none⟩ = some (.int .i64 (s : Nat)) := cellOf hg3 3
     have f2 : W3.frozen? ⟨gt.b, 2, none⟩ = false := frozenOf hg3 2
     have f3 : W3.frozen? ⟨gt.b, 3, none⟩ = false := frozenOf hg3 3
     have fin : ∀ Wf, Only (· = gt.b) W3 Wf → Wf.heap[gt.b]? = some (.cells #[.map (some mb), .slice (some ⟨g9, 0, none⟩) l.length cp, .int .i64 (d + 1 : Nat), .int .i64 ((if rr = true then s else s + 1 : Nat) : Nat), gt.fv, gt.cn] 77 (0, 0)) →
         Hid (∃ d T s, TSm (growF F w Wf) Wf gt l d T s mb B U bl dr ∧ Only F w Wf ∧ doneW gt.b Wf = d) ∧ doneW gt.b Wf = d + 1 := fun Wf hof hgf => by
       obtain ⟨⟨T', hT'⟩, hO'⟩ := ran_next HK.out.1 HK.out.2.2.1 HK.out.2.2.2.1 HK.out.2.2.2.2 hR (by rw [HK.out.2.1]; exact HI.out.1.uid) (by rw [HK.out.2.1]; exact HI.out.1.ul) hof hgf
       rw [HK.out.2.1] at hT'
       have hdone : doneW gt.b Wf = d + 1 := by unfold doneW; rw [cellOf hgf 2]; simp
       have q1 := HI.out.2.1.size
       have q2 := HB.out.size
       have q3 := hR.only.size
       have q4 := hof.size
       have hOW : Only F w W := HI.out.2.1.next (Below.only HB.out F)
       refine ⟨⟨d + 1, T', _, hT'.mono (fun b hb => ?_) (fun b hb => ?_), ?_, hdone⟩, hdone⟩
       · rcases hb with (hb | hb) | hb
         · exact .inl hb
         · exact .inr ⟨hb.1, by omega⟩
         · exact .inr ⟨by omega, hb.2⟩
       · rcases hb with hb | hb
         · have := HH.out.2 b hb; omega
         · exact hb.2
       · refine hOW.trans hO' fun i hi => ?_
         rcases hi with hi | hi
         · exact .inl hi
         · exact .inr hi.1
     have HF : Hid (∀ Wf, Only (· = gt.b) W3 Wf → Wf.heap[gt.b]? = some (.cells #[.map (some mb), .slice (some ⟨g9, 0, none⟩) l.length cp, .int .i64 (d + 1 : Nat), .int .i64 ((if rr = true then s else s + 1 : Nat) : Nat), gt.fv, gt.cn] 77 (0, 0)) →
         Hid (∃ d T s, TSm (growF F w Wf) Wf gt l d T s mb B U bl dr ∧ Only F w Wf ∧ doneW gt.b Wf = d) ∧ doneW gt.b Wf = d + 1) := fin
     have HG : Hid (W3.heap[gt.b]? = some (.cells #[.map (some mb), .slice (some ⟨g9, 0, none⟩) l.length cp, .int .i64 (d : Nat), .int .i64 (s : Nat), gt.fv, gt.cn] 77 (0, 0))) := hg3
     clear fin hR hg3 HK hrun' c1 c2 c3
     simp only [putAll, sA, sB, sC]
     have hdw := HI.out.2.2
     cases rr with
     | true =>
       go_wp2_with fail
       go_roundw
       case rel =>
         refine (HF.out _ (Only.setCell (S := (· = gt.b)) W3 ⟨gt.b, 2, none⟩ _ rfl) ?_).1
         have := heap_set_same (k := 2) HG.out (.int .i64 ((d + 1 : Nat) : Int))
         exact this
       case measure =>
         have := (HF.out _ (Only.setCell (S := (· = gt.b)) W3 ⟨gt.b, 2, none⟩ (.int .i64 ((d : Int) + 1)) rfl) (heap_set_same (k := 2) HG.out (.int .i64 ((d + 1 : Nat) : Int)))).2
         rw [this, hdw]
         omega
     | false =>
       have hne : ¬ (2 : Nat) = 3 := by decide
       go_wp2_with fail
       go_roundw
       case rel =>
         refine (HF.out _ ((Only.setCell (S := (· = gt.b)) W3 ⟨gt.b, 3, none⟩ _ rfl).next (Only.setCell (S := (· = gt.b)) _ ⟨gt.b, 2, none⟩ _ rfl)) ?_).1
         have := heap_set_same (k := 2) (heap_set_same (k := 3) HG.out (.int .i64 ((s + 1 : Nat) : Int))) (.int .i64 ((d + 1 : Nat) : Int))
         exact this
       case measure =>
         have := (HF.out _ ((Only.setCell (S := (· = gt.b)) W3 ⟨gt.b, 3, none⟩ (.int .i64 ((s : Int) + 1)) rfl).next (Only.setCell (S := (· = gt.b)) _ ⟨gt.b, 2, none⟩ (.int .i64 ((d : Int) + 1)) rfl)) (heap_set_same (k := 2) (heap_set_same (k := 3) HG.out (.int .i64 ((s + 1 : Nat) : Int))) (.int .i64 ((d + 1 : Nat) : Int)))).2
         rw [this, hdw]
         omega
   · have hddI : decide ((d : Int) < (l.length : Int)) = false := decide_eq_false (by omega)
     rw [hddI]
     have hde : d = l.length := by omega
     have HE : Hid ((∃ T' s', TSm (growF F w W) W gt l l.length T' s' mb B U bl dr) ∧ Only F w W) := by
       have q1 := HI.out.2.1.size
       have q2 := HB.out.size
       refine ⟨⟨T, s, ?_⟩, HI.out.2.1.next (Below.only HB.out F)⟩
       rw [← hde]
       refine (HI.out.1.below HB.out).mono (fun b hb => ?_) fun b hb => ?_
       · rcases hb with hb | hb
         · exact .inl hb
         · exact .inr ⟨hb.1, by omega⟩
       · rcases hb with hb | hb
         · have := HH.out.2 b hb; omega
         · exact hb.2
     clear hT hS hg hD hM hlc hpp hB g1 g2 hlen hcm
     go_wp2_with fail
     go_end0
     exact ⟨rfl, HE.out⟩
end Go.Proofs.YthhakekbffembaaGreatDoor.Ck.Y
