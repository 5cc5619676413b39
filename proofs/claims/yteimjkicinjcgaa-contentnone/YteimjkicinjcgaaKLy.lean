/-
  begun: two versions stand beside one another.
-/
import Derived.Test.YteimjkicinjcgaaKLx

namespace Go.Proofs.Yteimjkicinjcgaa.Ck.Y.L
open Go.RowKit Go.Maps Go.Lib

def nm1 : List UInt8 := [110, 101, 119]
def nm2 : List UInt8 := [111, 108, 100]
def vb1 : VC := ⟨6, 1, 1, [], Cd.bvs nm1⟩
def vb2 : VC := ⟨5, 2, 1, [], Cd.bvs nm2⟩
theorem headC_nil {S : List VC} (h : ∀ c ∈ S, c.ns = []) {x : VC} (hx : x.sq = 1) : headC S x = true := by
  unfold headC seenB
  rw [List.all_eq_true]
  intro c hc
  rw [h c hc, hx]
  simp [Vc.atZ, Vc.atOf]
theorem beg_hd : IsHd [vb1, vb2] [vb2, vb1] := by
  refine ⟨?_, fun x => ?_⟩
  · simp only [List.pairwise_cons, List.mem_cons, List.not_mem_nil, or_false, forall_eq, false_implies, implies_true, List.Pairwise.nil, and_true]
    show lessB 5 2 6 1 = true
    rfl
  · have hh : ∀ x ∈ [vb1, vb2], headC [vb1, vb2] x = true := fun x hx => headC_nil (fun c hc => by
      simp only [List.mem_cons, List.not_mem_nil, or_false] at hc
      rcases hc with rfl | rfl <;> rfl) (by
      simp only [List.mem_cons, List.not_mem_nil, or_false] at hx
      rcases hx with rfl | rfl <;> rfl)
    constructor
    · intro hx
      have : x ∈ [vb1, vb2] := by
        simp only [List.mem_cons, List.not_mem_nil, or_false] at hx ⊢
        exact hx.symm
      exact ⟨this, hh x this⟩
    · rintro ⟨hx, _⟩
      simp only [List.mem_cons, List.not_mem_nil, or_false] at hx ⊢
      exact hx.symm
theorem beg_sq : ∀ x ∈ [vb1, vb2], 1 ≤ x.sq := by
  intro x hx
  simp only [List.mem_cons, List.not_mem_nil, or_false] at hx
  rcases hx with rfl | rfl <;> decide
def ob (t n : Int) (gb cc l : Nat) : OG := ⟨t, n, 1, 4, 1, 9, 0, 0, ⟨#[]⟩, some ⟨gb, 0, none⟩, l, cc, none, 0, 0⟩
theorem ob_may1 (gb cc : Nat) : mayW (ob 6 1 gb cc 3) [] = true := by show Cd.mayO 6 1 1 4 1 9 0 0 [] 3 [] = true; decide +kernel
theorem ob_may2 (gb cc : Nat) : mayW (ob 5 2 gb cc 3) [] = true := by show Cd.mayO 5 2 1 4 1 9 0 0 [] 3 [] = true; decide +kernel
/-- Add of such a write. -/
theorem add_lit {F : Nat → Prop} {w0 w : World} {fb : Nat} {S : List VC} (hf : FileS F w0 fb S) (hb : Below w0.heap.size w0 w) {t n : Int} {gb cc : Nat} {nm : List UInt8} (hl : nm.length = 3) (hw : WIn w (ob t n gb cc nm.length) [] (Cd.bvs nm)) (hg : w0.heap.size ≤ gb) (hm : mayW (ob t n gb cc 3) [] = true) (hq : (t, n) ∉ S.map VC.key) (hS : S.length < 800) :
    Calls Try.prog 10 #[.pointer (some ⟨fb, 0, none⟩), opgv (ob t n gb cc nm.length)] w fun e w' => e = .returned (.int .i64 0) ∧ ∃ F', FileS F' w' fb (S ++ [⟨t, n, 1, [], Cd.bvs nm⟩]) ∧ Only F w w' ∧ ∀ b, F' b → F b ∨ w.heap.size ≤ b := by
  have hlt := hf.lt
  refine (add_new (hf.below hb) hw rfl (by rw [hl]; exact hm) hq hS (fun W hW => hw.kept hW (fun b k e => by cases e) (fun b k e hF => ?_))).mono ?_
  · have : gb = b := by have := congrArg (fun a => a.map Addr.block) e; simpa [ob] using this
    have := hlt b hF
    omega
  · rintro e w' ⟨rfl, F', h1, h2, h3⟩
    exact ⟨rfl, F', h1, h3, h2⟩

theorem beg_str : Cd.strOf (lastC [vb2, vb1]) = ⟨#[110, 101, 119]⟩ := by decide +kernel
theorem beg_size {F : Nat → Prop} {w : World} {fb : Nat} (h : FileS F w fb [vb1, vb2]) : Calls Try.prog 16 #[.pointer (some ⟨fb, 0, none⟩)] w fun e w' => e = .returned (.int .i64 3) ∧ Below w.heap.size w w' := fsize h beg_sq beg_hd
theorem beg_len {F : Nat → Prop} {w : World} {fb : Nat} (h : FileS F w fb [vb1, vb2]) : Calls Try.prog 17 #[.pointer (some ⟨fb, 0, none⟩)] w fun e w' => e = .returned (.int .i64 2) ∧ Below w.heap.size w w' := len_any h

theorem beg_heads {F : Nat → Prop} {w : World} {fb : Nat} (h : FileS F w fb [vb1, vb2]) : Calls Try.prog 14 #[.pointer (some ⟨fb, 0, none⟩)] w fun e w' => ∃ p c, e = .returned (.slice p 2 c) ∧ Below w.heap.size w w' := by
  refine (fheads h beg_sq beg_hd).mono ?_
  rintro e w' ⟨v, M, rfl, hr, hm, _, hb⟩
  obtain ⟨p, c, rfl, _⟩ := hr.shape
  have hM : M.length = 2 := by
    have := congrArg List.length hm
    rw [List.length_map] at this
    exact this
  rw [hM]
  exact ⟨p, c, rfl, hb⟩
theorem beg_value {F : Nat → Prop} {w : World} {fb : Nat} (h : FileS F w fb [vb1, vb2]) : Calls Try.prog 15 #[.pointer (some ⟨fb, 0, none⟩)] w fun e w' => ∃ p c, e = .returned (.slice p 3 c) ∧ (convert 31 9 (.slice p 3 c)).run Try.prog w' = .ok (.string ⟨#[110, 101, 119]⟩) w' ∧ Below w.heap.size w w' := by
  refine (fvalue h beg_sq beg_hd).mono ?_
  rintro e w' ⟨v, rfl, ho, hb⟩
  obtain ⟨_, p, c, rfl, _, hby, _⟩ := Cd.owns_bytes ho
  have hcv := Cd.run_str w' p (lastC [vb2, vb1]) c hby
  rw [beg_str] at hcv
  exact ⟨p, c, rfl, hcv, hb⟩

set_option maxRecDepth 8000 in
set_option maxHeartbeats 4000000 in
theorem begun_any (w : World) : Calls Try.prog 7 #[] w fun e w' => e = .returned (.bool true) ∧ Below w.heap.size w w' := by
  obtain ⟨fb, hfb⟩ : ∃ fb, w.heap.size = fb := ⟨_, rfl⟩
  have c1 := new_any w
  rw [hfb] at c1
  have HN : Hid (w.heap.size = fb) := hfb
  have tok1 : True := trivial
  have tok2 : True := trivial
  have tok3 : True := trivial
  have tok4 : True := trivial
  clear hfb
  go_enter Try.func7, Try.ntmps7
  go_wp2_with (first
    | (go_at_call 8; refine c1.mono ?_; clear c1; rintro e w1 ⟨rfl, hb1, hf1⟩; have H1 : Hid (FileS (fun b => b = fb) w1 fb [] ∧ Below w.heap.size w w1) := ⟨hf1, by rw [HN.out]; exact hb1⟩; clear hb1 hf1)
    | (go_at_call 24; have tk := tok1; clear tok1; refine (lit_any 6 1 nm1 w1 (by decide)).mono ?_; clear tk; rintro e w2 ⟨g1, k1, rfl, hw2, hg1, hb2⟩; have H2 : Hid (WIn w2 (ob 6 1 g1 k1 nm1.length) [] (Cd.bvs nm1) ∧ w1.heap.size ≤ g1 ∧ Below w1.heap.size w1 w2) := ⟨hw2, hg1, hb2⟩; clear hw2 hg1 hb2)
    | (go_at_call 10; have tk := tok2; clear tok2; refine (add_lit H1.out.1 H2.out.2.2 (nm := nm1) rfl H2.out.1 H2.out.2.1 (ob_may1 _ _) (by simp) (by simp)).mono ?_; clear tk; rintro e w3 ⟨rfl, F3, hf3, ho3, hF3⟩; have H3 : Hid (FileS F3 w3 fb [vb1] ∧ Only (fun b => b = fb) w2 w3 ∧ ∀ b, F3 b → b = fb ∨ w2.heap.size ≤ b) := ⟨hf3, ho3, hF3⟩; clear hf3 ho3 hF3)
    | (go_at_call 24; have tk := tok3; clear tok3; refine (lit_any 5 2 nm2 w3 (by decide)).mono ?_; clear tk; rintro e w4 ⟨g4, k4, rfl, hw4, hg4, hb4⟩; have H4 : Hid (WIn w4 (ob 5 2 g4 k4 nm2.length) [] (Cd.bvs nm2) ∧ w3.heap.size ≤ g4 ∧ Below w3.heap.size w3 w4) := ⟨hw4, hg4, hb4⟩; clear hw4 hg4 hb4)
    | (go_at_call 10; have tk := tok4; clear tok4; refine (add_lit H3.out.1 H4.out.2.2 (nm := nm2) rfl H4.out.1 H4.out.2.1 (ob_may2 _ _) (by simp [vb1, VC.key]) (by simp)).mono ?_; clear tk; rintro e w5 ⟨rfl, F5, hf5, ho5, hF5⟩; have H5 : Hid (FileS F5 w5 fb [vb1, vb2] ∧ Only F3 w4 w5 ∧ ∀ b, F5 b → F3 b ∨ w4.heap.size ≤ b) := ⟨hf5, ho5, hF5⟩; clear hf5 ho5 hF5)
    | (go_at_call 14; refine (beg_heads H5.out.1).mono ?_; rintro e w6 ⟨p6, c6, rfl, hb6⟩; have H6 : Hid (Below w5.heap.size w5 w6) := hb6; clear hb6)
    | (go_at_call 15; refine (beg_value (H5.out.1.below H6.out)).mono ?_; rintro e w7 ⟨p7, c7, rfl, hcv, hb7⟩; have H7 : Hid (Below w5.heap.size w5 w7) := below_thenH H6.out hb7; clear hb7)
    | (go_at_call 16; refine Calls_new (beg_size (H5.out.1.below H7.out)) ?_; intro w8 HB8)
    | (go_at_call 17; refine Calls_new (beg_len (H5.out.1.below (below_thenH H7.out HB8.out))) ?_; intro w9 HB9))
  go_ret
  refine ⟨by first | rfl | (simp; done), ?_⟩
  have b3 : Below w.heap.size w w2 := below_thenH H1.out.2 H2.out.2.2
  have hF3 : ∀ b, F3 b → w.heap.size ≤ b := fun b hb => by
    have := HN.out
    rcases H3.out.2.2 b hb with e | e
    · omega
    · have := b3.size; omega
  have b4 : Below w.heap.size w w4 := (b3.trans (H3.out.2.1.below b3.size (fun b e => by have : b = fb := e; have := HN.out; omega))).trans (H4.out.2.2.mono (by have := b3.size; have := H3.out.2.1.size; omega))
  exact below_thenH (b4.trans (H5.out.2.1.below b4.size hF3)) (below_thenH H7.out (below_thenH HB8.out HB9.out))

end Go.Proofs.Yteimjkicinjcgaa.Ck.Y.L
