import Derived.Test.YtgpbphjplbhfmaaGreatKPtc

namespace Go.Proofs.YtgpbphjplbhfmaaGreat.Ck.Y.S
open Go.RowKit Go.Lib Go.Maps
attribute [local go_sem] Oper.semAt_some
theorem TJ.same {u u0 w : World} {F0 : Nat → Prop} {gt base : Nat} {l os : List OG} {v : Value} (h : TJ u F0 gt l w) (hs : Srt l os) (htk : Taken u0 os) (hr : RowG u base v os) (hn : ∀ g, v.ownBlock = some g → ¬ F0 g) (hl : os.length ≤ 400) :
    Calls Tryz.prog 10 #[.pointer (some ⟨gt, 0, none⟩), v] w fun e w' => e = .returned (.bool true) ∧ TJ u F0 gt l w' := by
  have hrw := h.row hr hn
  obtain ⟨F, h1, h2, h3⟩ := h
  refine (same_law h1 hs htk hrw (fun g hg hF => ?_) hl).mono ?_
  · obtain ⟨cs, hc, _⟩ := hr.tag hg
    rcases h2 g hF with e | e
    · exact hn g hg e
    · have := block_lt hc; omega
  · rintro e w' ⟨he, F', k1, k2, k3⟩
    refine ⟨he, F', k1, fun b hb => ?_, h3.trans k3 h2⟩
    rcases k2 b hb with e | e
    · exact h2 b e
    · have := h3.size; exact .inr (by omega)
end Go.Proofs.YtgpbphjplbhfmaaGreat.Ck.Y.S
