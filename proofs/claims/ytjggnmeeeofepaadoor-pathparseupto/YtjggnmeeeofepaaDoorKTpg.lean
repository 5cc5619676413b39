/-
  What PathParse and PathLong begin with.
-/
import Derived.Test.YtjggnmeeeofepaaDoorKTpf

namespace Go.Proofs.YtjggnmeeeofepaaDoor.Ck.Sh
open Go.RowKit Go.Lib

attribute [local go_sem] Oper.semAt_some

theorem nmE_fine {nm : List UInt8} (h : nameN nm = 0) : nmE nm = 0 := by
  unfold nmE
  split
  · rfl
  · exact h
theorem ab_parse : parseE [47, 97, 47, 98] = 0 := by
  have h : firstE [[97], [98]] = 0 := by
    unfold firstE
    rw [if_pos (nmE_fine (by decide))]
    unfold firstE
    rw [if_pos (nmE_fine (by decide))]
    rfl
  unfold parseE
  rw [if_neg (by decide), if_neg (by decide)]
  exact h
theorem ab_names : nmsOf [47, 97, 47, 98] = [[97], [98]] := by
  unfold nmsOf
  rw [if_pos ab_parse]
  rfl
set_option maxRecDepth 8000 in
set_option maxRecDepth 8000 in
set_option maxHeartbeats 1000000 in
theorem pbegun_any (w : World) (h : Lb w) : Calls Tryd.prog 5 #[] w fun e w' => e = .returned (.bool true) ∧ Below w.heap.size w w' := by
  have cp : Calls Tryd.prog 6 #[.string ⟨#[47, 97, 47, 98]⟩] w fun e w' => ∃ g o c, e = .returned (.tuple #[.slice (some ⟨g, o, none⟩) 2 c, .int .i64 0]) ∧ Nms w' (some ⟨g, o, none⟩) [[97], [98]] ∧ 2 ≤ c ∧ Below w.heap.size w w' :=
    (pparse_any [47, 97, 47, 98] (by decide) w h).mono fun e w' ⟨p, c, he, hn, hc, hb⟩ => by
      rw [ab_names] at hn hc
      rw [ab_names, ab_parse] at he
      obtain ⟨g, o, hp, _⟩ := hn 0 _ rfl
      subst hp
      exact ⟨g, o, c, he, hn, hc, hb⟩
  have cj := fun (g o c : Nat) (hc : 2 ≤ c) W (hW : Nms W (some ⟨g, o, none⟩) [[97], [98]]) => pjoin_any [[97], [98]] (some ⟨g, o, none⟩) c hc (by decide) (by decide) W hW
  have ca := fun (g o c : Nat) (hc : 2 ≤ c) W (hW : Nms W (some ⟨g, o, none⟩) [[97], [98]]) => above_any [[97]] [[97], [98]] (some ⟨g, o, none⟩) (some ⟨g, o, none⟩) c c (by decide) hc W (hW.take 1) hW
  have cf := fun (g o c : Nat) W (hW : Nms W (some ⟨g, o, none⟩) [[97], [98]]) => fresh_any [[97], [98]] (by decide) (by decide) (some ⟨g, o, none⟩) c W hW
  have e1 : pathL [[97], [98]] = [47, 97, 47, 98] := rfl
  have e2 : aboveB [[97]] [[97], [98]] = true := rfl
  have e3 : freshE [[97], [98]] = 0 := by decide
  rw [e1] at cj
  rw [e2] at ca
  rw [e3] at cf
  have e4 : bas [47, 97, 47, 98] = ⟨#[47, 97, 47, 98]⟩ := rfl
  rw [e4] at cj
  have e5 : bas [98] = ⟨#[98]⟩ := rfl
  have l1 : ([[97]] : List (List UInt8)).length = 1 := rfl
  have l2 : ([[97], [98]] : List (List UInt8)).length = 2 := rfl
  rw [l2] at cj cf
  rw [l1, l2] at ca
  clear e1 e2 e3 l1 l2 h
  go_enter Tryd.func5, Tryd.ntmps5
  go_wp2_with (first
    | (go_at_call 6
       refine cp.mono ?_
       rintro e w1 ⟨g, o, c, rfl, hn, hc, hb1⟩
       have N1 := Lib.hid hn
       have C1 := Lib.hid hc
       have b1 := Lib.hid hb1
       have x1 := hn.at (j := 1) rfl
       have hcI : (1 : Int) ≤ (c : Int) := by omega
       rw [e5] at x1
       clear hn hc hb1 cp)
    | (go_at_call 8
       refine (cj g o c C1.out _ N1.out).mono ?_
       rintro e w2 ⟨rfl, hb2⟩
       have N2 := Lib.hid (N1.out.below hb2)
       have b2 := Lib.hid (below_then b1.out hb2)
       clear hb2 cj)
    | (go_at_call 12
       refine (ca g o c C1.out _ N2.out).mono ?_
       rintro e w3 ⟨rfl, hb3⟩
       have N3 := Lib.hid (N2.out.below hb3)
       have b3 := Lib.hid (below_then b2.out hb3)
       clear hb3 ca)
    | (go_at_call 10
       refine Calls_on (cf g o c _ N3.out) ?_))
  go_ret
  exact ⟨rfl, b3.out⟩

end Go.Proofs.YtjggnmeeeofepaaDoor.Ck.Sh
