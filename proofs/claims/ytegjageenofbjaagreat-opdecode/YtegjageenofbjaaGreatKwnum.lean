/-
  A writer's numbers: number, Num, time, node, count.
-/
import Derived.Test.YtegjageenofbjaaGreatKbase
namespace Go.Proofs.YtegjageenofbjaaGreat.Cd
open Go.RowKit

set_option maxRecDepth 8000 in
set_option maxHeartbeats 400000 in
theorem newWriter_any (w : World) :
    Calls Tryz.prog 34 #[] w fun e w' => e = .returned (.pointer (some ⟨w.heap.size, 0, none⟩)) ∧ w' = w.alloc (.cells #[.slice none 0 0, .bool false] 79) := by
  go_enter Tryz.func34, Tryz.ntmps34
  go_wp2
  go_ret
  exact ⟨rfl, rfl⟩
theorem newWriter_wr (w : World) : Wr (w.alloc (.cells #[.slice none 0 0, .bool false] 79)) w.heap.size (some []) :=
  ⟨_, heap_alloc_new w _, World.ownsRow_nil _ _ _ _⟩

set_option maxRecDepth 8000 in
set_option maxHeartbeats 400000 in
theorem wbad_nil (w : World) : Calls Tryz.prog 67 #[.pointer none] w fun e w' => e = .returned (.bool true) ∧ w' = w := by
  go_enter Tryz.func67, Tryz.ntmps67
  go_wp2
  go_ret
  exact ⟨rfl, rfl⟩
set_option maxRecDepth 8000 in
set_option maxHeartbeats 400000 in
theorem wbad_any (a : Nat) (s : St) (w : World) (h : Wr w a s) : Calls Tryz.prog 67 #[.pointer (some ⟨a, 0, none⟩)] w fun e w' => e = .returned (.bool s.isNone) ∧ w' = w := by
  obtain ⟨v, hv⟩ := h
  have h1 : w.cell? ⟨a, 1, none⟩ = some (.bool s.isNone) := cellOf hv.blk 1
  clear hv
  go_enter Tryz.func67, Tryz.ntmps67
  go_wp2
  go_ret
  exact ⟨rfl, rfl⟩

set_option maxRecDepth 8000 in
set_option maxHeartbeats 400000 in
theorem wspoil_nil (w : World) : Calls Tryz.prog 69 #[.pointer none] w fun e w' => e = .returned (.tuple #[]) ∧ w' = w := by
  go_enter Tryz.func69, Tryz.ntmps69
  go_wp2
  go_end0
  exact ⟨rfl, rfl⟩
set_option maxRecDepth 8000 in
set_option maxHeartbeats 400000 in
theorem wspoil_any (a : Nat) (s : St) (w : World) (h : Wr w a s) : Calls Tryz.prog 69 #[.pointer (some ⟨a, 0, none⟩)] w fun e w' => e = .returned (.tuple #[]) ∧ Wr w' a none ∧ Step w w' a := by
  obtain ⟨v, hv⟩ := h
  have h0 : w.cell? ⟨a, 0, none⟩ = some v := cellOf hv.blk 0
  have h1 : w.cell? ⟨a, 1, none⟩ = some (.bool s.isNone) := cellOf hv.blk 1
  have f0 := frozenOf hv.blk 0
  have f1 := frozenOf hv.blk 1
  have HV : Hid (WrAt w a v s) := hv
  clear hv
  go_enter Tryz.func69, Tryz.ntmps69
  go_wp2
  go_end0
  obtain ⟨k1, k2⟩ := HV.out.spoilt
  exact ⟨rfl, ⟨_, k1⟩, k2⟩

/-- A number is written. -/
def wnum (n most : Int) (s : St) : St := if 0 ≤ n ∧ n ≤ most then s.map (· ++ numB n.toNat) else none

set_option maxRecDepth 8000 in
set_option maxHeartbeats 400000 in
theorem number_nil (n most : Int) (w : World) : Calls Tryz.prog 63 #[.pointer none, .int .i64 n, .int .i64 most] w fun e w' => e = .returned (.tuple #[]) ∧ w' = w := by
  by_cases h0 : n < 0
  · go_enter Tryz.func63, Tryz.ntmps63
    go_wp2_with (first | (go_at_call 69; refine Calls_on (wspoil_nil _) ?_) | (go_at_call 67; refine Calls_on (wbad_nil _) ?_))
    refine bodyPost_ret (results_none rfl _ _ _) rfl ?_
    exact ⟨rfl, rfl⟩
  · by_cases h1 : most < n
    · go_enter Tryz.func63, Tryz.ntmps63
      go_wp2_with (first | (go_at_call 69; refine Calls_on (wspoil_nil _) ?_) | (go_at_call 67; refine Calls_on (wbad_nil _) ?_))
      refine bodyPost_ret (results_none rfl _ _ _) rfl ?_
      exact ⟨rfl, rfl⟩
    · go_enter Tryz.func63, Tryz.ntmps63
      go_wp2_with (first | (go_at_call 69; refine Calls_on (wspoil_nil _) ?_) | (go_at_call 67; refine Calls_on (wbad_nil _) ?_))
      refine bodyPost_ret (results_none rfl _ _ _) rfl ?_
      exact ⟨rfl, rfl⟩

set_option maxRecDepth 8000 in
set_option maxHeartbeats 400000 in
theorem number_out (n most : Int) (a : Nat) (s : St) (w : World) (h : Wr w a s) (hn : ¬ (0 ≤ n ∧ n ≤ most)) :
    Calls Tryz.prog 63 #[.pointer (some ⟨a, 0, none⟩), .int .i64 n, .int .i64 most] w fun e w' => e = .returned (.tuple #[]) ∧ Wr w' a none ∧ Step w w' a := by
  have c47 := wspoil_any a s w h
  by_cases h0 : n < 0
  · clear hn
    go_enter Tryz.func63, Tryz.ntmps63
    go_wp2_with fail
    refine c47.mono ?_
    rintro e w1 ⟨rfl, h1, h2⟩
    have c31 := wbad_any a none w1 h1
    clear c47
    go_wp2_with (go_at_call 67; refine Calls_on c31 ?_)
    refine bodyPost_ret (results_none rfl _ _ _) rfl ?_
    exact ⟨rfl, h1, h2⟩
  · have h3 : most < n := by omega
    clear hn
    go_enter Tryz.func63, Tryz.ntmps63
    go_wp2_with fail
    refine c47.mono ?_
    rintro e w1 ⟨rfl, h1, h2⟩
    have c31 := wbad_any a none w1 h1
    clear c47
    go_wp2_with (go_at_call 67; refine Calls_on c31 ?_)
    refine bodyPost_ret (results_none rfl _ _ _) rfl ?_
    exact ⟨rfl, h1, h2⟩

set_option maxRecDepth 8000 in
set_option maxHeartbeats 400000 in
theorem number_bad (n most : Int) (a : Nat) (w : World) (h : Wr w a none) (h0 : ¬ n < 0) (h1 : ¬ most < n) :
    Calls Tryz.prog 63 #[.pointer (some ⟨a, 0, none⟩), .int .i64 n, .int .i64 most] w fun e w' => e = .returned (.tuple #[]) ∧ w' = w := by
  have c31 := wbad_any a none w h
  go_enter Tryz.func63, Tryz.ntmps63
  go_wp2_with (go_at_call 67; refine Calls_on c31 ?_)
  refine bodyPost_ret (results_none rfl _ _ _) rfl ?_
  exact ⟨rfl, rfl⟩

end Go.Proofs.YtegjageenofbjaaGreat.Cd
