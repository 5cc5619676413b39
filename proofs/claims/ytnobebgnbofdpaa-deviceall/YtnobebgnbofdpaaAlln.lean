/-
  The law DeviceAll where there are no devices.
-/
import Derived.Test.YtnobebgnbofdpaaCrashb
import Derived.Test.YtnobebgnbofdpaaSame
namespace Go.Proofs.Ytnobebgnbofdpaa
open Go.RowKit Go.Maps Go.Sort Go.Shelf

theorem row_set9 {W : World} {g k : Nat} {ys : List Int} {v : Int} (h : W.heap[g]? = some (.cells (ys.map u8).toArray 5 (0, 0))) :
    (W.setCell ⟨g, k, none⟩ (.int .u8 v)).heap[g]? = some (.cells ((ys.set k v).map u8).toArray 5 (0, 0)) := by
  simp [World.setCell, Array.getElem?_modify, h, List.map_set, u8]

/-- What is known of the k-th of the operations that came in. -/
def OpAt (w : World) (ob oo k : Nat) : Prop :=
  ∃ (kind ii nn : Int) (bp : Option Addr) (bc : Nat) (bs : List Int) (kp : Option Addr) (kc : Nat) (ks : List Bool),
    w.cell? ⟨ob, oo + k * 5, none⟩ = some (.int .i64 kind) ∧ w.cell? ⟨ob, oo + k * 5 + 1, none⟩ = some (.int .i64 ii) ∧ w.cell? ⟨ob, oo + k * 5 + 2, none⟩ = some (.int .i64 nn) ∧
    w.cell? ⟨ob, oo + k * 5 + 3, none⟩ = some (.slice bp bs.length bc) ∧ w.cell? ⟨ob, oo + k * 5 + 4, none⟩ = some (.slice kp ks.length kc) ∧ nn ≤ 9223372036854775807 ∧
    bs.length < 9223372036854775808 ∧ (0 < bs.length → ∃ bb bo, bp = some ⟨bb, bo, none⟩ ∧ ∀ j x, bs[j]? = some x → w.cell? ⟨bb, bo + j, none⟩ = some (.int .u8 x)) ∧
    ks.length < 9223372036854775808 ∧ (0 < ks.length → ∃ kb ko, kp = some ⟨kb, ko, none⟩ ∧ ∀ j x, ks[j]? = some x → w.cell? ⟨kb, ko + j, none⟩ = some (.bool x))

set_option maxHeartbeats 1000000 in
theorem all_nil (nb : Int) (op : Option Addr) (ol oc : Nat) (w : World) (h : nb < 1 ∨ 65536 < nb ∨ (30 < nb ∧ nb ≤ 65536 ∧ nb % 31 = 0)) :
    Calls Try.prog 3 #[.int .i64 nb, .slice op ol oc] w fun e w' => e = .returned (.bool true) ∧ Below w.heap.size w w' := by
  rcases h with h | h | ⟨h1, h2, h3⟩
  · have h' : ¬ 30 < nb := by omega
    go_enter Try.func3, Try.ntmps3
    go_wp2_with (first
      | (go_at_call 6; refine (begun_any _).mono ?_; rintro e w1 ⟨rfl, hB1⟩)
      | (go_at_call 7; refine Calls_on (new_no _ _ (by omega)) ?_)
      | (go_at_call 8; refine Calls_on (rnew_no _ _ (by omega)) ?_))
    go_loop [6, 8] (fun d ix => d = .pointer none ∧ ix = .int .i64 0) (fun _ _ => 0)
    case atStart => exact ⟨rfl, rfl⟩
    case round =>
      obtain ⟨rfl, rfl⟩ := hrel
      rcases Nat.eq_zero_or_pos ol with rfl | hol
      · go_wp2
        go_ret
        exact ⟨rfl, hB1.alloc hB1.size _⟩
      · have holI : (0 : Int) < ol := by omega
        go_wp2
        go_ret
        exact ⟨rfl, hB1.alloc hB1.size _⟩
  · have h' : 30 < nb := by omega
    have h'' : ¬ nb ≤ 65536 := by omega
    go_enter Try.func3, Try.ntmps3
    go_wp2_with (first
      | (go_at_call 6; refine (begun_any _).mono ?_; rintro e w1 ⟨rfl, hB1⟩)
      | (go_at_call 7; refine Calls_on (new_no _ _ (by omega)) ?_)
      | (go_at_call 8; refine Calls_on (rnew_no _ _ (by omega)) ?_))
    go_loop [6, 8] (fun d ix => d = .pointer none ∧ ix = .int .i64 0) (fun _ _ => 0)
    case atStart => exact ⟨rfl, rfl⟩
    case round =>
      obtain ⟨rfl, rfl⟩ := hrel
      rcases Nat.eq_zero_or_pos ol with rfl | hol
      · go_wp2
        go_ret
        exact ⟨rfl, hB1.alloc hB1.size _⟩
      · have holI : (0 : Int) < ol := by omega
        go_wp2
        go_ret
        exact ⟨rfl, hB1.alloc hB1.size _⟩
  · have h4 : Hid (nb % 31 = 0) := h3
    have h5 : nb % 31 < 1 := by omega
    clear h3
    go_enter Try.func3, Try.ntmps3
    go_wp2_with (first
      | (go_at_call 6; refine (begun_any _).mono ?_; rintro e w1 ⟨rfl, hB1⟩)
      | (go_at_call 7; refine Calls_on (new_no _ _ (by omega)) ?_)
      | (go_at_call 8; refine Calls_on (rnew_no _ _ (by omega)) ?_))
    go_loop [6, 8] (fun d ix => d = .pointer none ∧ ix = .int .i64 0) (fun _ _ => 0)
    case atStart => exact ⟨rfl, rfl⟩
    case round =>
      obtain ⟨rfl, rfl⟩ := hrel
      rcases Nat.eq_zero_or_pos ol with rfl | hol
      · go_wp2
        go_ret
        exact ⟨rfl, hB1.alloc hB1.size _⟩
      · have holI : (0 : Int) < ol := by omega
        go_wp2
        go_ret
        exact ⟨rfl, hB1.alloc hB1.size _⟩

end Go.Proofs.Ytnobebgnbofdpaa
