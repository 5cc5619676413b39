/-
  begun of the law's package: one sum and one frame are told. And Short.
-/
import Derived.Test.YtlmnhnimneimkaaDoorRefu
import Derived.Lib.SlBytesConst
import Derived.Laws.BytesArg
namespace Go.Proofs.YtlmnhnimneimkaaDoor
open Go.RowKit

theorem unframe_any (p : Option Addr) (bs : List (BitVec 8)) (cp : Nat) (w : World) (ht : Tab w) (hlen : bs.length < 1099511627776) (hcap : bs.length ≤ cp) (hb : Bytes w p bs) :
    Calls Tryd.prog 16 #[.slice p bs.length cp] w (Unframed w bs) := by
  by_cases h : bs.length < 8
  · exact unframe_short p bs cp w h
  · obtain ⟨g, o, rfl, _⟩ := hb (by omega)
    exact unframe_long g o bs cp w ht (by omega) hlen hcap hb
theorem runframe_any (p : Option Addr) (bs : List (BitVec 8)) (cp : Nat) (w : World) (hlen : bs.length < 1099511627776) (hcap : bs.length ≤ cp) (hb : Bytes w p bs) :
    Calls Tryd.prog 17 #[.slice p bs.length cp] w (Unframed w bs) := by
  by_cases h : bs.length < 8
  · exact runframe_short p bs cp w h
  · obtain ⟨g, o, rfl, _⟩ := hb (by omega)
    exact runframe_long g o bs cp w (by omega) hlen hcap hb

/-- What was framed is unframed. -/
theorem unf_framed (bs : List (BitVec 8)) (h : bs.length ≤ 1048576) : unf (framed bs) = (bs, 8 + bs.length, 0) := by
  have e0 : (framed bs).length = 8 + bs.length := framed_length bs
  have e1 : (framed bs).take 4 = le4 (BitVec.ofNat 32 bs.length) := rfl
  have e2 : ((framed bs).drop 4).take 4 = le4 (crcSum bs) := rfl
  have e3 : (framed bs).drop 8 = bs := rfl
  have e4 : (BitVec.ofNat 32 bs.length).toNat = bs.length := by rw [BitVec.toNat_ofNat]; exact Nat.mod_eq_of_lt (by omega)
  unfold unf
  rw [e0, e1, e2, e3, leN_le4, leN_le4, e4, if_neg (by omega), if_neg (by omega), List.take_of_length_le (Nat.le_refl _), if_neg (fun h => h rfl)]

/-- The text of some bytes. -/
def strOf (bs : List (BitVec 8)) : ByteArray := strOfNums (bs.map fun b => (b.toNat : Int))

theorem run_str (W : World) (p : Option Addr) (bs : List (BitVec 8)) (c : Nat) (h : Bytes W p bs) :
    (convert 26 9 (.slice p bs.length c)).run Tryd.prog W = .ok (.string (strOf bs)) W := by
  by_cases hl : 0 < bs.length
  · obtain ⟨g, o, rfl, hx⟩ := h hl
    refine run_convert_bytes_arg W 26 5 Tryd.underlying26 Tryd.underlying5 g o bs.length c (bs.map fun b => (b.toNat : Int)) (by simp) (fun i hi => ?_) 9 Tryd.underlying9
    rw [hx i bs[i] (List.getElem?_eq_getElem hi)]
    simp [u8v, hi]
  · have h0 : bs = [] := List.eq_nil_of_length_eq_zero (by omega)
    subst h0
    rcases p with _ | ad
    · exact run_convert_bytes_nil W 26 5 Tryd.underlying26 Tryd.underlying5 0 c 9 Tryd.underlying9
    · have hl0 : (loadCells ad 0).run Tryd.prog W = .ok #[] W := by
        have := run_loadCells_list (P := Tryd.prog) W ad [] (fun j v hj => by simp at hj)
        simpa using this
      show (convert 26 9 (.slice (some ad) 0 c)).run Tryd.prog W = _
      rw [run_convert_bytes_string W 26 9 5 _ 0 c Tryd.underlying26 Tryd.underlying5 Tryd.underlying9]
      simp [Conv.bytesToString, hl0]
      rfl

def abc : List (BitVec 8) := [97#8, 98#8, 99#8]
def nine : List (BitVec 8) := [49#8, 50#8, 51#8, 52#8, 53#8, 54#8, 55#8, 56#8, 57#8]
theorem nine_sum : crcSum nine = 0xcbf43926#32 := by decide +kernel

set_option maxHeartbeats 1000000 in
theorem begun_any (w : World) (ht : Tab w) : Calls Tryd.prog 7 #[] w fun e w' => e = .returned (.bool true) ∧ Below w.heap.size w w' := by
  have kc := fun (w : World) (C : Array Value) (n c : Nat) => Lib.run_convert_bytes_const (P := Tryd.prog) w 26 5 C n c Tryd.underlying26 Tryd.underlying5
  have HT : Hid (Tab w) := ht
  clear ht
  have hB1 : Below w.heap.size w (w.alloc (.cells #[.int .u8 97, .int .u8 98, .int .u8 99] 5 (3, 4))) := (Below.refl _ _).alloc (Nat.le_refl _) _
  have hz1 : (w.alloc (.cells #[.int .u8 97, .int .u8 98, .int .u8 99] 5 (3, 4))).heap.size = w.heap.size + 1 := by simp
  have hbb1 : Bytes (w.alloc (.cells #[.int .u8 97, .int .u8 98, .int .u8 99] 5 (3, 4))) (some ⟨w.heap.size, 0, none⟩) abc := bytes_block (bs := abc) (heap_alloc_new w _)
  have c14 := frame_yes (some ⟨w.heap.size, 0, none⟩) abc 3 _ (below_tab hB1 HT.out.lt HT.out) (by decide) hbb1
  go_enter Tryd.func7, Tryd.ntmps7
  go_wp2_with fail
  refine (show Calls Tryd.prog 14 #[.slice (some ⟨w.heap.size, 0, none⟩) 3 3] _ _ from c14).mono ?_
  rintro e w2 ⟨rfl, hf2, hB2⟩
  clear c14 hbb1
  rw [hz1] at hf2 hB2
  have hB2' : Below w.heap.size w w2 := hB1.trans (hB2.mono (by omega))
  have c16 := unframe_any (some ⟨w.heap.size + 1, 0, none⟩) (framed abc) 11 w2 (below_tab hB2' HT.out.lt HT.out) (by decide) (by decide) (bytes_block hf2)
  clear hf2
  rw [hz1]
  go_wp2_with fail
  refine (show Calls Tryd.prog 16 #[.slice (some ⟨w.heap.size + 1, 0, none⟩) 11 11] _ _ from c16).mono ?_
  rintro e w3 ⟨q, c, rfl, hb3, hB3⟩
  rw [unf_framed abc (by decide)] at hb3 ⊢
  clear c16
  have hB3' : Below w.heap.size w w3 := hB2'.trans (hB3.mono hB2'.size)
  go_wp2_with fail
  refine (new_any w3).mono ?_
  rintro e w4 ⟨rfl, hw4⟩
  have hs4 : IsSum w4 w3.heap.size 0#32 := by rw [hw4]; exact new_sum w3
  have hB4 : Below w3.heap.size w3 w4 := by rw [hw4]; exact (Below.refl _ _).alloc (Nat.le_refl _) _
  have hB4' : Below w.heap.size w w4 := hB3'.trans (hB4.mono hB3'.size)
  have hz4 : w3.heap.size < w4.heap.size := by rw [hw4]; simp
  clear hw4
  -- Add of the nine bytes
  obtain ⟨w5, hw5⟩ : ∃ w5, w5 = w4.alloc (.cells #[.int .u8 49, .int .u8 50, .int .u8 51, .int .u8 52, .int .u8 53, .int .u8 54, .int .u8 55, .int .u8 56, .int .u8 57] 5 (9, 10)) := ⟨_, rfl⟩
  have hB5 : Below w4.heap.size w4 w5 := by rw [hw5]; exact (Below.refl _ _).alloc (Nat.le_refl _) _
  have hB5' : Below w.heap.size w w5 := hB4'.trans (hB5.mono hB4'.size)
  have hs5 : IsSum w5 w3.heap.size 0#32 := (hB5.block _ hz4).trans hs4
  have hb5 : Bytes w5 (some ⟨w4.heap.size, 0, none⟩) nine := by rw [hw5]; exact bytes_block (bs := nine) (heap_alloc_new w4 _)
  have c10 := add_any w3.heap.size 0#32 (some ⟨w4.heap.size, 0, none⟩) nine 9 w5 (below_tab hB5' HT.out.lt HT.out) hs5 (by decide) hb5
  have hadd : (~~~ crcOf (~~~ 0#32) nine : BitVec 32) = 0xcbf43926#32 := by rw [← nine_sum]; rfl
  rw [hadd] at c10
  go_wp2_with fail
  rw [← hw5]
  refine (show Calls Tryd.prog 10 #[.pointer (some ⟨w3.heap.size, 0, none⟩), .slice (some ⟨w4.heap.size, 0, none⟩) 9 9] _ _ from c10).mono ?_
  rintro e w6 ⟨rfl, hw6⟩
  clear c10 hb5 hw5
  have hs6 : IsSum w6 w3.heap.size 0xcbf43926#32 := by rw [hw6]; exact hs5.set _
  have hB6' : Below w.heap.size w w6 := by rw [hw6]; exact hB5'.setCell hB3'.size _
  have hb6 : Bytes w6 q abc := by
    have hb5' : Bytes w5 q abc := below_bytes (hB4.trans (hB5.mono hB4.size)) hb3
    rw [hw6]; exact hs5.bytes hb5' _
  have hz6 : w3.heap.size < w6.heap.size := (Array.getElem?_eq_some_iff.1 hs6).1
  clear hw6 hs5 hs4 hadd
  -- Of the nine bytes
  obtain ⟨w7, hw7⟩ : ∃ w7, w7 = w6.alloc (.cells #[.int .u8 49, .int .u8 50, .int .u8 51, .int .u8 52, .int .u8 53, .int .u8 54, .int .u8 55, .int .u8 56, .int .u8 57] 5 (9, 10)) := ⟨_, rfl⟩
  have hB7 : Below w6.heap.size w6 w7 := by rw [hw7]; exact (Below.refl _ _).alloc (Nat.le_refl _) _
  have hB7' : Below w.heap.size w w7 := hB6'.trans (hB7.mono hB6'.size)
  have hb7 : Bytes w7 (some ⟨w6.heap.size, 0, none⟩) nine := by rw [hw7]; exact bytes_block (bs := nine) (heap_alloc_new w6 _)
  have hz7 : w7.heap.size = w6.heap.size + 1 := by rw [hw7]; simp
  have c13 := of_one (some ⟨w6.heap.size, 0, none⟩) nine 9 w7 (w7.alloc (.cells #[.slice (some ⟨w6.heap.size, 0, none⟩) 9 9] 26)) (below_tab hB7' HT.out.lt HT.out) (by decide) hb7 ((Below.refl _ _).alloc (Nat.le_refl _) _) (by simp) (heap_alloc_new w7 _)
  rw [nine_sum] at c13
  have habc : abc.length = 3 := rfl
  have HB6 : Hid (Below w.heap.size w w6) := hB6'
  have HB7 : Hid (Below w6.heap.size w6 w7) := hB7
  have HB7' : Hid (Below w.heap.size w w7) := hB7'
  have HS6 : Hid (IsSum w6 w3.heap.size 0xcbf43926#32) := hs6
  have HBB : Hid (Bytes w6 q abc) := hb6
  have HZ6 : Hid (w3.heap.size < w6.heap.size) := hz6
  rw [hz7] at c13
  clear hB7 hB7' hB6' hb7 hz7 hs6 hb6 hz6 hB5 hB5' hB4 hB4' hz4 hB3 hB3' hB2 hB2' hb3 hB1 hz1
  go_wp2_with fail
  rw [← hw7]
  refine c13.mono ?_
  rintro e w8 ⟨rfl, hB8⟩
  clear c13 kc
  have hz67 : w6.heap.size + 1 = w7.heap.size := by rw [hw7]; simp
  rw [hz67] at hB8
  have hB68 : Below w6.heap.size w6 w8 := HB7.out.trans (hB8.mono HB7.out.size)
  have c11 := value_any w3.heap.size 0xcbf43926#32 w8 (by rw [hB68.cell (p := ⟨w3.heap.size, 0, none⟩) HZ6.out]; exact cellOf HS6.out 0)
  have hstr := run_str w8 q abc c (below_bytes hB68 HBB.out)
  rw [habc, show strOf abc = ⟨#[97, 98, 99]⟩ from rfl] at hstr
  have HB8 : Hid (Below w.heap.size w w8) := HB7'.out.trans (hB8.mono HB7'.out.size)
  clear hB8 hB68 hz67 hw7
  go_wp2_with (go_at_call 11; refine Calls_on c11 ?_)
  go_ret
  exact ⟨rfl, HB8.out⟩

set_option maxHeartbeats 400000 in
theorem short_le (p : Option Addr) (l c : Nat) (n : Nat) (w : World) (h : l ≤ n) :
    Calls Tryd.prog 9 #[.slice p l c, .int .i64 n] w fun e w' => e = .returned (.slice p l c) ∧ w' = w := by
  have hI : ¬ (n : Int) < l := by omega
  go_enter Tryd.func9, Tryd.ntmps9
  go_wp2
  go_ret
  exact ⟨rfl, rfl⟩

set_option maxHeartbeats 400000 in
theorem short_gt (g o : Nat) (l c : Nat) (n : Nat) (w : World) (h : n < l) (hn : n < 1000000) (hc : l ≤ c) :
    Calls Tryd.prog 9 #[.slice (some ⟨g, o, none⟩) l c, .int .i64 n] w fun e w' => e = .returned (.slice (some ⟨g, o, none⟩) n c) ∧ w' = w := by
  have hI : (n : Int) < l := by omega
  go_enter Tryd.func9, Tryd.ntmps9
  go_wp2
  go_ret
  exact ⟨rfl, rfl⟩

end Go.Proofs.YtlmnhnimneimkaaDoor
