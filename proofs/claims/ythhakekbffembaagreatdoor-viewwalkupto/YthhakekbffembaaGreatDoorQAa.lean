import Derived.Test.YthhakekbffembaaGreatDoorKNcmp
import Derived.Test.YthhakekbffembaaGreatDoorKZr
import Derived.Lib.Strings
import Derived.Lib.Bytealg
import Derived.Lib.Walk
import Derived.Lib.UnsafeStr
import Derived.Laws.MakeOwn
import Derived.Laws.Externs
import Derived.Lib.ItoaNum
import Derived.Lib.ItoaMem
import Derived.Lib.ItoaLen
import Derived.Lib.AtoiAll
import Derived.Lib.ParseIntB
import Derived.Lib.IndexMore
import Derived.Lib.IndexBytes

namespace Go.Proofs.YthhakekbffembaaGreatDoor.Ck.Sh
open Go.RowKit
attribute [local go_sem] Oper.semAt_some
def bas (l : List UInt8) : ByteArray := ⟨l.toArray⟩
theorem bas_data (l : List UInt8) : (bas l).data.toList = l := rfl
theorem bas_toList (l : List UInt8) : (bas l).toList = l := by rw [Lib.toList_data, bas_data]
theorem bas_of (s : ByteArray) : bas s.data.toList = s := Lib.mk_data s
theorem bas_size (l : List UInt8) : (bas l).size = l.length := by rw [Lib.size_eq, bas_data]
theorem bas_inj {a b : List UInt8} (h : bas a = bas b) : a = b := by rw [← bas_data a, h, bas_data]
set_option maxRecDepth 8000 in
set_option maxHeartbeats 1000000 in
theorem lindex_any (s : ByteArray) (c : Int) (w : World) : Calls Tryz.prog 207 #[.string s, .int .u8 c] w fun e w' => e = .returned (.int .i64 (Lib.indexByte s.data.toList c.toNat.toUInt8)) ∧ w' = w := by
 go_enter Tryz.func207, Tryz.ntmps207
 go_wp2
 rw [run_callFunc_extern Tryz.func222 (by kernel_rfl) (by kernel_rfl) (by kernel_rfl) (e := Extern.BytealgIndexByte.indexByte) (by kernel_rfl), Lib.run_indexByteString]
 simp only [Result.andThen]
 rw [Oper.upon_value]
 go_wp2
 go_ret
 exact ⟨rfl, rfl⟩
set_option maxRecDepth 8000 in
set_option maxHeartbeats 1000000 in
theorem index_any (s : ByteArray) (c : Int) (w : World) : Calls Tryz.prog 197 #[.string s, .int .u8 c] w fun e w' => e = .returned (.int .i64 (Lib.indexByte s.data.toList c.toNat.toUInt8)) ∧ w' = w := by
 have h := lindex_any s c w
 go_enter Tryz.func197, Tryz.ntmps197
 go_wp2_with (go_at_call 207; refine Calls_on h ?_)
 go_ret
 exact ⟨rfl, rfl⟩
theorem index_neg {l : List UInt8} {c : UInt8} : 0 ≤ Lib.indexByte l c ↔ c ∈ l := by
 induction l with
 | nil => simp [Lib.indexByte]
 | cons x l ih =>
   unfold Lib.indexByte
   have := Lib.indexByte_ge l c
   by_cases h : x = c
   · subst h; simp
   · have h' : ¬ c = x := fun e => h e.symm
     simp only [beq_iff_eq, h, if_false, List.mem_cons, h', false_or, ← ih]
     split <;> omega
def fineN (s : List UInt8) : Int :=
 if s = [] ∨ s = [46] ∨ s = [46, 46] then 22 else if 0 ∈ s ∨ 47 ∈ s then 22 else if 64 < s.length then 36 else 0
def nameN (s : List UInt8) : Int := if (1 : UInt8) ∈ s then 22 else fineN s
def wrongB (s : List UInt8) : Bool := decide (0 ∈ s) || decide (1 ∈ s) || decide (47 ∈ s)
theorem nameN_def (s : List UInt8) : nameN s = if s = [] ∨ s = [46] ∨ s = [46, 46] then 22 else if wrongB s = true then 22 else if 64 < s.length then 36 else 0 := by
 unfold nameN fineN wrongB
 simp only [Bool.or_eq_true, decide_eq_true_eq]
 by_cases h1 : (1 : UInt8) ∈ s
 · simp only [h1, if_true, or_true, true_or]
   split <;> rfl
 · simp only [h1, if_false, or_false]
set_option maxRecDepth 8000 in
set_option maxHeartbeats 1000000 in
theorem wrong_any (l : List UInt8) (w : World) : Calls Tryz.prog 163 #[.string (bas l)] w fun e w' => e = .returned (.bool (wrongB l)) ∧ w' = w := by
 have i0 := index_any (bas l) 0 w
 have i1 := index_any (bas l) 1 w
 have i2 := index_any (bas l) 47 w
 rw [bas_data] at i0 i1 i2
 obtain ⟨x0, hx0⟩ : ∃ x, Lib.indexByte l (0 : Int).toNat.toUInt8 = x := ⟨_, rfl⟩
 obtain ⟨x1, hx1⟩ : ∃ x, Lib.indexByte l (1 : Int).toNat.toUInt8 = x := ⟨_, rfl⟩
 obtain ⟨x2, hx2⟩ : ∃ x, Lib.indexByte l (47 : Int).toNat.toUInt8 = x := ⟨_, rfl⟩
 rw [hx0] at i0
 rw [hx1] at i1
 rw [hx2] at i2
 have k0 : 0 ≤ x0 ↔ (0 : UInt8) ∈ l := by rw [← hx0]; exact index_neg
 have k1 : 0 ≤ x1 ↔ (1 : UInt8) ∈ l := by rw [← hx1]; exact index_neg
 have k2 : 0 ≤ x2 ↔ (47 : UInt8) ∈ l := by rw [← hx2]; exact index_neg
 clear hx0 hx1 hx2
 have HW : Hid (wrongB l = (decide (0 ≤ x0) || decide (0 ≤ x1) || decide (0 ≤ x2))) := by
   show _ = _
   unfold wrongB
   simp only [k0, k1, k2]
 clear k0 k1 k2
 by_cases h0 : 0 ≤ x0
 · go_enter Tryz.func163, Tryz.ntmps163
   go_wp2_with (first | (go_at_call 197; refine Calls_on i0 ?_; clear i0) | (go_at_call 197; refine Calls_on i1 ?_; clear i1) | (go_at_call 197; refine Calls_on i2 ?_; clear i2))
   go_ret
   rw [HW.out]
   exact ⟨by simp [h0], rfl⟩
 by_cases h1 : 0 ≤ x1
 · go_enter Tryz.func163, Tryz.ntmps163
   go_wp2_with (first | (go_at_call 197; refine Calls_on i0 ?_; clear i0) | (go_at_call 197; refine Calls_on i1 ?_; clear i1) | (go_at_call 197; refine Calls_on i2 ?_; clear i2))
   go_ret
   rw [HW.out]
   exact ⟨by first | (simp; done) | (simp; omega), rfl⟩
 go_enter Tryz.func163, Tryz.ntmps163
 go_wp2_with (first | (go_at_call 197; refine Calls_on i0 ?_; clear i0) | (go_at_call 197; refine Calls_on i1 ?_; clear i1) | (go_at_call 197; refine Calls_on i2 ?_; clear i2))
 go_ret
 rw [HW.out]
 exact ⟨by first | (simp; done) | (simp; omega), rfl⟩
set_option maxRecDepth 8000 in
set_option maxHeartbeats 1000000 in
theorem name_any (l : List UInt8) (w : World) (hs : l.length < 1000000000000000) : Calls Tryz.prog 121 #[.string (bas l)] w fun e w' => e = .returned (.int .i64 (nameN l)) ∧ w' = w := by
 have c := wrong_any l w
 rw [nameN_def]
 have hsz := bas_size l
 by_cases h1 : l = [] ∨ l = [46] ∨ l = [46, 46]
 · rw [if_pos h1]
   rcases h1 with rfl | rfl | rfl
   all_goals
     have e0 : bas [] = ⟨#[]⟩ := rfl
     have e1 : bas [46] = ⟨#[46]⟩ := rfl
     have e2 : bas [46, 46] = ⟨#[46, 46]⟩ := rfl
     clear c
     go_enter Tryz.func121, Tryz.ntmps121
     go_wp2
     go_ret
     exact ⟨rfl, rfl⟩
 · rw [if_neg h1]
   have e1 : (bas l).toList.isEmpty = false := by rw [bas_toList]; simpa using fun e => h1 (.inl e)
   have e2 : ((bas l).toList == [46]) = false := by rw [bas_toList]; simpa using fun e => h1 (.inr (.inl e))
   have e3 : ((bas l).toList == [46, 46]) = false := by rw [bas_toList]; simpa using fun e => h1 (.inr (.inr e))
   clear h1
   cases hw : wrongB l with
   | true =>
     rw [hw] at c
     rw [if_pos rfl]
     clear hw
     go_enter Tryz.func121, Tryz.ntmps121
     go_wp2_with (go_at_call 163; refine Calls_on c ?_)
     go_ret
     exact ⟨rfl, rfl⟩
   | false =>
     rw [hw] at c
     rw [if_neg (by decide)]
     clear hw
     by_cases h64 : 64 < l.length
     · have h64I : (64 : Int) < (l.length : Int) := by omega
       rw [if_pos h64]
       go_enter Tryz.func121, Tryz.ntmps121
       go_wp2_with (go_at_call 163; refine Calls_on c ?_)
       go_ret
       exact ⟨rfl, rfl⟩
     · have h64I : ¬ (64 : Int) < (l.length : Int) := by omega
       rw [if_neg h64]
       go_enter Tryz.func121, Tryz.ntmps121
       go_wp2_with (go_at_call 163; refine Calls_on c ?_)
       go_ret
       exact ⟨rfl, rfl⟩
set_option maxRecDepth 8000 in
set_option maxHeartbeats 2000000 in
theorem local_any (s : ByteArray) (w : World) (hs : s.size < 1000000000000000) : Calls Tryz.prog 98 #[.string s] w fun e w' => e = .returned (.int .i64 (fineN s.data.toList)) ∧ w' = w := by
 obtain ⟨l, hl⟩ : ∃ l, s.data.toList = l := ⟨_, rfl⟩
 obtain rfl : s = bas l := by rw [← hl, bas_of]
 clear hl
 rw [bas_data]
 rw [bas_size] at hs
 by_cases h1 : l = [] ∨ l = [46] ∨ l = [46, 46]
 · have hf : fineN l = 22 := by unfold fineN; rw [if_pos h1]
   rw [hf]
   rcases h1 with rfl | rfl | rfl
   all_goals
     have e0 : bas [] = ⟨#[]⟩ := rfl
     have e1 : bas [46] = ⟨#[46]⟩ := rfl
     have e2 : bas [46, 46] = ⟨#[46, 46]⟩ := rfl
     go_enter Tryz.func98, Tryz.ntmps98
     go_wp2
     go_ret
     exact ⟨rfl, rfl⟩
 · have e1 : (bas l).toList.isEmpty = false := by rw [bas_toList]; simpa using fun e => h1 (.inl e)
   have e2 : ((bas l).toList == [46]) = false := by rw [bas_toList]; simpa using fun e => h1 (.inr (.inl e))
   have e3 : ((bas l).toList == [46, 46]) = false := by rw [bas_toList]; simpa using fun e => h1 (.inr (.inr e))
   have hsz := bas_size l
   have H1 : Hid (¬ (l = [] ∨ l = [46] ∨ l = [46, 46])) := h1
   clear h1
   go_enter Tryz.func98, Tryz.ntmps98
   go_wp2_with fail
   go_loopw [3] (fun ii wr => ∃ i : Nat, ii = .int .i64 i ∧ i ≤ l.length ∧ wr = w ∧ Hid (∀ j c, j < i → l[j]? = some c → c ≠ 0 ∧ c ≠ 47)) (fun ii _ => l.length - (intOf ii).toNat)
   case atStart => exact ⟨0, rfl, Nat.zero_le _, rfl, fun j c hj => by omega⟩
   case round =>
     obtain ⟨i, rfl, hi, rfl, HI⟩ := hrel
     by_cases hlt : i < l.length
     · have hltI : (i : Int) < (l.length : Int) := by omega
       obtain ⟨c, hc⟩ : ∃ c, l[i]? = some c := ⟨_, List.getElem?_eq_getElem hlt⟩
       have hci : ∀ h : i < (bas l).size, (bas l)[i]'h = c := fun h => by
         show (bas l).data[i] = c
         have := List.getElem?_eq_some_iff.1 hc
         exact this.2
       have hcm : c ∈ l := List.mem_of_getElem? hc
       obtain ⟨n, hn⟩ : ∃ n, c.toNat = n := ⟨_, rfl⟩
       by_cases h0 : n = 0
       · have HF : Hid (fineN l = 22) := by
           have : c = 0 := by apply UInt8.toNat_inj.1; rw [hn, h0]; rfl
           subst this
           show _ = _; unfold fineN; rw [if_neg H1.out, if_pos (.inl hcm)]
         subst h0
         have hq : ((0 : Nat) : Int) = 0 := rfl
         clear hc hcm
         go_wp2_with fail
         go_ret
         exact ⟨by rw [HF.out]; rfl, rfl⟩
       · have h0I : ((n : Int) == 0) = false := by rw [beq_eq_false_iff_ne]; omega
         by_cases h47 : n = 47
         · have HF : Hid (fineN l = 22) := by
             have : c = 47 := by apply UInt8.toNat_inj.1; rw [hn, h47]; rfl
             subst this
             show _ = _; unfold fineN; rw [if_neg H1.out, if_pos (.inr hcm)]
           subst h47
           clear hc hcm
           go_wp2_with fail
           go_ret
           exact ⟨by rw [HF.out]; rfl, rfl⟩
         · have h47I : ((n : Int) == 47) = false := by rw [beq_eq_false_iff_ne]; omega
           have HN : Hid (∀ j c, j < i + 1 → l[j]? = some c → c ≠ 0 ∧ c ≠ 47) := fun j d hj hd => by
             by_cases hji : j = i
             · subst hji
               rw [hc] at hd; cases hd
               exact ⟨fun e => by rw [e] at hn; exact h0 hn.symm, fun e => by rw [e] at hn; exact h47 hn.symm⟩
             · exact HI.out j d (by omega) hd
           clear hc hcm
           go_wp2_with fail
           exact ⟨⟨i + 1, by simp, by omega, trivial, HN⟩, by simp [intOf]; omega⟩
     · obtain rfl : i = l.length := by omega
       have hno : ¬ (0 ∈ l ∨ 47 ∈ l) := by
         rintro (h | h)
         · obtain ⟨j, hj⟩ := List.getElem?_of_mem h
           exact (HI.out j _ (List.getElem?_eq_some_iff.1 hj).1 hj).1 rfl
         · obtain ⟨j, hj⟩ := List.getElem?_of_mem h
           exact (HI.out j _ (List.getElem?_eq_some_iff.1 hj).1 hj).2 rfl
       by_cases h64 : 64 < l.length
       · have h64I : (64 : Int) < (l.length : Int) := by omega
         have HF : Hid (fineN l = 36) := by show _ = _; unfold fineN; rw [if_neg H1.out, if_neg hno, if_pos h64]
         clear hno
         go_wp2_with fail
         go_ret
         exact ⟨by rw [HF.out]; rfl, rfl⟩
       · have h64I : ¬ (64 : Int) < (l.length : Int) := by omega
         have HF : Hid (fineN l = 0) := by show _ = _; unfold fineN; rw [if_neg H1.out, if_neg hno, if_neg h64]
         clear hno
         go_wp2_with fail
         go_ret
         exact ⟨by rw [HF.out]; rfl, rfl⟩
set_option maxRecDepth 8000 in
set_option maxHeartbeats 1000000 in
theorem rname_any (l : List UInt8) (w : World) (hs : l.length < 1000000000000000) : Calls Tryz.prog 65 #[.string (bas l)] w fun e w' => e = .returned (.int .i64 (nameN l)) ∧ w' = w := by
 have c := local_any (bas l) w (by rw [bas_size]; exact hs)
 rw [bas_data] at c
 have hsz := bas_size l
 go_enter Tryz.func65, Tryz.ntmps65
 go_wp2_with fail
 go_loopw [3] (fun ii wr => ∃ i : Nat, ii = .int .i64 i ∧ i ≤ l.length ∧ wr = w ∧ Hid (∀ j c, j < i → l[j]? = some c → c ≠ 1)) (fun ii _ => l.length - (intOf ii).toNat)
 case atStart => exact ⟨0, rfl, Nat.zero_le _, rfl, fun j c hj => by omega⟩
 case round =>
   obtain ⟨i, rfl, hi, rfl, HI⟩ := hrel
   by_cases hlt : i < l.length
   · have hltI : (i : Int) < (l.length : Int) := by omega
     obtain ⟨c0, hc⟩ : ∃ c, l[i]? = some c := ⟨_, List.getElem?_eq_getElem hlt⟩
     have hci : ∀ h : i < (bas l).size, (bas l)[i]'h = c0 := fun h => by
       show (bas l).data[i] = c0
       have := List.getElem?_eq_some_iff.1 hc
       exact this.2
     have hcm : c0 ∈ l := List.mem_of_getElem? hc
     obtain ⟨n, hn⟩ : ∃ n, c0.toNat = n := ⟨_, rfl⟩
     by_cases h0 : n = 1
     · have HF : Hid (nameN l = 22) := by
         have : c0 = 1 := by apply UInt8.toNat_inj.1; rw [hn, h0]; rfl
         subst this
         show _ = _; unfold nameN; rw [if_pos hcm]
       subst h0
       have hq : ((1 : Nat) : Int) = 1 := rfl
       clear hc hcm c
       go_wp2_with fail
       go_ret
       exact ⟨by rw [HF.out]; rfl, rfl⟩
     · have h0I : ((n : Int) == 1) = false := by rw [beq_eq_false_iff_ne]; omega
       have HN : Hid (∀ j c, j < i + 1 → l[j]? = some c → c ≠ 1) := fun j d hj hd => by
         by_cases hji : j = i
         · subst hji
           rw [hc] at hd; cases hd
           exact fun e => by rw [e] at hn; exact h0 hn.symm
         · exact HI.out j d (by omega) hd
       clear hc hcm c
       go_wp2_with fail
       exact ⟨⟨i + 1, by simp, by omega, trivial, HN⟩, by simp [intOf]; omega⟩
   · obtain rfl : i = l.length := by omega
     have HF : Hid (nameN l = fineN l) := by
       show _ = _; unfold nameN
       rw [if_neg]
       intro h
       obtain ⟨j, hj⟩ := List.getElem?_of_mem h
       exact (HI.out j _ (List.getElem?_eq_some_iff.1 hj).1 hj) rfl
     go_wp2_with (go_at_call 98; refine Calls_on c ?_)
     go_ret
     exact ⟨by rw [HF.out]; rfl, rfl⟩
end Go.Proofs.YthhakekbffembaaGreatDoor.Ck.Sh

namespace Go.Proofs.YthhakekbffembaaGreatDoor.Ck.Sh
open Go.RowKit Go.Lib
def digB (c : UInt8) : Bool := decide (48 ≤ c.toNat) && decide (c.toNat ≤ 57)
def valF (a : Nat) (l : List UInt8) : Nat := l.foldl (fun a c => a * 10 + (c.toNat - 48)) a
def valL (l : List UInt8) : Nat := valF 0 l
theorem valF_nil (a : Nat) : valF a [] = a := List.foldl_nil
theorem valF_cons (a : Nat) (c : UInt8) (l : List UInt8) : valF a (c :: l) = valF (a * 10 + (c.toNat - 48)) l := List.foldl_cons ..
theorem valF_append (l m : List UInt8) (a : Nat) : valF a (l ++ m) = valF (valF a l) m := List.foldl_append ..
theorem valL_snoc (l : List UInt8) (c : UInt8) : valL (l ++ [c]) = valL l * 10 + (c.toNat - 48) := by
 unfold valL; rw [valF_append]; simp only [valF_cons, valF_nil]
theorem valF_ge : ∀ (l : List UInt8) (a : Nat), a ≤ valF a l
 | [], _ => by rw [valF_nil]; exact Nat.le_refl _
 | c :: l, a => by
   have := valF_ge l (a * 10 + (c.toNat - 48))
   simp only [valF_cons]; omega
theorem digit_of (k : Nat) (h : k < 10) : (UInt8.ofNat (48 + k)).toNat = 48 + k := by
 rw [UInt8.toNat_ofNat']
 omega
theorem dec_step (u : Nat) (h : ¬ u < 10) : decDigits u = decDigits (u / 10) ++ [UInt8.ofNat (48 + u % 10)] := by
 rw [decDigits, dif_neg h]
theorem dec_digits (u : Nat) : ∀ c ∈ decDigits u, digB c = true := by
 induction u using Nat.strongRecOn with
 | _ u ih =>
   by_cases h : u < 10
   · rw [decDigits_one h]
     intro c hc
     rw [List.mem_singleton.1 hc]
     unfold digB
     rw [digit_of u h]
     simp
     omega
   · rw [dec_step u h]
     intro c hc
     rcases List.mem_append.1 hc with h1 | h1
     · exact ih _ (by omega) c h1
     · rw [List.mem_singleton.1 h1]
       unfold digB
       rw [digit_of _ (by omega)]
       simp
       omega
theorem dec_val (u : Nat) : valL (decDigits u) = u := by
 induction u using Nat.strongRecOn with
 | _ u ih =>
   by_cases h : u < 10
   · rw [decDigits_one h]
     simp only [valL, valF_cons, valF_nil, digit_of u h]
     omega
   · rw [dec_step u h, valL_snoc, ih _ (by omega), digit_of _ (by omega)]
     omega
theorem dec_inj {u v : Nat} (h : decDigits u = decDigits v) : u = v := by rw [← dec_val u, h, dec_val]
theorem dec_ne (u : Nat) : decDigits u ≠ [] := by
 by_cases h : u < 10
 · rw [decDigits_one h]; simp
 · rw [dec_step u h]; simp
theorem dec_len {u : Nat} : ∀ k, u < 10 ^ (k + 1) → (decDigits u).length ≤ k + 1
 | 0, h => by rw [decDigits_one (by simpa using h)]; simp
 | k + 1, h => by
   by_cases h10 : u < 10
   · rw [decDigits_one h10]; simp
   · rw [dec_step u h10]
     have := dec_len (u := u / 10) k (by rw [Nat.pow_succ] at h; omega)
     simp
     omega
theorem uintM_digits (M : Nat) : ∀ (l : List UInt8) (a : Nat), (∀ c ∈ l, digB c = true) → valF a l ≤ M → M < 18446744073709551616 → parseUintM M a l = .ok (valF a l)
 | [], _, _, _, _ => by rw [valF_nil]; rfl
 | c :: l, a, hd, hv, hM => by
   have hc := hd c (List.mem_cons_self ..)
   unfold digB at hc
   simp only [Bool.and_eq_true, decide_eq_true_eq] at hc
   simp only [valF_cons] at hv
   have hg := valF_ge l (a * 10 + (c.toNat - 48))
   unfold parseUintM
   rw [if_pos hc, if_neg (by omega), if_neg (by omega), uintM_digits M l _ (fun x hx => hd x (List.mem_cons_of_mem _ hx)) hv hM, valF_cons]
theorem uint10_digits : ∀ (l : List UInt8) (a : Nat), (∀ c ∈ l, digB c = true) → valF a l < 18446744073709551616 → parseUint10 a l = .ok (valF a l)
 | [], _, _, _ => by rw [valF_nil]; rfl
 | c :: l, a, hd, hv => by
   have hc := hd c (List.mem_cons_self ..)
   unfold digB at hc
   simp only [Bool.and_eq_true, decide_eq_true_eq] at hc
   simp only [valF_cons] at hv
   have hg := valF_ge l (a * 10 + (c.toNat - 48))
   unfold parseUint10
   rw [if_pos hc, if_neg (by omega), if_neg (by omega), uint10_digits l _ (fun x hx => hd x (List.mem_cons_of_mem _ hx)) hv, valF_cons]
theorem dec_cons (u : Nat) : ∃ c l, decDigits u = c :: l ∧ 48 ≤ c.toNat ∧ c.toNat ≤ 57 := by
 cases h : decDigits u with
 | nil => exact absurd h (dec_ne u)
 | cons c l =>
   have hc := dec_digits u c (by rw [h]; exact List.mem_cons_self ..)
   unfold digB at hc
   simp only [Bool.and_eq_true, decide_eq_true_eq] at hc
   exact ⟨c, l, rfl, hc⟩
theorem parse_dec (u : Nat) (hu : u < 9223372036854775808) : parseIntB 64 (decDigits u) = .ok (u : Int) := by
 have hd := dec_digits u
 have hv := dec_val u
 obtain ⟨c, l, e, h1, h2⟩ := dec_cons u
 rw [e] at hd hv ⊢
 unfold parseIntB
 have hn : ¬ (c.toNat = 43 ∨ c.toNat = 45) := by omega
 have hn' : ¬ c.toNat = 45 := by omega
 have hp : parseUintB 64 (c :: l) = .ok u := by
   unfold parseUintB
   rw [if_neg (by simp), uintM_digits (2 ^ 64 - 1) (c :: l) 0 hd (by rw [show valF 0 (c :: l) = u from hv]; omega) (by decide)]
   exact congrArg _ hv
 simp only []
 rw [if_neg hn, hp]
 simp only [hn', not_false_eq_true, true_and, false_and, if_false]
 rw [if_neg (by omega)]
theorem atoi_dec (u : Nat) (hu : u < 9223372036854775808) : atoiAll (decDigits u) = .ok (u : Int) := by
 have hd := dec_digits u
 have hv := dec_val u
 obtain ⟨c, l, e, h1, h2⟩ := dec_cons u
 rw [e] at hd hv ⊢
 unfold atoiAll
 have hn : ¬ (c.toNat = 43 ∨ c.toNat = 45) := by omega
 have hn' : ¬ c.toNat = 45 := by omega
 have hp : parseMag (c :: l) = .ok u := by
   unfold parseMag
   rw [if_neg (by simp), uint10_digits (c :: l) 0 hd (by rw [show valF 0 (c :: l) = u from hv]; omega)]
   exact congrArg _ hv
 simp only []
 rw [if_neg hn, hp]
 simp only [hn', not_false_eq_true, true_and, false_and, if_false]
 rw [if_neg (by omega)]
def tv (l : List UInt8) : Int := match parseIntB 64 l with | .ok v => v | .syntax => 0 | .range => intSat 64 l
def nv (l : List UInt8) : Int := match atoiAll l with | .ok v => v | .syntax => 0 | .range => atoiSat l
theorem itoa_dec {z : Int} (h : 0 ≤ z) : itoa z = decDigits z.toNat := by unfold itoa; rw [if_neg (by omega)]
theorem tv_itoa {z : Int} (h : 0 ≤ z) (h' : z < 9223372036854775808) : tv (itoa z) = z := by
 rw [itoa_dec h]
 unfold tv
 rw [parse_dec z.toNat (by omega)]
 show (z.toNat : Int) = z
 omega
theorem nv_itoa {z : Int} (h : 0 ≤ z) (h' : z < 9223372036854775808) : nv (itoa z) = z := by
 rw [itoa_dec h]
 unfold nv
 rw [atoi_dec z.toNat (by omega)]
 show (z.toNat : Int) = z
 omega
theorem itoa_inj {y z : Int} (h : 0 ≤ y) (h' : 0 ≤ z) (e : itoa y = itoa z) : y = z := by
 rw [itoa_dec h, itoa_dec h'] at e
 have := dec_inj e
 omega
theorem itoa_no {z : Int} (h : 0 ≤ z) {c : UInt8} (hc : digB c = false) : c ∉ itoa z := by
 rw [itoa_dec h]
 intro hm
 rw [dec_digits _ c hm] at hc
 cases hc
def sufL (t n : Int) : List UInt8 := 1 :: (itoa t ++ 46 :: itoa n)
theorem part_unique {α : Type} {c : α} : ∀ {a a' b b' : List α}, c ∉ a → c ∉ a' → a ++ c :: b = a' ++ c :: b' → a = a' ∧ b = b'
 | [], [], _, _, _, _, h => ⟨rfl, by simpa using h⟩
 | [], x :: a', _, _, _, h', h => by
   simp only [List.nil_append, List.cons_append, List.cons.injEq] at h
   exact absurd (h.1 ▸ List.mem_cons_self ..) h'
 | x :: a, [], _, _, h', _, h => by
   simp only [List.nil_append, List.cons_append, List.cons.injEq] at h
   exact absurd (h.1 ▸ List.mem_cons_self ..) h'
 | x :: a, y :: a', b, b', h1, h2, h => by
   simp only [List.cons_append, List.cons.injEq] at h
   obtain ⟨e1, e2⟩ := part_unique (fun hm => h1 (List.mem_cons_of_mem _ hm)) (fun hm => h2 (List.mem_cons_of_mem _ hm)) h.2
   exact ⟨by rw [h.1, e1], e2⟩
theorem indexByte_part {c : UInt8} : ∀ {a b : List UInt8}, c ∉ a → indexByte (a ++ c :: b) c = (a.length : Nat)
 | [], b, _ => by simp [indexByte]
 | x :: a, b, h => by
   have hx : ¬ x = c := fun e => h (e ▸ List.mem_cons_self ..)
   have ih := indexByte_part (b := b) (fun hm => h (List.mem_cons_of_mem x hm))
   simp only [List.cons_append, indexByte, ih, beq_iff_eq, hx, if_false]
   rw [if_neg (by omega)]
   simp
theorem cut_part {c : UInt8} {a b : List UInt8} (h : c ∉ a) : Lib.cut (a ++ c :: b) [c] = (a, b, true) := by
 unfold Lib.cut
 rw [index_one, indexByte_part h, if_pos (by omega)]
 simp
def SplitOf (s : List UInt8) : Option (List UInt8 × Int × Int) → Prop
 | some (nm, t, n) => nameN nm = 0 ∧ validB t n = true ∧ s = nm ++ sufL t n
 | none => ∀ nm t n, nameN nm = 0 → validB t n = true → s ≠ nm ++ sufL t n
theorem name_no1 {l : List UInt8} (h : nameN l = 0) : (1 : UInt8) ∉ l := by
 intro hm
 unfold nameN at h
 rw [if_pos hm] at h
 cases h
theorem valid_bounds {t n : Int} (h : validB t n = true) : 1 ≤ t ∧ t ≤ 1152921504606846976 ∧ 0 ≤ n ∧ n < 64 := validB_true.1 h
theorem suf_inj {t n t' n' : Int} (h : validB t n = true) (h' : validB t' n' = true) (e : sufL t n = sufL t' n') : t = t' ∧ n = n' := by
 have b := valid_bounds h
 have b' := valid_bounds h'
 unfold sufL at e
 simp only [List.cons.injEq, true_and] at e
 obtain ⟨e1, e2⟩ := part_unique (itoa_no (by omega) (by rfl)) (itoa_no (by omega) (by rfl)) e
 exact ⟨itoa_inj (by omega) (by omega) e1, itoa_inj (by omega) (by omega) e2⟩
theorem split_inj {nm nm' : List UInt8} {t n t' n' : Int} (h : nameN nm = 0) (h' : nameN nm' = 0) (hv : validB t n = true) (hv' : validB t' n' = true) (e : nm ++ sufL t n = nm' ++ sufL t' n') : nm = nm' ∧ t = t' ∧ n = n' := by
 have e' := e
 unfold sufL at e
 obtain ⟨e1, e2⟩ := part_unique (name_no1 h) (name_no1 h') e
 exact ⟨e1, suf_inj hv hv' (by unfold sufL; rw [e2])⟩
theorem SplitOf.unique {s : List UInt8} : ∀ {r r' : Option (List UInt8 × Int × Int)}, SplitOf s r → SplitOf s r' → r = r'
 | none, none, _, _ => rfl
 | some (nm, t, n), none, h, h' => absurd h.2.2 (h' nm t n h.1 h.2.1)
 | none, some (nm, t, n), h, h' => absurd h'.2.2 (h nm t n h'.1 h'.2.1)
 | some (nm, t, n), some (nm', t', n'), h, h' => by
   obtain ⟨rfl, rfl, rfl⟩ := split_inj h.1 h'.1 h.2.1 h'.2.1 (h.2.2.symm.trans h'.2.2)
   rfl
def cutN (s : List UInt8) : List UInt8 := (Lib.cut s [1]).1
def cutT (s : List UInt8) : Int := tv (Lib.cut (Lib.cut s [1]).2.1 [46]).1
def cutD (s : List UInt8) : Int := nv (Lib.cut (Lib.cut s [1]).2.1 [46]).2.1
def splitP (s : List UInt8) : Option (List UInt8 × Int × Int) := if nameN (cutN s) = 0 ∧ validB (cutT s) (cutD s) = true ∧ s = cutN s ++ sufL (cutT s) (cutD s) then some (cutN s, cutT s, cutD s) else none
theorem cut_back {nm : List UInt8} {t n : Int} (h : nameN nm = 0) (hv : validB t n = true) : cutN (nm ++ sufL t n) = nm ∧ cutT (nm ++ sufL t n) = t ∧ cutD (nm ++ sufL t n) = n := by
 have b := valid_bounds hv
 unfold cutN cutT cutD sufL
 rw [cut_part (name_no1 h)]
 simp only []
 rw [cut_part (itoa_no (by omega) (by rfl))]
 exact ⟨by first | exact rfl | exact trivial, tv_itoa (by omega) (by omega), nv_itoa (by omega) (by omega)⟩
theorem splitP_of (s : List UInt8) : SplitOf s (splitP s) := by
 unfold splitP
 split
 · rename_i h
   exact h
 · rename_i h
   intro nm t n h1 h2 e
   subst e
   obtain ⟨e1, e2, e3⟩ := cut_back h1 h2
   rw [e1, e2, e3] at h
   exact h ⟨h1, h2, rfl⟩
end Go.Proofs.YthhakekbffembaaGreatDoor.Ck.Sh
