import Derived.Test.YthhakekbffembaaGreatDoorQPf
import Derived.LaidEql

namespace Go.Proofs.YthhakekbffembaaGreatDoor.Ck.Y
open Go.RowKit Go.Maps Go.Lib
def placeT (T : List OB) (q : PI) : PL := (findT T q.1 q.2).bind fun k => T[k]?.map fun o => ((o.pt, o.pn), o.nm)
theorem placeT_up (T : List OB) (q : PI) : upT T q = (placeT T q).map (·.1) := by
 unfold upT placeT
 cases findT T q.1 q.2 with
 | none => rfl
 | some k => cases h : T[k]? <;> simp [h]
theorem placeT_none {T : List OB} {q : PI} (h : findT T q.1 q.2 = none) : placeT T q = none := by unfold placeT; rw [h]; rfl
theorem placeT_at {T : List OB} {q : PI} {k : Nat} {o : OB} (h : findT T q.1 q.2 = some k) (ho : T[k]? = some o) : placeT T q = some ((o.pt, o.pn), o.nm) := by unfold placeT; rw [h]; simp [ho]
theorem placeT_some {T : List OB} {q p : PI} {nm : ByteArray} (h : placeT T q = some (p, nm)) : ∃ k o, findT T q.1 q.2 = some k ∧ T[k]? = some o ∧ idp o = q ∧ (o.pt, o.pn) = p ∧ o.nm = nm := by
 unfold placeT at h
 cases hf : findT T q.1 q.2 with
 | none => rw [hf] at h; cases h
 | some k =>
   rw [hf] at h
   obtain ⟨o, ho, e⟩ := Option.map_eq_some_iff.1 h
   obtain ⟨o', ho', e1, e2⟩ := findT_some hf
   rw [ho] at ho'
   cases ho'
   injection e with e3 e4
   exact ⟨k, o, rfl, ho, Prod.ext e1 e2, e3, e4⟩
theorem placeT_snoc {T : List OB} {x : OB} (hx : findT T x.it x.ii = none) : placeT (T ++ [x]) = updP (placeT T) (idp x) (some ((x.pt, x.pn), x.nm)) := by
 funext q
 by_cases e : q = idp x
 · subst e
   rw [updP_at]
   refine placeT_at (k := T.length) (o := x) ?_ (by simp)
   show findT _ x.it x.ii = _
   rw [findT_snoc, hx]
   simp
 · rw [updP_ne _ _ e]
   unfold placeT
   rw [findT_snoc]
   cases hf : findT T q.1 q.2 with
   | none =>
     have : ¬ (x.it = q.1 ∧ x.ii = q.2) := fun h => e (Prod.ext h.1.symm h.2.symm)
     simp [this]
   | some k =>
     obtain ⟨o, ho, _⟩ := findT_some hf
     have hk := (List.getElem?_eq_some_iff.1 ho).1
     simp [List.getElem?_append_left hk]
theorem placeT_set {T : List OB} {k : Nat} {b b' : OB} (ha : ApartT T) (hb : T[k]? = some b) (h : idp b' = idp b) : placeT (T.set k b') = updP (placeT T) (idp b) (some ((b'.pt, b'.pn), b'.nm)) := by
 funext q
 have hk := (List.getElem?_eq_some_iff.1 hb).1
 have hf := findT_at ha hb
 by_cases e : q = idp b
 · subst e
   rw [updP_at]
   refine placeT_at (k := k) (o := b') ?_ (by simp [hk])
   show findT _ b.it b.ii = _
   rw [findT_set hb h]
   exact hf
 · rw [updP_ne _ _ e]
   unfold placeT
   rw [findT_set hb h]
   cases hf' : findT T q.1 q.2 with
   | none => rfl
   | some j =>
     obtain ⟨o, ho, e1, e2⟩ := findT_some hf'
     have : k ≠ j := fun ek => by
       subst ek
       rw [hb] at ho
       cases ho
       exact e (Prod.ext e1.symm e2.symm)
     simp [List.getElem?_set_ne this]
theorem eqin_same (d b : Nat) (w : World) : (Op.equalIn (d + 1) 125 (.pointer (some ⟨b, 0, none⟩)) (.pointer (some ⟨b, 0, none⟩))).run Tryz.prog w = .ok true w := by
 simp [Op.equalIn, run_underlying Tryz.underlying125, Tryz.sizeOf131, run_sameAddr_same]
theorem peq_same (b : Nat) (w : World) : (binOp .eql 125 (.pointer (some ⟨b, 0, none⟩)) (.pointer (some ⟨b, 0, none⟩))).run Tryz.prog w = .ok (.bool true) w := by
 simp only [binOp]
 simp [Op.equal, Op.maxDepth, eqin_same 9999 b w]
theorem eqin_other (d : Nat) {a b : Nat} {w : World} {ca cb : Array Value} {ta tb : TypeId} (hne : a ≠ b) (ha : w.heap[a]? = some (.cells ca ta (0, 0))) (hb : w.heap[b]? = some (.cells cb tb (0, 0))) : (Op.equalIn (d + 1) 125 (.pointer (some ⟨a, 0, none⟩)) (.pointer (some ⟨b, 0, none⟩))).run Tryz.prog w = .ok false w := by
 have h : (⟨a, 0, none⟩ : Addr) ≠ ⟨b, 0, none⟩ := fun e => hne (by injection e)
 simp [Op.equalIn, run_underlying Tryz.underlying125, Tryz.sizeOf131, run_sameAddr_other w h ha hb]
theorem peq_other {a b : Nat} {w : World} {ca cb : Array Value} {ta tb : TypeId} (hne : a ≠ b) (ha : w.heap[a]? = some (.cells ca ta (0, 0))) (hb : w.heap[b]? = some (.cells cb tb (0, 0))) : (binOp .eql 125 (.pointer (some ⟨a, 0, none⟩)) (.pointer (some ⟨b, 0, none⟩))).run Tryz.prog w = .ok (.bool false) w := by
 simp only [binOp]
 simp [Op.equal, Op.maxDepth, eqin_other 9999 hne ha hb]
def rankV (U : List PI) (bl : PI → Nat) (r : PI → Nat) : Value → Nat
 | .pointer (some a) => r (kyU U bl a.block) + 1
 | _ => 0
set_option maxRecDepth 8000 in
set_option maxHeartbeats 1000000 in
theorem obelow_any {F : Nat → Prop} {w : World} {U : List PI} {bl : PI → Nat} {kv : PI → Value} {dr : PI → Bool} {pk : PI → PL} {T : List OB} (h : ObjsM F w U bl kv dr (placeT T) pk) (hpar : ∀ q ∈ U, ∀ p nm, placeT T q = some (p, nm) → p ∈ U) (hrk : Ranked T) {a b : PI} (ha : a ∈ U) (hb : b ∈ U) :
   Calls Tryz.prog 82 #[.pointer (some ⟨bl a, 0, none⟩), .pointer (some ⟨bl b, 0, none⟩)] w fun e w' => ∃ r, e = .returned (.bool r) ∧ (r = true ↔ Bel T a b) ∧ w' = w := by
 obtain ⟨rk, hr⟩ := hrk
 have HH : Hid (ObjsM F w U bl kv dr (placeT T) pk ∧ (∀ q ∈ U, ∀ p nm, placeT T q = some (p, nm) → p ∈ U) ∧ (∀ a b, upT T a = some b → rk b < rk a)) := ⟨h, hpar, hr⟩
 have c0 : w.cell? ⟨bl a, 0, none⟩ = some (plA bl (placeT T a)) := h.cell ha 0
 obtain ⟨va, hva⟩ : ∃ va, plA bl (placeT T a) = va := ⟨_, rfl⟩
 rw [hva] at c0
 have HV : Hid (va = plA bl (placeT T a)) := hva.symm
 clear h hpar hr hva
 go_enter Tryz.func82, Tryz.ntmps82
 go_wp2_with fail
 go_loopw [5] (fun v wr => wr = w ∧ ∃ c, c ∈ U ∧ v = plA bl (placeT T c) ∧ Hid (Bel T a b ↔ Bel T c b)) (fun v _ => rankV U bl rk v)
 case atStart => exact ⟨rfl, a, ha, HV.out, Iff.rfl⟩
 case round =>
   obtain ⟨rfl, c, hc, rfl, HI⟩ := hrel
   cases hpl : placeT T c with
   | none =>
     have HN : Hid (¬ Bel T a b) := fun hb' => Bel.not (by rw [placeT_up, hpl]; rfl) (HI.out.1 hb')
     clear c0
     simp only [plA]
     go_wp2_with fail
     go_ret
     exact ⟨false, rfl, ⟨(fun e => by cases e), fun e => absurd e HN.out⟩, rfl⟩
   | some pn =>
     obtain ⟨p, nm⟩ := pn
     have hp : p ∈ U := HH.out.2.1 c hc p nm hpl
     have hup : upT T c = some p := by rw [placeT_up, hpl]; rfl
     have cp : wr.cell? ⟨bl p, 0, none⟩ = some (plA bl (placeT T p)) := HH.out.1.cell hp 0
     clear c0
     simp only [plA, pv]
     by_cases e : p = b
     · subst e
       have HY : Hid (Bel T a p) := HI.out.2 (.one hup)
       have hE := peq_same (bl p) wr
       go_wp2_with fail
       go_ret
       exact ⟨true, rfl, ⟨fun _ => HY.out, fun _ => rfl⟩, rfl⟩
     · have hne : ¬ bl p = bl b := fun e' => e (HH.out.1.inj p hp b hb e')
       have hE := peq_other hne (HH.out.1.obj p hp) (HH.out.1.obj b hb)
       have HY : Hid (Bel T a b ↔ Bel T p b) := HI.out.trans (Bel.next hup e)
       have HR : Hid (rankV U bl rk (plA bl (placeT T p)) < rankV U bl rk (.pointer (some ⟨bl p, 0, none⟩))) := by
         have hlt := HH.out.2.2
         show _ < rk (kyU U bl (bl p)) + 1
         rw [kyU_at HH.out.1.inj hp]
         cases hpp : placeT T p with
         | none => exact Nat.succ_pos _
         | some x =>
           obtain ⟨p3, nm3⟩ := x
           have h3 : p3 ∈ U := HH.out.2.1 p hp p3 nm3 hpp
           show rk (kyU U bl (bl p3)) + 1 < _
           rw [kyU_at HH.out.1.inj h3]
           have := hlt p p3 (by rw [placeT_up, hpp]; rfl)
           omega
       go_wp2_with fail
       go_roundw
       case rel => exact ⟨trivial, p, hp, rfl, HY.out⟩
       case measure => exact HR.out
end Go.Proofs.YthhakekbffembaaGreatDoor.Ck.Y
