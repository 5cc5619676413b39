/-
  Paths: the document's Parse.
-/
import Derived.Test.YtjggnmeeeofepaaDoorKTpe

namespace Go.Proofs.YtjggnmeeeofepaaDoor.Ck.Sh
open Go.RowKit Go.Lib

attribute [local go_sem] Oper.semAt_some

theorem rsplit_is (l : List UInt8) (hl : l.length < 1000000000000000) (w : World) : Calls Tryd.prog 17 #[.string (bas l)] w fun e w' => e = .returned (splitV l (splitP l)) ∧ Below w.heap.size w w' :=
  (rsplit_any l hl w).mono fun e w' ⟨⟨r, he, hr⟩, hb⟩ => ⟨by rw [he, hr.unique (splitP_of l)], hb⟩

/-- The pieces that were taken, and the one that is begun. -/
def CutI (s : List UInt8) (fr i : Nat) (done : List (List UInt8)) : Prop :=
  (i ≤ s.length ∧ 1 ≤ fr ∧ fr ≤ i ∧ done.length ≤ i ∧ done ++ cutAt ((s.drop fr).take (i - fr)) (s.drop i) = cutAt [] (s.drop 1)) ∨ (i = s.length + 1 ∧ done = cutAt [] (s.drop 1))
theorem CutI.start {s : List UInt8} (h : 1 ≤ s.length) : CutI s 1 1 [] := .inl ⟨h, Nat.le_refl _, Nat.le_refl _, by simp, by simp⟩
theorem CutI.last {s : List UInt8} {fr : Nat} {done : List (List UInt8)} (h : CutI s fr s.length done) : CutI s (s.length + 1) (s.length + 1) (done ++ [(s.drop fr).take (s.length - fr)]) := by
  rcases h with ⟨_, _, _, _, h⟩ | ⟨h, _⟩
  · refine .inr ⟨rfl, ?_⟩
    rw [List.drop_length, cutAt_nil] at h
    exact h
  · omega
theorem CutI.slash {s : List UInt8} {fr i : Nat} {done : List (List UInt8)} (h : CutI s fr i done) (hi : s[i]? = some 47) : CutI s (i + 1) (i + 1) (done ++ [(s.drop fr).take (i - fr)]) := by
  obtain ⟨hl, he⟩ := List.getElem?_eq_some_iff.1 hi
  rcases h with ⟨_, h1, h2, h3, h⟩ | ⟨h, _⟩
  · refine .inl ⟨by omega, by omega, Nat.le_refl _, by simp; omega, ?_⟩
    rw [List.drop_eq_getElem_cons hl, he, cutAt_sl] at h
    rw [← h]
    simp
  · omega
theorem CutI.go {s : List UInt8} {fr i : Nat} {c : UInt8} {done : List (List UInt8)} (h : CutI s fr i done) (hi : s[i]? = some c) (hc : c ≠ 47) : CutI s fr (i + 1) done := by
  obtain ⟨hl, he⟩ := List.getElem?_eq_some_iff.1 hi
  rcases h with ⟨_, h1, h2, h3, h⟩ | ⟨h, _⟩
  · refine .inl ⟨by omega, by omega, by omega, by omega, ?_⟩
    rw [List.drop_eq_getElem_cons hl, he, cutAt_no _ _ hc] at h
    rw [← h]
    have e : (s.drop fr).take (i + 1 - fr) = (s.drop fr).take (i - fr) ++ [c] := by
      rw [show i + 1 - fr = (i - fr) + 1 by omega, List.take_add_one, List.getElem?_drop, show fr + (i - fr) = i by omega, hi]
      rfl
    rw [e]
  · omega
theorem ext_mid (l : List UInt8) (a b : Nat) : (bas l).extract a b = bas ((l.drop a).take (b - a)) := by
  apply ByteArray.ext
  rw [ByteArray.data_extract]
  apply Array.toList_inj.1
  simp [bas]
def sv (x : List UInt8) : Value := .string (bas x)
theorem sv_one (l : List (List UInt8)) : ∀ u ∈ l.map sv, u.oneCell' = true := fun u hu => by
  obtain ⟨c, _, rfl⟩ := List.mem_map.1 hu
  rfl
theorem Nms.of_own {w : World} {base n : Nat} {p : Option Addr} {c : Nat} {names : List (List UInt8)} (h : w.ownsRow base 9 1 (.slice p n c) n (names.map sv)) : Nms w p names ∧ n ≤ c := by
  obtain ⟨p', c', e, hcs⟩ := Cs.of_own h
  obtain ⟨p2, c2, e2, h2⟩ := own_slice h
  injection e with ea eb ec
  subst ea ec
  injection e2 with ea eb ec
  subst ea ec
  refine ⟨fun j x hx => ?_, h2⟩
  exact hcs j (sv x) (by rw [List.getElem?_map, hx]; rfl)

theorem app_ready {w wr : World} {done : List (List UInt8)} {p : Option Addr} {c : Nat} (cur : List UInt8) (ho : wr.ownsRow w.heap.size 9 1 (.slice p done.length c) done.length (done.map sv)) (hb : Below w.heap.size w wr) (hn : done.length < 4000000000000) :
    Hid ((wr.alloc (.cells #[.string (bas cur)] 9)).ownsRow w.heap.size 9 1 (.slice p done.length c) done.length (done.map sv) ∧ Cs (wr.alloc (.cells #[.string (bas cur)] 9)) (some ⟨wr.heap.size, 0, none⟩) [sv cur] ∧ ([sv cur] : List Value).length = 1 * 1 ∧ (∀ u ∈ [sv cur], u.oneCell' = true) ∧ (done.length + 1) * 16 ≤ 140737488355328 ∧ done.length + 1 ≤ 140737488355328 ∧ w.heap.size ≤ (wr.alloc (.cells #[.string (bas cur)] 9)).heap.size) := by
  refine ⟨own_below ho (below_new wr _).out, fun j u hj => ⟨wr.heap.size, 0, rfl, ?_⟩, rfl, sv_one [cur], by omega, by omega, ?_⟩
  · have hj0 : j = 0 := by
      have := (List.getElem?_eq_some_iff.1 hj).1
      simp at this
      omega
    subst hj0
    cases hj
    simp [go_sem, sv]
  · have := hb.size
    simp
    omega
theorem app_done {w wr w' : World} {done : List (List UInt8)} {p p' : Option Addr} {c c' : Nat} (cur : List UInt8) (ho : wr.ownsRow w.heap.size 9 1 (.slice p done.length c) done.length (done.map sv)) (hb : Below w.heap.size w wr)
    (h : Hid (w'.ownsRow w.heap.size 9 1 (.slice p' (done.length + 1) c') (done.length + 1) (done.map sv ++ [sv cur]) ∧ (wr.alloc (.cells #[.string (bas cur)] 9)).grownBy w' (Value.slice p done.length c).ownBlock)) :
    Value.slice p' (done.length + 1) c' = .slice p' (done ++ [cur]).length c' ∧ w'.ownsRow w.heap.size 9 1 (.slice p' (done.length + 1) c') (done ++ [cur]).length ((done ++ [cur]).map sv) ∧ Below w.heap.size w w' := by
  obtain ⟨h1, h2⟩ := h.out
  have el : (done ++ [cur]).length = done.length + 1 := by simp
  refine ⟨by rw [el], ?_, grown_low (below_then hb (below_new wr _).out) (own_below ho (below_new wr _).out) h2 (Nat.le_refl _)⟩
  rw [el, List.map_append]
  exact h1

set_option maxRecDepth 8000 in
set_option maxRecDepth 8000 in
set_option maxHeartbeats 4000000 in
/-- The pieces of a text that begins with '/' and is longer. -/
theorem rparse_some (s : List UInt8) (h47 : s.head? = some 47) (hne : s ≠ [47]) (hl : s.length < 1000000000000) (w : World) : Calls Tryd.prog 7 #[.string (bas s)] w fun e w' => ParseA s w e w' := by
  have hsz := bas_size s
  have hl2 : 2 ≤ s.length := by
    match s, h47, hne with
    | [c], h, hn =>
      obtain rfl : c = 47 := by simpa using h
      exact absurd rfl hn
    | _ :: _ :: _, _, _ => simp
  have e1 : (bas s).toList.isEmpty = false := by
    rw [bas_toList]
    cases s with
    | nil => cases h47
    | cons _ _ => rfl
  have e3 : ((bas s).toList == [47]) = false := by rw [bas_toList]; simpa using hne
  have h0 : s[0]? = some 47 := by rw [← List.head?_eq_getElem?]; exact h47
  have hci0 : ∀ h : 0 < (bas s).size, (bas s)[0]'h = 47 := fun h => by
    show (bas s).data[0] = 47
    exact (List.getElem?_eq_some_iff.1 h0).2
  have h0I : (0 : Int) < (s.length : Int) := by omega
  have HNm : Hid (namesOf s = cutAt [] (s.drop 1)) := by show _ = _; unfold namesOf; rw [if_neg hne]
  have HE : Hid (parseE s = if 1024 < s.length ∨ 64 < (cutAt [] (s.drop 1)).length then 36 else firstE (cutAt [] (s.drop 1))) := by
    show _ = _
    unfold parseE
    rw [if_neg (fun e => e h47), HNm.out]
  have HS0 := Lib.hid (CutI.start (s := s) (by omega))
  have HL2 := Lib.hid hl2
  clear hne h47 h0
  go_enter Tryd.func7, Tryd.ntmps7
  go_wp2_with fail
  go_loopw [4, 5, 6] (fun ll ff ii wr => ∃ (i fr : Nat) (p : Option Addr) (c : Nat) (done : List (List UInt8)), ll = .slice p done.length c ∧ ff = .int .i64 fr ∧ ii = .int .i64 i ∧ Hid (CutI s fr i done ∧ i ≤ s.length + 1 ∧ wr.ownsRow w.heap.size 9 1 ll done.length (done.map sv) ∧ Below w.heap.size w wr)) (fun _ _ ii _ => s.length + 1 - (RowKit.intOf ii).toNat)
  case atStart => exact ⟨1, 1, none, 0, [], rfl, rfl, rfl, HS0.out, by have := HL2.out; omega, ⟨rfl, .inl ⟨rfl, rfl⟩⟩, Below.refl _ _⟩
  case round =>
    obtain ⟨i, fr, p, c, done, rfl, rfl, rfl, HI⟩ := hrel
    have ho := HI.out.2.2.1
    have hb := HI.out.2.2.2
    by_cases hlt : i < s.length
    · have hltI : (i : Int) < (s.length : Int) := by omega
      have hleI : (i : Int) ≤ (s.length : Int) := by omega
      have hneI : ((i : Int) == (s.length : Int)) = false := by rw [beq_eq_false_iff_ne]; omega
      obtain ⟨x, hx⟩ : ∃ x, s[i]? = some x := ⟨_, List.getElem?_eq_getElem hlt⟩
      have hci : ∀ h : i < (bas s).size, (bas s)[i]'h = x := fun h => by
        show (bas s).data[i] = x
        exact (List.getElem?_eq_some_iff.1 hx).2
      have hfr : (1 ≤ fr ∧ fr ≤ i ∧ done.length ≤ i) := by
        rcases HI.out.1 with ⟨_, h1, h2, h3, _⟩ | ⟨h, _⟩
        · exact ⟨h1, h2, h3⟩
        · omega
      obtain ⟨k, hk⟩ : ∃ k, x.toNat = k := ⟨_, rfl⟩
      by_cases h1 : k = 47
      · obtain rfl : x = 47 := by apply UInt8.toNat_inj.1; rw [hk, h1]; rfl
        have HC := Lib.hid (HI.out.1.slash hx)
        have hex := ext_mid s fr i
        generalize (s.drop fr).take (i - fr) = cur at HC hex
        have HA := app_ready cur ho hb (by omega)
        have HX : ∀ p' c' w', Hid (w'.ownsRow w.heap.size 9 1 (.slice p' (done.length + 1) c') (done.length + 1) (done.map sv ++ [sv cur]) ∧ (wr.alloc (.cells #[.string (bas cur)] 9)).grownBy w' (Value.slice p done.length c).ownBlock) → Hid (Value.slice p' (done.length + 1) c' = .slice p' (done ++ [cur]).length c' ∧ w'.ownsRow w.heap.size 9 1 (.slice p' (done.length + 1) c') (done ++ [cur]).length ((done ++ [cur]).map sv) ∧ Below w.heap.size w w') := fun p' c' w' h => app_done cur ho hb h
        have hfrI : (fr : Int) ≤ (i : Int) := by omega
        have HFR := Lib.hid hfr
        have HX' := Lib.hid HX
        clear hx ho hb hfr HX
        subst h1
        have hq : ((47 : Nat) : Int) = 47 := rfl
        go_wp2_with (at_builtin; refine wpList_appG rfl _ _ rfl Tryd.underlying22 ti_str w.heap.size (.slice p done.length c) done.length 1 (done.map sv) [sv cur] (some ⟨wr.heap.size, 0, none⟩) 1 rfl rfl HA ?_; intro p' c' w' H')
        obtain ⟨x1, x2, x3⟩ := (HX'.out p' c' w' H').out
        exact ⟨⟨i + 1, i + 1, p', c', done ++ [cur], x1, by simp, by simp, HC.out, by omega, x2, x3⟩, by simp [RowKit.intOf]; omega⟩
      · have h1I : ((k : Int) == 47) = false := by rw [beq_eq_false_iff_ne]; omega
        have h1J : ¬ (k : Int) = 47 := by omega
        have HC := Lib.hid (HI.out.1.go hx (fun e => h1 (by rw [← hk, e]; rfl)))
        have HB := Lib.hid (And.intro ho hb)
        clear hx ho hb hfr
        go_wp2_with fail
        exact ⟨⟨i + 1, fr, p, c, done, rfl, rfl, by simp, HC.out, by omega, HB.out⟩, by simp [RowKit.intOf]; omega⟩
    · by_cases hle : i ≤ s.length
      · obtain rfl : i = s.length := by omega
        have hfr : (1 ≤ fr ∧ fr ≤ s.length ∧ done.length ≤ s.length) := by
          rcases HI.out.1 with ⟨_, h1, h2, h3, _⟩ | ⟨h, _⟩
          · exact ⟨h1, h2, h3⟩
          · omega
        have HC := Lib.hid HI.out.1.last
        have hex := ext_mid s fr s.length
        generalize (s.drop fr).take (s.length - fr) = cur at HC hex
        have HA := app_ready cur ho hb (by omega)
        have HX : ∀ p' c' w', Hid (w'.ownsRow w.heap.size 9 1 (.slice p' (done.length + 1) c') (done.length + 1) (done.map sv ++ [sv cur]) ∧ (wr.alloc (.cells #[.string (bas cur)] 9)).grownBy w' (Value.slice p done.length c).ownBlock) → Hid (Value.slice p' (done.length + 1) c' = .slice p' (done ++ [cur]).length c' ∧ w'.ownsRow w.heap.size 9 1 (.slice p' (done.length + 1) c') (done ++ [cur]).length ((done ++ [cur]).map sv) ∧ Below w.heap.size w w') := fun p' c' w' h => app_done cur ho hb h
        have hfrI : (fr : Int) ≤ (s.length : Int) := by omega
        have HX' := Lib.hid HX
        clear ho hb hfr HX
        go_wp2_with (at_builtin; refine wpList_appG rfl _ _ rfl Tryd.underlying22 ti_str w.heap.size (.slice p done.length c) done.length 1 (done.map sv) [sv cur] (some ⟨wr.heap.size, 0, none⟩) 1 rfl rfl HA ?_; intro p' c' w' H')
        obtain ⟨x1, x2, x3⟩ := (HX'.out p' c' w' H').out
        exact ⟨⟨s.length + 1, s.length + 1, p', c', done ++ [cur], x1, by simp, by simp, HC.out, by omega, x2, x3⟩, by simp [RowKit.intOf]⟩
      · have hie : i = s.length + 1 := by have := HI.out.2.1; omega
        have hnI : ¬ (i : Int) ≤ (s.length : Int) := by omega
        have hdone : done = cutAt [] (s.drop 1) := by
          rcases HI.out.1 with ⟨h, _⟩ | ⟨_, h⟩
          · omega
          · exact h
        rw [← hdone] at HE HNm
        have hlen : done.length ≤ s.length := by
          rw [hdone, cutAt_len]
          have := List.count_le_length (l := s.drop 1) (a := (47 : UInt8))
          rw [List.length_drop] at this
          omega
        have HM : Hid (∀ x ∈ done, x.length < 1000000000000000) := fun x hx => by
          rw [hdone] at hx
          have := cutAt_mem _ _ x hx
          simp at this
          omega
        obtain ⟨hnm, hcap⟩ := Nms.of_own ho
        have N1 := Lib.hid hnm
        have C1 := Lib.hid hcap
        have B1 := Lib.hid hb
        clear hdone hnm hcap ho hb HI hie hle hlt
        obtain ⟨wo, hwo⟩ : ∃ wo : World, wo = wr := ⟨_, rfl⟩
        rw [← hwo] at N1 B1 ⊢
        clear hwo
        by_cases h1 : 1024 < s.length
        · have h1I : (1024 : Int) < (s.length : Int) := by omega
          have HF : Hid (parseE s = 36) := by show _ = _; rw [HE.out, if_pos (.inl h1)]
          clear h1 HE
          go_wp2_with fail
          go_ret2
          exact ParseA.bad rfl HF.out (by decide) B1.out
        have h1I : ¬ (1024 : Int) < (s.length : Int) := by omega
        by_cases h2 : 64 < done.length
        · have h2I : (64 : Int) < (done.length : Int) := by omega
          have HF : Hid (parseE s = 36) := by show _ = _; rw [HE.out, if_pos (.inr h2)]
          clear h1 h2 HE
          go_wp2_with fail
          go_ret2
          exact ParseA.bad rfl HF.out (by decide) B1.out
        have h2I : ¬ (64 : Int) < (done.length : Int) := by omega
        have HF : Hid (parseE s = firstE done) := by show _ = _; rw [HE.out, if_neg (fun e => e.elim h1 h2)]
        clear h1 h2 HE
        go_wp2_with fail
        go_loopw [7] (fun ii wr => ∃ i : Nat, ii = .int .i64 i ∧ i ≤ done.length ∧ Hid (Below w.heap.size w wr ∧ Nms wr p done ∧ ∀ j x, j < i → done[j]? = some x → nmE x = 0)) (fun ii _ => done.length - (RowKit.intOf ii).toNat)
        case atStart => exact ⟨0, rfl, Nat.zero_le _, B1.out, N1.out, fun j x hj => by omega⟩
        case round =>
          obtain ⟨i, rfl, hi, HI⟩ := hrel
          by_cases hlt : i < done.length
          · have hltI : (i : Int) < (done.length : Int) := by omega
            obtain ⟨x, hx⟩ : ∃ x, done[i]? = some x := ⟨_, List.getElem?_eq_getElem hlt⟩
            obtain ⟨g, o, hp, hc0⟩ := HI.out.2.1 i x hx
            subst hp
            have HX : Hid (done[i]? = some x) := hx
            have hxl := HM.out x (List.mem_of_getElem? hx)
            have cn := fun W => rname_any x W hxl
            have cs := fun W => rsplit_is x hxl W
            obtain ⟨a, y, z, hv⟩ := splitV_is x (splitP x)
            rw [hv] at cs
            have HQ : Hid (nmE x = if (splitP x).isSome = true then 0 else nameN x) := rfl
            generalize (splitP x).isSome = b at cs HQ
            generalize nameN x = n at cn HQ
            clear hx hv hxl
            by_cases hn0 : n = 0
            · have HZ : Hid (nmE x = 0) := by show _ = _; rw [HQ.out, hn0]; split <;> rfl
              subst hn0
              clear HQ
              go_wp2_with (first
                | (go_at_call 16; refine Calls_on (cn _) ?_)
                | (go_at_call 17
                   refine (cs _).mono ?_
                   rintro e w2 ⟨rfl, hb2⟩
                   have HB2 := Lib.hid hb2
                   clear hb2 cs))
              have HI2 : Hid (Below w.heap.size w (w2.alloc (.cells #[.int .i64 y, .int .i64 z] 35)) ∧ Nms (w2.alloc (.cells #[.int .i64 y, .int .i64 z] 35)) (some ⟨g, o, none⟩) done ∧ ∀ j x, j < i + 1 → done[j]? = some x → nmE x = 0) := by
                obtain ⟨i1, i2, i4⟩ := HI.out
                have hb2 := below_then HB2.out (below_new w2 (.cells #[.int .i64 y, .int .i64 z] 35)).out
                refine ⟨below_then i1 hb2, i2.below hb2, fun j y hj hy => ?_⟩
                by_cases hji : j = i
                · subst hji
                  have := HX.out
                  rw [hy] at this
                  cases this
                  exact HZ.out
                · exact i4 j y (by omega) hy
              exact ⟨⟨i + 1, by simp, by omega, HI2⟩, by simp [RowKit.intOf]; omega⟩
            · have hn1 : (n != 0) = true := by simpa using hn0
              cases b with
              | true =>
                have HZ : Hid (nmE x = 0) := by show _ = _; rw [HQ.out]; rfl
                clear HQ hn0
                go_wp2_with (first
                  | (go_at_call 16; refine Calls_on (cn _) ?_)
                  | (go_at_call 17
                     refine (cs _).mono ?_
                     rintro e w2 ⟨rfl, hb2⟩
                     have HB2 := Lib.hid hb2
                     clear hb2 cs))
                have HI2 : Hid (Below w.heap.size w (w2.alloc (.cells #[.int .i64 y, .int .i64 z] 35)) ∧ Nms (w2.alloc (.cells #[.int .i64 y, .int .i64 z] 35)) (some ⟨g, o, none⟩) done ∧ ∀ j x, j < i + 1 → done[j]? = some x → nmE x = 0) := by
                  obtain ⟨i1, i2, i4⟩ := HI.out
                  have hb2 := below_then HB2.out (below_new w2 (.cells #[.int .i64 y, .int .i64 z] 35)).out
                  refine ⟨below_then i1 hb2, i2.below hb2, fun j y hj hy => ?_⟩
                  by_cases hji : j = i
                  · subst hji
                    have := HX.out
                    rw [hy] at this
                    cases this
                    exact HZ.out
                  · exact i4 j y (by omega) hy
                exact ⟨⟨i + 1, by simp, by omega, HI2⟩, by simp [RowKit.intOf]; omega⟩
              | false =>
                have HZ : Hid (nmE x = n) := by show _ = _; rw [HQ.out]; rfl
                have HN : Hid (n ≠ 0) := hn0
                have HG : Hid (parseE s = n) := by
                  show _ = _
                  rw [HF.out, ← HZ.out]
                  exact firstE_at HI.out.2.2 HX.out (by rw [HZ.out]; exact hn0)
                clear HQ hn0
                go_wp2_with (first
                  | (go_at_call 16; refine Calls_on (cn _) ?_)
                  | (go_at_call 17
                     refine (cs _).mono ?_
                     rintro e w2 ⟨rfl, hb2⟩
                     have HB2 := Lib.hid hb2
                     clear hb2 cs))
                go_ret2
                exact ParseA.bad rfl HG.out HN.out (below_then (below_then HI.out.1 HB2.out) (below_new w2 _).out)
          · obtain rfl : i = done.length := by omega
            have HG : Hid (parseE s = 0) := by
              show _ = _
              rw [HF.out]
              exact firstE_all HI.out.2.2
            go_wp2_with fail
            go_ret2
            have hnm : nmsOf s = done := by unfold nmsOf; rw [if_pos HG.out, HNm.out]
            refine ⟨p, c, ?_, ?_, ?_, HI.out.1⟩
            · rw [hnm, HG.out]; rfl
            · rw [hnm]; exact HI.out.2.1
            · rw [hnm]; exact C1.out

set_option maxRecDepth 8000 in
set_option maxHeartbeats 1000000 in
theorem rparse_any (s : List UInt8) (hl : s.length < 1000000000000) (w : World) : Calls Tryd.prog 7 #[.string (bas s)] w fun e w' => ParseA s w e w' := by
  by_cases h47 : s.head? = some 47
  · by_cases hne : s = [47]
    · subst hne
      have e1 : bas [47] = ⟨#[47]⟩ := rfl
      have hp : parseE [47] = 0 := rfl
      go_enter Tryd.func7, Tryd.ntmps7
      go_wp2_with fail
      go_ret2
      exact ⟨none, 0, rfl, Nms.nil _ _, Nat.le_refl _, Below.refl _ _⟩
    · exact rparse_some s h47 hne hl w
  · have HE : Hid (parseE s = 22) := by show _ = _; unfold parseE; rw [if_pos h47]
    cases s with
    | nil =>
      have e1 : bas [] = ⟨#[]⟩ := rfl
      clear h47
      go_enter Tryd.func7, Tryd.ntmps7
      go_wp2_with fail
      go_ret2
      exact ParseA.bad rfl HE.out (by decide) (Below.refl _ _)
    | cons x l =>
      have hx : x ≠ 47 := fun e => h47 (by rw [e]; rfl)
      have e1 : (bas (x :: l)).toList.isEmpty = false := by rw [bas_toList]; rfl
      have hsz := bas_size (x :: l)
      rw [List.length_cons] at hsz hl
      have h0I : (0 : Int) < ((l.length + 1 : Nat) : Int) := by omega
      have hci0 : ∀ h : 0 < (bas (x :: l)).size, (bas (x :: l))[0]'h = x := fun h => rfl
      obtain ⟨k, hk⟩ : ∃ k, x.toNat = k := ⟨_, rfl⟩
      have h1I : ((k : Int) != 47) = true := by
        have : k ≠ 47 := fun e => hx (by apply UInt8.toNat_inj.1; rw [hk, e]; rfl)
        rw [bne_iff_ne]; omega
      clear h47 hx
      go_enter Tryd.func7, Tryd.ntmps7
      go_wp2_with fail
      go_ret2
      exact ParseA.bad rfl HE.out (by decide) (Below.refl _ _)

end Go.Proofs.YtjggnmeeeofepaaDoor.Ck.Sh
