/-
  How names lie in blocks: one way alone; what an entry that comes or goes does to it.
-/
import Derived.Test.YtdocablbkafkiaaDoorCsum
import Derived.Lib.Bytealg
namespace Go.Proofs.YtdocablbkafkiaaDoor.Cd

theorem less_irrefl : ∀ a, Op.bytesLess a a = false
  | [] => rfl
  | a :: x => by simp [Op.bytesLess, less_irrefl x]
theorem less_trans : ∀ a b c, Op.bytesLess a b = true → Op.bytesLess b c = true → Op.bytesLess a c = true
  | _, [], _, h, _ => by simp [Op.bytesLess] at h
  | _, _ :: _, [], _, h => by simp [Op.bytesLess] at h
  | [], _ :: _, _ :: _, _, _ => rfl
  | a :: x, b :: y, c :: z, h, k => by
    simp only [Op.bytesLess, Bool.or_eq_true, decide_eq_true_eq, Bool.and_eq_true, beq_iff_eq] at h k ⊢
    rcases h with h | ⟨rfl, h⟩
    · rcases k with k | ⟨rfl, k⟩
      · exact .inl (UInt8.lt_trans h k)
      · exact .inl h
    · rcases k with k | ⟨rfl, k⟩
      · exact .inl k
      · exact .inr ⟨rfl, less_trans _ _ _ h k⟩
theorem less_total : ∀ a b, Op.bytesLess a b = false → Op.bytesLess b a = false → a = b
  | [], [], _, _ => rfl
  | [], _ :: _, h, _ => by simp [Op.bytesLess] at h
  | _ :: _, [], _, h => by simp [Op.bytesLess] at h
  | a :: x, b :: y, h, k => by
    simp only [Op.bytesLess, Bool.or_eq_false_iff, decide_eq_false_iff_not, Bool.and_eq_false_iff, beq_eq_false_iff_ne, ne_eq] at h k
    have e : a = b := by
      rcases UInt8.lt_or_lt_of_ne (a := a) (b := b) |> fun f => (Decidable.em (a = b)).imp id f with e | e | e
      · exact e
      · exact absurd e h.1
      · exact absurd e k.1
    subst e
    rw [less_total x y (by simpa using h.2) (by simpa using k.2)]
theorem less_asymm {a b : List UInt8} (h : Op.bytesLess a b = true) : Op.bytesLess b a = false := by
  cases k : Op.bytesLess b a with
  | false => rfl
  | true => have := less_trans _ _ _ h k; rw [less_irrefl] at this; cases this
theorem less_ne {a b : List UInt8} (h : Op.bytesLess a b = true) : a ≠ b := by
  rintro rfl
  rw [less_irrefl] at h; cases h

/-- A name with its number. -/
structure En where
  name : List UInt8
  num : Nat
def En.lt (a b : En) : Prop := Op.bytesLess a.name b.name = true
theorem En.lt_trans {a b c : En} (h : a.lt b) (k : b.lt c) : a.lt c := less_trans _ _ _ h k
theorem En.lt_irrefl (a : En) : ¬ a.lt a := by unfold En.lt; rw [less_irrefl]; simp
abbrev Srt (l : List En) : Prop := l.Pairwise En.lt

/-- How many names of a block are lesser. -/
def lb (l : List En) (nm : List UInt8) : Nat := (l.takeWhile fun x => Op.bytesLess x.name nm).length
theorem lb_le (l : List En) (nm : List UInt8) : lb l nm ≤ l.length := by
  unfold lb; exact (List.takeWhile_sublist _).length_le
theorem lb_lt {l : List En} {nm : List UInt8} {i : Nat} {x : En} (h : i < lb l nm) (hx : l[i]? = some x) : Op.bytesLess x.name nm = true := by
  induction l generalizing i with
  | nil => simp at hx
  | cons y l ih =>
    unfold lb at h
    rw [List.takeWhile_cons] at h
    split at h
    · cases i with
      | zero => simp at hx; subst hx; assumption
      | succ i => exact ih (by simpa [lb] using h) (by simpa using hx)
    · simp at h
theorem lb_at {l : List En} {nm : List UInt8} {x : En} (hx : l[lb l nm]? = some x) : Op.bytesLess x.name nm = false := by
  induction l with
  | nil => simp [lb] at hx
  | cons y l ih =>
    unfold lb at hx
    rw [List.takeWhile_cons] at hx
    split at hx
    · exact ih (by simpa [lb] using hx)
    · next hh => simp at hx; subst hx; exact Bool.eq_false_iff.2 hh
theorem lb_ge {l : List En} (hs : Srt l) {nm : List UInt8} {i : Nat} {x : En} (h : lb l nm ≤ i) (hx : l[i]? = some x) : Op.bytesLess x.name nm = false := by
  rcases Nat.eq_or_lt_of_le h with e | e
  · subst e; exact lb_at hx
  · have hi := (List.getElem?_eq_some_iff.1 hx).1
    have hj : lb l nm < l.length := by omega
    have h1 := lb_at (List.getElem?_eq_getElem hj)
    have h2 := List.pairwise_iff_getElem.1 hs _ _ hj hi e
    rw [(List.getElem?_eq_some_iff.1 hx).2] at h2
    cases k : Op.bytesLess x.name nm with
    | false => rfl
    | true =>
      have h2' : Op.bytesLess _ _ = true := h2
      rw [less_trans _ _ _ h2' k] at h1; cases h1
/-- Whether a block has a name. -/
def hasB (l : List En) (nm : List UInt8) : Bool := match l[lb l nm]? with
  | some x => x.name == nm
  | none => false
theorem hasB_true {l : List En} {nm : List UInt8} (h : hasB l nm = true) : ∃ x, l[lb l nm]? = some x ∧ x.name = nm := by
  unfold hasB at h
  split at h
  · exact ⟨_, by assumption, by simpa using h⟩
  · cases h
theorem hasB_false {l : List En} (hs : Srt l) {nm : List UInt8} (h : hasB l nm = false) : ∀ x ∈ l, x.name ≠ nm := by
  intro x hx e
  obtain ⟨i, hi, rfl⟩ := List.getElem_of_mem hx
  have hx' := List.getElem?_eq_getElem hi
  have hge : lb l nm ≤ i := by
    rcases Nat.lt_or_ge i (lb l nm) with k | k
    · have := lb_lt k hx'; rw [e, less_irrefl] at this; cases this
    · exact k
  rcases Nat.eq_or_lt_of_le hge with k | k
  · unfold hasB at h
    rw [k, hx'] at h
    simp [e] at h
  · have hj : lb l nm < l.length := by omega
    have h1 := lb_at (List.getElem?_eq_getElem hj)
    have h2 := List.pairwise_iff_getElem.1 hs _ _ hj hi k
    unfold En.lt at h2
    rw [e, h1] at h2; cases h2

/-- A block that takes an entry. -/
def ins (l : List En) (a : En) : List En := l.take (lb l a.name) ++ a :: l.drop (lb l a.name)
theorem ins_length (l : List En) (a : En) : (ins l a).length = l.length + 1 := by
  have := lb_le l a.name
  simp [ins]; omega
theorem mem_ins {l : List En} {a x : En} : x ∈ ins l a ↔ x = a ∨ x ∈ l := by
  unfold ins
  rw [List.mem_append, List.mem_cons]
  conv => rhs; rw [← List.take_append_drop (lb l a.name) l, List.mem_append]
  constructor
  · rintro (h | h | h) <;> simp [h]
  · rintro (h | h | h) <;> simp [h]
theorem lb_take {l : List En} {nm : List UInt8} {x : En} (h : x ∈ l.take (lb l nm)) : Op.bytesLess x.name nm = true := by
  obtain ⟨i, hi, rfl⟩ := List.getElem_of_mem h
  rw [List.length_take] at hi
  rw [List.getElem_take]
  exact lb_lt (i := i) (l := l) (by omega) (List.getElem?_eq_getElem (by omega))
theorem lb_drop {l : List En} (hs : Srt l) {nm : List UInt8} {x : En} (h : x ∈ l.drop (lb l nm)) : Op.bytesLess x.name nm = false := by
  obtain ⟨i, hi, rfl⟩ := List.getElem_of_mem h
  rw [List.length_drop] at hi
  rw [List.getElem_drop]
  exact lb_ge hs (Nat.le_add_right _ _) (List.getElem?_eq_getElem (by omega))
theorem ins_srt {l : List En} {a : En} (hs : Srt l) (hn : ∀ x ∈ l, x.name ≠ a.name) : Srt (ins l a) := by
  unfold ins
  refine List.pairwise_append.2 ⟨hs.sublist (List.take_sublist _ _), List.pairwise_cons.2 ⟨fun x hx => ?_, hs.sublist (List.drop_sublist _ _)⟩, fun x hx y hy => ?_⟩
  · have h1 := lb_drop hs hx
    unfold En.lt
    cases k : Op.bytesLess a.name x.name with
    | true => rfl
    | false => exact absurd (less_total _ _ h1 k) (hn x (List.mem_of_mem_drop hx))
  · have h1 : x.lt a := lb_take hx
    rcases List.mem_cons.1 hy with rfl | hy
    · exact h1
    · have h2 := lb_drop hs hy
      have h3 : a.lt y := by
        unfold En.lt
        cases k : Op.bytesLess a.name y.name with
        | true => rfl
        | false => exact absurd (less_total _ _ h2 k) (hn y (List.mem_of_mem_drop hy))
      exact En.lt_trans h1 h3

theorem srt_nodup {l : List En} (hs : Srt l) : l.Nodup := hs.imp (fun {a b} h => by rintro rfl; exact En.lt_irrefl _ h)
theorem sub_length : ∀ {l m : List En}, l.Nodup → (∀ x ∈ l, x ∈ m) → l.length ≤ m.length
  | [], m, _, _ => Nat.zero_le _
  | a :: l, m, hd, hs => by
    obtain ⟨s, t, rfl⟩ := List.append_of_mem (hs a (List.mem_cons_self ..))
    have hd' := List.nodup_cons.1 hd
    have := sub_length (m := s ++ t) hd'.2 (fun x hx => by
      have h1 := hs x (List.mem_cons_of_mem _ hx)
      rw [List.mem_append, List.mem_cons] at h1
      rcases h1 with h | h | h
      · exact List.mem_append_left _ h
      · subst h; exact absurd hx hd'.1
      · exact List.mem_append_right _ h)
    simp at this ⊢; omega
theorem srt_ext : ∀ {l m : List En}, Srt l → Srt m → (∀ x, x ∈ l ↔ x ∈ m) → l = m
  | [], [], _, _, _ => rfl
  | [], b :: m, _, _, h => absurd ((h b).2 (List.mem_cons_self ..)) (by simp)
  | a :: l, [], _, _, h => absurd ((h a).1 (List.mem_cons_self ..)) (by simp)
  | a :: l, b :: m, hl, hm, h => by
    have hl' := List.pairwise_cons.1 hl
    have hm' := List.pairwise_cons.1 hm
    have e : a = b := by
      rcases List.mem_cons.1 ((h a).1 (List.mem_cons_self ..)) with e | e
      · exact e
      · rcases List.mem_cons.1 ((h b).2 (List.mem_cons_self ..)) with k | k
        · exact k.symm
        · exact absurd (En.lt_trans (hl'.1 b k) (hm'.1 a e)) (En.lt_irrefl _)
    subst e
    rw [srt_ext hl'.2 hm'.2 (fun x => ⟨fun hx => ?_, fun hx => ?_⟩)]
    · rcases List.mem_cons.1 ((h x).1 (List.mem_cons_of_mem _ hx)) with e | e
      · subst e; exact absurd (hl'.1 _ hx) (En.lt_irrefl _)
      · exact e
    · rcases List.mem_cons.1 ((h x).2 (List.mem_cons_of_mem _ hx)) with e | e
      · subst e; exact absurd (hm'.1 _ hx) (En.lt_irrefl _)
      · exact e

/-- Where one comes from i by d steps; how many steps from i to j. -/
def nx (n i d : Nat) : Nat := if i + d < n then i + d else i + d - n
def dist (n i j : Nat) : Nat := if i ≤ j then j - i else j + n - i
theorem nx_one {n i : Nat} (h : i < n) : (i + 1) % n = nx n i 1 := by
  unfold nx
  split
  · exact Nat.mod_eq_of_lt (by omega)
  · have : i + 1 = n := by omega
    rw [this]; simp

/-- The blocks between where a name is sought first and block j are full of lesser names. -/
def Passes (H : List UInt8 → Nat → Nat) (n : Nat) (D : List (List En)) (a : En) (j : Nat) : Prop :=
  ∀ t, t < dist n (H a.name n) j → ∃ b, D[nx n (H a.name n) t]? = some b ∧ b.length = 7 ∧ ∀ x ∈ b, x.lt a
/-- The one way in which entries lie in n blocks. -/
structure WF (H : List UInt8 → Nat → Nat) (n : Nat) (D : List (List En)) : Prop where
  len : D.length = n
  srt : ∀ (j : Nat) b, D[j]? = some b → Srt b
  room : ∀ (j : Nat) b, D[j]? = some b → b.length ≤ 7
  path : ∀ (j : Nat) b, D[j]? = some b → ∀ a ∈ b, Passes H n D a j
  apart : ∀ (i j : Nat) b c, D[i]? = some b → D[j]? = some c → i ≠ j → ∀ x ∈ b, ∀ y ∈ c, x.name ≠ y.name
def HOk (H : List UInt8 → Nat → Nat) : Prop := ∀ a n, 0 < n → H a n < n
def Absent (D : List (List En)) (nm : List UInt8) : Prop := ∀ (j : Nat) b, D[j]? = some b → ∀ x ∈ b, x.name ≠ nm

theorem set_get {D : List (List En)} {i j : Nat} {b c : List En} (h : (D.set i b)[j]? = some c) : (i = j ∧ b = c ∧ j < D.length) ∨ (i ≠ j ∧ D[j]? = some c) := by
  rw [List.getElem?_set] at h
  split at h
  · split at h
    · exact .inl ⟨by assumption, by simpa using h, by omega⟩
    · cases h
  · exact .inr ⟨by assumption, h⟩

theorem WF.empty (H : List UInt8 → Nat → Nat) (n : Nat) : WF H n (List.replicate n []) := by
  have e : ∀ (j : Nat) b, (List.replicate n ([] : List En))[j]? = some b → b = [] := fun j b h => by
    rw [List.getElem?_replicate] at h
    split at h
    · simpa using h.symm
    · cases h
  refine ⟨by simp, fun j b h => ?_, fun j b h => ?_, fun j b h a ha => ?_, fun i j b c hb hc _ x hx => ?_⟩
  · rw [e j b h]; exact List.Pairwise.nil
  · rw [e j b h]; simp
  · rw [e j b h] at ha; simp at ha
  · rw [e i b hb] at hx; simp at hx

/-- An entry is laid into a block with room. -/
theorem WF.lay {H : List UInt8 → Nat → Nat} {n : Nat} {D : List (List En)} (h : WF H n D) {a : En} {i : Nat} {b : List En} (hb : D[i]? = some b) (hr : b.length < 7) (hp : Passes H n D a i) (ha : Absent D a.name) : WF H n (D.set i (ins b a)) := by
  have pass : ∀ f j, Passes H n D f j → Passes H n (D.set i (ins b a)) f j := fun f j hf t ht => by
    obtain ⟨c, hc, h7, hl⟩ := hf t ht
    have : i ≠ nx n (H f.name n) t := by
      rintro e
      rw [← e, hb] at hc
      cases hc; omega
    exact ⟨c, by rw [List.getElem?_set_ne this]; exact hc, h7, hl⟩
  refine ⟨by simpa using h.len, fun j c hc => ?_, fun j c hc => ?_, fun j c hc f hf => ?_, fun p q c d hc hd hpq x hx y hy => ?_⟩
  · rcases set_get hc with ⟨rfl, rfl, _⟩ | ⟨_, hc⟩
    · exact ins_srt (h.srt i b hb) (ha i b hb)
    · exact h.srt j c hc
  · rcases set_get hc with ⟨rfl, rfl, _⟩ | ⟨_, hc⟩
    · rw [ins_length]; omega
    · exact h.room j c hc
  · refine pass f j ?_
    rcases set_get hc with ⟨rfl, rfl, _⟩ | ⟨_, hc⟩
    · rcases mem_ins.1 hf with rfl | hf
      · exact hp
      · exact h.path i b hb f hf
    · exact h.path j c hc f hf
  · rcases set_get hc with ⟨rfl, rfl, _⟩ | ⟨k1, hc'⟩ <;> rcases set_get hd with ⟨e, rfl, _⟩ | ⟨k2, hd'⟩
    · exact absurd e hpq
    · rcases mem_ins.1 hx with rfl | hx
      · exact fun e => ha q d hd' y hy e.symm
      · exact h.apart i q b d hb hd' hpq x hx y hy
    · rcases mem_ins.1 hy with rfl | hy
      · exact ha p c hc' x hx
      · rw [← e] at hpq
        exact h.apart p i c b hc' hb hpq x hx y hy
    · exact h.apart p q c d hc' hd' hpq x hx y hy

theorem take_ins {b : List En} {a : En} (h7 : b.length = 7) (hs : Srt b) (hn : ∀ x ∈ b, x.name ≠ a.name) : ∃ z, (ins b a)[7]? = some z ∧ ins b a = (ins b a).take 7 ++ [z] ∧ (∀ x ∈ (ins b a).take 7, x.lt z) ∧ (z = a ∨ z ∈ b) := by
  have hl := ins_length b a
  have h8 : 7 < (ins b a).length := by omega
  have e : (ins b a)[7]? = some (ins b a)[7] := List.getElem?_eq_getElem h8
  have e2 : ins b a = (ins b a).take 7 ++ [(ins b a)[7]] := by
    conv => lhs; rw [← List.take_append_drop 7 (ins b a)]
    rw [List.drop_eq_getElem_cons h8, List.drop_of_length_le (by omega)]
  refine ⟨(ins b a)[7], e, e2, fun x hx => ?_, mem_ins.1 (List.getElem_mem h8)⟩
  have := ins_srt hs hn
  rw [e2] at this
  exact (List.pairwise_append.1 this).2.2 x hx _ (by simp)

/-- An entry is laid into a block that is full: the greatest one goes on. -/
theorem WF.push {H : List UInt8 → Nat → Nat} {n : Nat} {D : List (List En)} (h : WF H n D) (hH : HOk H) {a z : En} {i : Nat} {b : List En} (hb : D[i]? = some b) (hr : b.length = 7) (hp : Passes H n D a i) (ha : Absent D a.name) (hz : (ins b a)[7]? = some z) :
    WF H n (D.set i ((ins b a).take 7)) ∧ Passes H n (D.set i ((ins b a).take 7)) z (nx n i 1) ∧ Absent (D.set i ((ins b a).take 7)) z.name := by
  have hi : i < n := by rw [← h.len]; exact (List.getElem?_eq_some_iff.1 hb).1
  have hn : 0 < n := by omega
  obtain ⟨z', hz', e8, hlt, hor⟩ := take_ins hr (h.srt i b hb) (ha i b hb)
  obtain rfl : z' = z := Option.some.inj (hz'.symm.trans hz)
  have h7 : ((ins b a).take 7).length = 7 := by rw [List.length_take, ins_length]; omega
  have hmem : ∀ x, x ∈ ins b a ↔ x ∈ (ins b a).take 7 ∨ x = z' := fun x => by
    conv => lhs; rw [e8]
    simp
  -- what is in the block now is lesser than all that passed it
  have below : ∀ f : En, (∀ x ∈ b, x.lt f) → ∀ x ∈ (ins b a).take 7, x.lt f := fun f hf x hx => by
    rcases mem_ins.1 ((hmem x).2 (.inl hx)) with rfl | hx'
    · rcases hor with rfl | hz
      · exact absurd (hlt _ hx) (En.lt_irrefl _)
      · exact En.lt_trans (hlt _ hx) (hf _ hz)
    · exact hf x hx'
  have pass : ∀ f j, Passes H n D f j → Passes H n (D.set i ((ins b a).take 7)) f j := fun f j hf t ht => by
    obtain ⟨c, hc, hc7, hl⟩ := hf t ht
    by_cases e : i = nx n (H f.name n) t
    · rw [← e, hb] at hc
      cases hc
      exact ⟨_, by rw [← e, List.getElem?_set_self (by rw [h.len]; exact hi)], h7, below f hl⟩
    · exact ⟨c, by rw [List.getElem?_set_ne e]; exact hc, hc7, hl⟩
  have hzp : Passes H n D z' i := by
    rcases hor with rfl | hz
    · exact hp
    · exact h.path i b hb _ hz
  refine ⟨⟨by simpa using h.len, fun j c hc => ?_, fun j c hc => ?_, fun j c hc f hf => ?_, fun p q c d hc hd hpq x hx y hy => ?_⟩, fun t ht => ?_, fun j c hc x hx => ?_⟩
  · rcases set_get hc with ⟨rfl, rfl, _⟩ | ⟨_, hc⟩
    · exact (ins_srt (h.srt i b hb) (ha i b hb)).sublist (List.take_sublist _ _)
    · exact h.srt j c hc
  · rcases set_get hc with ⟨rfl, rfl, _⟩ | ⟨_, hc⟩
    · omega
    · exact h.room j c hc
  · refine pass f j ?_
    rcases set_get hc with ⟨rfl, rfl, _⟩ | ⟨_, hc⟩
    · rcases mem_ins.1 (List.mem_of_mem_take hf) with rfl | hf
      · exact hp
      · exact h.path i b hb f hf
    · exact h.path j c hc f hf
  · rcases set_get hc with ⟨rfl, rfl, _⟩ | ⟨k1, hc'⟩ <;> rcases set_get hd with ⟨e, rfl, _⟩ | ⟨k2, hd'⟩
    · exact absurd e hpq
    · rcases mem_ins.1 (List.mem_of_mem_take hx) with rfl | hx
      · exact fun e => ha q d hd' y hy e.symm
      · exact h.apart i q b d hb hd' hpq x hx y hy
    · rcases mem_ins.1 (List.mem_of_mem_take hy) with rfl | hy
      · exact ha p c hc' x hx
      · rw [← e] at hpq
        exact h.apart p i c b hc' hb hpq x hx y hy
    · exact h.apart p q c d hc' hd' hpq x hx y hy
  · have hh := hH z'.name n hn
    by_cases e : t = dist n (H z'.name n) i
    · have ei : nx n (H z'.name n) t = i := by subst e; unfold nx dist; split <;> split <;> omega
      rw [ei]
      exact ⟨_, List.getElem?_set_self (by rw [h.len]; exact hi), h7, hlt⟩
    · refine pass z' i hzp t ?_
      revert ht e
      unfold dist nx
      split <;> split <;> split <;> omega
  · rcases set_get hc with ⟨rfl, rfl, _⟩ | ⟨k1, hc'⟩
    · exact less_ne (hlt x hx)
    · rcases hor with rfl | hz
      · exact ha j c hc' x hx
      · exact h.apart j i c b hc' hb (Ne.symm k1) x hx _ hz

/-- Two that hold the same entries are the same. -/
theorem WF.mem_same {H : List UInt8 → Nat → Nat} {n : Nat} {D E : List (List En)} (h : WF H n D) (k : WF H n E) (hH : HOk H) (hm : ∀ a, a ∈ D.flatten ↔ a ∈ E.flatten) :
    ∀ (m : Nat) (a : En), (D.flatten.filter fun x => Op.bytesLess x.name a.name).length ≤ m → ∀ (j : Nat), (∃ b, D[j]? = some b ∧ a ∈ b) ↔ (∃ b, E[j]? = some b ∧ a ∈ b) := by
  have inD : ∀ (l : List (List En)) (a : En), a ∈ l.flatten ↔ ∃ (j : Nat) (b : List En), l[j]? = some b ∧ a ∈ b := fun l a => by
    rw [List.mem_flatten]
    constructor
    · rintro ⟨b, hb, ha⟩
      obtain ⟨j, hj⟩ := List.mem_iff_getElem?.1 hb
      exact ⟨j, b, hj, ha⟩
    · rintro ⟨j, b, hb, ha⟩
      exact ⟨b, List.mem_of_getElem? hb, ha⟩
  intro m
  induction m with
  | zero =>
    intro a hl
    have none : ∀ x, x ∈ D.flatten → ¬ x.lt a := fun x hx hlt => by
      have : x ∈ D.flatten.filter fun x => Op.bytesLess x.name a.name := List.mem_filter.2 ⟨hx, hlt⟩
      have := List.length_pos_of_mem this
      omega
    -- it stands where it is sought first
    have at0 : ∀ (F : List (List En)), WF H n F → (∀ x, x ∈ F.flatten → ¬ x.lt a) → ∀ j b, F[j]? = some b → a ∈ b → j = H a.name n := fun F hF hno j b hb ha => by
      have hj : j < n := by rw [← hF.len]; exact (List.getElem?_eq_some_iff.1 hb).1
      have hh := hH a.name n (by omega)
      rcases Nat.eq_zero_or_pos (dist n (H a.name n) j) with e | e
      · revert e; unfold dist; split <;> omega
      · obtain ⟨c, hc, h7, hl⟩ := hF.path j b hb a ha 0 e
        have h0 : 0 < c.length := by omega
        exact absurd (hl c[0] (List.getElem_mem h0)) (hno _ ((inD F _).2 ⟨_, c, hc, List.getElem_mem h0⟩))
    intro j
    constructor
    · rintro ⟨b, hb, ha⟩
      obtain ⟨j', c, hc, ha'⟩ := (inD E a).1 ((hm a).1 ((inD D a).2 ⟨j, b, hb, ha⟩))
      have e1 := at0 D h none j b hb ha
      have e2 := at0 E k (fun x hx => none x ((hm x).2 hx)) j' c hc ha'
      rw [e1, ← e2]; exact ⟨c, hc, ha'⟩
    · rintro ⟨b, hb, ha⟩
      obtain ⟨j', c, hc, ha'⟩ := (inD D a).1 ((hm a).2 ((inD E a).2 ⟨j, b, hb, ha⟩))
      have e1 := at0 D h none j' c hc ha'
      have e2 := at0 E k (fun x hx => none x ((hm x).2 hx)) j b hb ha
      rw [e2, ← e1]; exact ⟨c, hc, ha'⟩
  | succ m ih =>
    intro a hl
    -- the lesser ones lie alike
    have low : ∀ x, x ∈ D.flatten → x.lt a → ∀ (j : Nat), (∃ b, D[j]? = some b ∧ x ∈ b) ↔ (∃ b, E[j]? = some b ∧ x ∈ b) := fun x hx hlt => by
      refine ih x ?_
      have : (D.flatten.filter fun y => Op.bytesLess y.name x.name).length < (D.flatten.filter fun y => Op.bytesLess y.name a.name).length := by
        have e : (D.flatten.filter fun y => Op.bytesLess y.name x.name) = (D.flatten.filter fun y => Op.bytesLess y.name a.name).filter fun y => Op.bytesLess y.name x.name := by
          rw [List.filter_filter]
          congr 1
          funext y
          cases hy : Op.bytesLess y.name x.name with
          | false => simp
          | true => simp [less_trans _ _ _ hy hlt]
        rw [e]
        refine List.length_filter_lt_length_iff_exists.2 ⟨x, List.mem_filter.2 ⟨hx, hlt⟩, ?_⟩
        simp [less_irrefl]
      omega
    -- of two places of it none is ahead of the other
    have no : ∀ (F G : List (List En)), WF H n F → WF H n G → (∀ x, x ∈ G.flatten → x.lt a → ∀ (j : Nat), (∃ b, G[j]? = some b ∧ x ∈ b) → (∃ b, F[j]? = some b ∧ x ∈ b)) →
        ∀ j1 b1 j2 b2, F[j1]? = some b1 → a ∈ b1 → G[j2]? = some b2 → a ∈ b2 → ¬ dist n (H a.name n) j1 < dist n (H a.name n) j2 := fun F G hF hG hFG j1 b1 j2 b2 h1 m1 h2 m2 hlt => by
      have hj1 : j1 < n := by rw [← hF.len]; exact (List.getElem?_eq_some_iff.1 h1).1
      have hh := hH a.name n (by omega)
      obtain ⟨c, hc, h7, hcl⟩ := hG.path j2 b2 h2 a m2 _ hlt
      have ei : nx n (H a.name n) (dist n (H a.name n) j1) = j1 := by unfold nx dist; split <;> split <;> omega
      rw [ei] at hc
      have hsub : ∀ x ∈ a :: c, x ∈ b1 := fun x hx => by
        rcases List.mem_cons.1 hx with rfl | hx
        · exact m1
        · obtain ⟨b, hb, hxb⟩ := hFG x ((inD G x).2 ⟨j1, c, hc, hx⟩) (hcl x hx) j1 ⟨c, hc, hx⟩
          rw [h1] at hb; cases hb; exact hxb
      have hd : (a :: c).Nodup := List.nodup_cons.2 ⟨fun hx => En.lt_irrefl _ (hcl a hx), srt_nodup (hG.srt j1 c hc)⟩
      have h8 := sub_length hd hsub
      have := hF.room j1 b1 h1
      rw [List.length_cons] at h8
      omega
    intro j
    have same : ∀ j1 b1 j2 b2, D[j1]? = some b1 → a ∈ b1 → E[j2]? = some b2 → a ∈ b2 → j1 = j2 := fun j1 b1 j2 b2 h1 m1 h2 m2 => by
      have hj1 : j1 < n := by rw [← h.len]; exact (List.getElem?_eq_some_iff.1 h1).1
      have hj2 : j2 < n := by rw [← k.len]; exact (List.getElem?_eq_some_iff.1 h2).1
      have hh := hH a.name n (by omega)
      have n1 := no D E h k (fun x hx hlt j => (low x ((hm x).2 hx) hlt j).2) j1 b1 j2 b2 h1 m1 h2 m2
      have n2 := no E D k h (fun x hx hlt j => (low x hx hlt j).1) j2 b2 j1 b1 h2 m2 h1 m1
      revert n1 n2; unfold dist; split <;> split <;> omega
    constructor
    · rintro ⟨b, hb, ha⟩
      obtain ⟨j', c, hc, ha'⟩ := (inD E a).1 ((hm a).1 ((inD D a).2 ⟨j, b, hb, ha⟩))
      rw [same j b j' c hb ha hc ha']; exact ⟨c, hc, ha'⟩
    · rintro ⟨b, hb, ha⟩
      obtain ⟨j', c, hc, ha'⟩ := (inD D a).1 ((hm a).2 ((inD E a).2 ⟨j, b, hb, ha⟩))
      rw [← same j' c j b hc ha' hb ha]; exact ⟨c, hc, ha'⟩
theorem WF.same {H : List UInt8 → Nat → Nat} {n : Nat} {D E : List (List En)} (h : WF H n D) (k : WF H n E) (hH : HOk H) (hm : ∀ a, a ∈ D.flatten ↔ a ∈ E.flatten) : D = E := by
  refine List.ext_getElem (by rw [h.len, k.len]) fun j h1 h2 => ?_
  refine srt_ext (h.srt j _ (List.getElem?_eq_getElem h1)) (k.srt j _ (List.getElem?_eq_getElem h2)) fun a => ?_
  have := h.mem_same k hH hm _ a (Nat.le_refl _) j
  rw [List.getElem?_eq_getElem h1, List.getElem?_eq_getElem h2] at this
  simpa using this

/-- An entry goes out of a block that was not full. -/
theorem WF.drop {H : List UInt8 → Nat → Nat} {n : Nat} {D : List (List En)} (h : WF H n D) {i : Nat} {b c : List En} (hb : D[i]? = some b) (hr : b.length < 7) (hc : c.Sublist b) : WF H n (D.set i c) := by
  have pass : ∀ f j, Passes H n D f j → Passes H n (D.set i c) f j := fun f j hf t ht => by
    obtain ⟨d, hd, h7, hl⟩ := hf t ht
    have : i ≠ nx n (H f.name n) t := by
      rintro e
      rw [← e, hb] at hd
      cases hd; omega
    exact ⟨d, by rw [List.getElem?_set_ne this]; exact hd, h7, hl⟩
  have old : ∀ (j : Nat) d, (D.set i c)[j]? = some d → ∃ d', D[j]? = some d' ∧ d.Sublist d' := fun j d hd => by
    rcases set_get hd with ⟨rfl, rfl, _⟩ | ⟨_, hd'⟩
    · exact ⟨b, hb, hc⟩
    · exact ⟨d, hd', List.Sublist.refl _⟩
  refine ⟨by simpa using h.len, fun j d hd => ?_, fun j d hd => ?_, fun j d hd f hf => ?_, fun p q x y hx hy hpq u hu v hv => ?_⟩
  · obtain ⟨d', h1, h2⟩ := old j d hd; exact (h.srt j d' h1).sublist h2
  · obtain ⟨d', h1, h2⟩ := old j d hd; exact Nat.le_trans h2.length_le (h.room j d' h1)
  · obtain ⟨d', h1, h2⟩ := old j d hd; exact pass f j (h.path j d' h1 f (h2.subset hf))
  · obtain ⟨x', h1, h2⟩ := old p x hx
    obtain ⟨y', h3, h4⟩ := old q y hy
    exact h.apart p q x' y' h1 h3 hpq u (h2.subset hu) v (h4.subset hv)

theorem nx_cases {n i d : Nat} : (i + d < n ∧ nx n i d = i + d) ∨ (n ≤ i + d ∧ nx n i d = i + d - n) := by
  unfold nx; split <;> omega
theorem dist_cases {n i j : Nat} : (i ≤ j ∧ dist n i j = j - i) ∨ (j < i ∧ dist n i j = j + n - i) := by
  unfold dist; split <;> omega
theorem ar1 {n i j h t T : Nat} (hi : i < n) (hj : j < n) (hh : h < n) (hT : T < n) (ht : t < dist n h j) (hs : dist n i (nx n h t) ≤ T + 1) (hout : ¬ dist n (nx n i 1) j ≤ T) (e1 : nx n (nx n i 1) T ≠ i) :
    t + (T + 1 - dist n i (nx n h t)) < dist n h j ∧ nx n h (t + (T + 1 - dist n i (nx n h t))) = nx n (nx n i 1) T := by
  have a1 := @nx_cases n h t
  have a2 := @nx_cases n i 1
  generalize nx n h t = k at *
  generalize nx n i 1 = i1 at *
  have a3 := @nx_cases n i1 T
  have a4 := @dist_cases n h j
  have a5 := @dist_cases n i k
  have a6 := @dist_cases n i1 j
  generalize nx n i1 T = m at *
  generalize dist n h j = d1 at *
  generalize dist n i k = d2 at *
  generalize dist n i1 j = d3 at *
  have a7 := @nx_cases n h (t + (T + 1 - d2))
  generalize nx n h (t + (T + 1 - d2)) = r at *
  omega
theorem ar2 {n i j T : Nat} (hi : i < n) (hj : j < n) (e1 : nx n (nx n i 1) T = i) : dist n (nx n i 1) j ≤ T := by
  have a2 := @nx_cases n i 1
  generalize nx n i 1 = i1 at *
  have a3 := @nx_cases n i1 T
  have a6 := @dist_cases n i1 j
  omega
theorem ar3 {n i k T : Nat} (hi : i < n) (hk : k < n) (e1 : dist n (nx n i 1) k ≤ T) : dist n i k ≤ T + 1 := by
  have a2 := @nx_cases n i 1
  generalize nx n i 1 = i1 at *
  have a3 := @dist_cases n i1 k
  have a6 := @dist_cases n i k
  omega
theorem ar4 {n h j t : Nat} (hj : j < n) (hh : h < n) (ht : t < dist n h j) : nx n h t < n := by
  have a2 := @nx_cases n h t
  have a6 := @dist_cases n h j
  omega
/-- Blocks are emptied from behind i up to one that is not full. -/
theorem WF.cut {H : List UInt8 → Nat → Nat} {n : Nat} {D E : List (List En)} (h : WF H n D) (hH : HOk H) {i T : Nat} (hi : i < n) (hT : T < n) {b c : List En} (hb : D[i]? = some b) (hc : c.Sublist b) (hlen : E.length = n)
    (hE : ∀ j, j < n → E[j]? = if dist n (nx n i 1) j ≤ T then some [] else if j = i then some c else D[j]?)
    (hm : nx n (nx n i 1) T = i ∨ ∀ d, D[nx n (nx n i 1) T]? = some d → d.length < 7) : WF H n E := by
  have old : ∀ (j : Nat) d, E[j]? = some d → ∃ d', D[j]? = some d' ∧ d.Sublist d' := fun j d hd => by
    have hj : j < n := by rw [← hlen]; exact (List.getElem?_eq_some_iff.1 hd).1
    rw [hE j hj] at hd
    split at hd
    · cases hd
      exact ⟨D[j]'(by rw [h.len]; exact hj), List.getElem?_eq_getElem _, List.nil_sublist _⟩
    · split at hd
      · cases hd; subst j; exact ⟨b, hb, hc⟩
      · exact ⟨d, hd, List.Sublist.refl _⟩
  refine ⟨hlen, fun j d hd => ?_, fun j d hd => ?_, fun j d hd f hf => ?_, fun p q x y hx hy hpq u hu v hv => ?_⟩
  · obtain ⟨d', h1, h2⟩ := old j d hd; exact (h.srt j d' h1).sublist h2
  · obtain ⟨d', h1, h2⟩ := old j d hd; exact Nat.le_trans h2.length_le (h.room j d' h1)
  · have hj : j < n := by rw [← hlen]; exact (List.getElem?_eq_some_iff.1 hd).1
    have hout : ¬ dist n (nx n i 1) j ≤ T := by
      intro e
      rw [hE j hj, if_pos e] at hd
      cases hd; simp at hf
    obtain ⟨d', h1, h2⟩ := old j d hd
    have hp := h.path j d' h1 f (h2.subset hf)
    have hh := hH f.name n (by omega)
    intro t ht
    obtain ⟨e, he, h7, hl⟩ := hp t ht
    have hk := ar4 hj hh ht
    -- a block that the path has passed is not among the emptied ones, nor is it i
    have far : ¬ dist n i (nx n (H f.name n) t) ≤ T + 1 := by
      intro hs
      -- the block at which the emptying ended stands on the path
      by_cases e1 : nx n (nx n i 1) T = i
      · exact hout (ar2 hi hj e1)
      · have hnf := hm.resolve_left e1
        have : ∃ t', t' < dist n (H f.name n) j ∧ nx n (H f.name n) t' = nx n (nx n i 1) T := ⟨_, ar1 hi hj hh hT ht hs hout e1⟩
        obtain ⟨t', ht', e2⟩ := this
        obtain ⟨g, hg, g7, _⟩ := hp t' ht'
        rw [e2] at hg
        have := hnf g hg
        omega
    refine ⟨e, ?_, h7, hl⟩
    rw [hE _ hk, if_neg, if_neg, he]
    · intro e1; refine far ?_; rw [e1]; unfold dist; simp
    · exact fun e1 => far (ar3 hi hk e1)
  · obtain ⟨x', h1, h2⟩ := old p x hx
    obtain ⟨y', h3, h4⟩ := old q y hy
    exact h.apart p q x' y' h1 h3 hpq u (h2.subset hu) v (h4.subset hv)

end Go.Proofs.YtdocablbkafkiaaDoor.Cd
