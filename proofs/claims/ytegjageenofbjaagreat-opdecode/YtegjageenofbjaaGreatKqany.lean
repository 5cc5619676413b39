/-
  The reader of the document's own text: bytes, truths, IDs.
-/
import Derived.Test.YtegjageenofbjaaGreatKqnum
import Derived.Test.YtegjageenofbjaaGreatKrany
import Derived.Test.YtegjageenofbjaaGreatKcodq
import Derived.Test.YtegjageenofbjaaGreatKreach
namespace Go.Proofs.YtegjageenofbjaaGreat.Cd
open Go.RowKit

theorem qbytes_end {w w1 w2 : World} {a n : Nat} {bs : List (BitVec 8)} {p q : Option Addr} {cp : Nat} {v' : Value} (H2 : Only (· = a) w w1) (hB : Below w1.heap.size w1 w2) (hk : w1.heap[a]? = some (.cells #[.slice p bs.length cp, .bool false] 76 (0, 0)))
    (hcp : bs.length ≤ cp) (hb : Bytes w1 p bs) (htg : Tg w1 p bs) (hn : n ≤ bs.length) (hpl : Plain a q) (hq : ∀ g o, p = some ⟨g, o, none⟩ → q = if n = cp then some ⟨g, o, none⟩ else some ⟨g, o + n, none⟩)
    (hown : w2.ownsRow w1.heap.size 5 1 v' (0 + (bs.take n).length) ([] ++ (bs.take n).map u8v)) :
    ∃ p' c', Didq w a (.slice p' (bs.take n).length c') (some (bs.drop n)) (.returned v') (w2.setCell ⟨a, 0, none⟩ (.slice q (bs.length - n) (cp - n))) ∧ Bytes (w2.setCell ⟨a, 0, none⟩ (.slice q (bs.length - n) (cp - n))) p' (bs.take n) ∧ (∀ b o, p' = some ⟨b, o, none⟩ → w.heap.size ≤ b) := by
  obtain ⟨k1, k2⟩ := Rd.cut (k := n) ((hB.block a (block_lt hk)).trans hk) hcp (below_bytes hB hb) ((Below.only hB (fun _ => False)).tg htg (fun _ _ _ _ f => f)) hn q hpl hq
  rw [List.nil_append, Nat.zero_add] at hown
  obtain ⟨_, p', c', rfl, _, hbb, hpb⟩ := owns_bytes hown
  refine ⟨p', c', ⟨rfl, k1, (H2.more hB).next k2⟩, k2.bytes hbb (fun b o _ e hba => ?_), fun b o e => by have := (own_lt hown (hpb b o e)).1; have := H2.size; omega⟩
  have h1 := (own_lt hown (hpb b o e)).1
  have h2 := block_lt hk
  omega

set_option maxRecDepth 8000 in
set_option maxRecDepth 8000 in
set_option maxHeartbeats 1000000 in
theorem qbytes_any (a : Nat) (s : St) (w : World) (h : Rd 76 w a s) (hl : Small s) : Calls Tryz.prog 57 #[.pointer (some ⟨a, 0, none⟩)] w fun e w' => ∃ p c, Didq w a (.slice p (rbytes s).1.length c) (rbytes s).2 e w' ∧ Bytes w' p (rbytes s).1 ∧ (∀ b o, p = some ⟨b, o, none⟩ → w.heap.size ≤ b) := by
  have c := qnum_any a s w h hl
  have hlen := rnum_len 4611686018427387904 s
  have hR := rbytes_of s _ _ (rfl : rnum top s = ((rnum top s).1, (rnum top s).2))
  rw [show top = 4611686018427387904 from rfl] at hR
  have HR : Hid (rbytes s = bytesOf (rnum 4611686018427387904 s).1 (rnum 4611686018427387904 s).2) := hR
  have hle := rnum_le 4611686018427387904 s
  generalize rnum 4611686018427387904 s = r at c hlen HR hle
  generalize rbytes s = y at HR ⊢
  obtain ⟨n, s1⟩ := r
  simp only at c hlen HR hle
  have HL : Hid (Small s1) := Nat.le_trans hlen hl
  have HLE : Hid (n ≤ 4611686018427387904) := hle
  clear h hl hlen hR hle
  go_enter Tryz.func57, Tryz.ntmps57
  go_wp2_with fail
  refine c.mono ?_
  rintro e w1 ⟨rfl, h1, h2⟩
  have c60 := qfail_any a s1 w1 h1
  have H1 : Hid (Rd 76 w1 a s1) := h1
  have H2 : Hid (Only (· = a) w w1) := h2
  obtain ⟨p, cp, hpl, k1, k2, k3, k4⟩ := h1.at_
  have HT : Hid (Tg w1 p (s1.getD [])) := k4
  clear k4
  have c0 : w1.cell? ⟨a, 0, none⟩ = some (.slice p (s1.getD []).length cp) := cellOf k1 0
  have c1 : w1.cell? ⟨a, 1, none⟩ = some (.bool s1.isNone) := cellOf k1 1
  have f0 := frozenOf k1 0
  cases s1 with
  | none =>
    have HR' : Hid (y = ([], none)) := HR
    rw [show (none : St).isNone = true from rfl] at c1
    clear c h1 h2 k1 k2 k3 hpl c0 f0
    go_wp2_with fail
    refine c60.mono ?_
    rintro e w2 ⟨rfl, m1, m2⟩
    have M1 : Hid (Rd 76 w2 a none) := m1
    have M2 : Hid (Only (· = a) w1 w2) := m2
    clear c60 m1 m2 c1
    go_wp2
    go_ret
    rw [HR'.out]
    exact ⟨none, 0, ⟨rfl, M1.out, H2.out.next M2.out⟩, bytes_nil _ _, fun b o e => by cases e⟩
  | some bs =>
    rw [show (some bs : St).isNone = false from rfl] at c1 k1
    rw [show (some bs : St).getD [] = bs from rfl] at c0 k1 k2 k3
    by_cases hb : 65536 < n ∨ bs.length < n
    · have HR' : Hid (y = ([], none)) := HR.out.trans (if_pos hb)
      by_cases hn : 65536 < n
      · have hnI : (65536 : Int) < n := by omega
        clear c h1 h2 k1 k2 k3 hpl f0 hb hn
        go_wp2_with fail
        refine c60.mono ?_
        rintro e w2 ⟨rfl, m1, m2⟩
        have M1 : Hid (Rd 76 w2 a none) := m1
        have M2 : Hid (Only (· = a) w1 w2) := m2
        clear c60 m1 m2 c1 c0
        go_wp2
        go_ret
        rw [HR'.out]
        exact ⟨none, 0, ⟨rfl, M1.out, H2.out.next M2.out⟩, bytes_nil _ _, fun b o e => by cases e⟩
      · have hnI : ¬ (65536 : Int) < n := by omega
        have hbI : (bs.length : Int) < n := by omega
        clear c h1 h2 k1 k2 k3 hpl f0 hb hn
        go_wp2_with fail
        refine c60.mono ?_
        rintro e w2 ⟨rfl, m1, m2⟩
        have M1 : Hid (Rd 76 w2 a none) := m1
        have M2 : Hid (Only (· = a) w1 w2) := m2
        clear c60 m1 m2 c1 c0
        go_wp2
        go_ret
        rw [HR'.out]
        exact ⟨none, 0, ⟨rfl, M1.out, H2.out.next M2.out⟩, bytes_nil _ _, fun b o e => by cases e⟩
    · have HR' : Hid (y = (bs.take n, some (bs.drop n))) := HR.out.trans (if_neg hb)
      have hnI : ¬ (65536 : Int) < n := by omega
      have hbI : ¬ (bs.length : Int) < n := by omega
      have hnb : n ≤ bs.length := by omega
      have HTL : Hid ((bs.take n).length = n) := by show _ = _; simp; omega
      have HB : Hid (Bytes w1 p (bs.take n)) := bytes_take k3 n
      have HO : Hid (w1.ownsRow w1.heap.size 5 1 (.slice none 0 0) 0 []) := World.ownsRow_nil _ _ _ _
      have HK1 : Hid (w1.heap[a]? = some (.cells #[.slice p bs.length cp, .bool false] 76 (0, 0))) := k1
      have HB0 : Hid (Bytes w1 p bs) := k3
      have H63 : Hid (0 + (bs.take n).length ≤ 1099511627776) := by have := HTL.out; show _ ≤ _; omega
      have tok : True := trivial
      clear c60 c h1 h2 k1 k3
      rcases hpl with rfl | ⟨g, o, rfl, hga⟩
      · obtain rfl : bs = [] := by rcases not_none HB0.out with ⟨g, o, e⟩ | e; cases e; exact e
        obtain rfl : n = 0 := by simpa using hnb
        clear tok
        go_wp2
        go_ret
        rw [HR'.out]
        exact qbytes_end H2.out (Below.refl _ _) HK1.out k2 HB0.out HT.out (Nat.le_refl _) (q := none) (.inl rfl) (by intro g o e; cases e) HO.out
      · by_cases hcp : n = cp
        · subst hcp
          obtain rfl : bs.length = n := by omega
          go_wp2_with (have tk := tok; refine wpList_append_bytes rfl _ _ rfl w1.heap.size _ 0 [] rfl HO.out (some ⟨g, o, none⟩) (bs.take bs.length) bs.length (by rw [HTL.out]; rfl) HB.out H63.out (Nat.le_refl _) ?_; clear tk tok; intro v' w2 hown hg hbl; have hB2 : Below w1.heap.size w1 w2 := (Below.refl _ _).grown hg (Nat.le_refl _) (by intro k hk; cases hk); have HB2 : Hid (Below w1.heap.size w1 w2) := hB2; have HOW : Hid (w2.ownsRow w1.heap.size 5 1 v' (0 + (bs.take bs.length).length) ([] ++ (bs.take bs.length).map u8v)) := hown; have d0 : w2.cell? ⟨a, 0, none⟩ = some (.slice (some ⟨g, o, none⟩) bs.length bs.length) := (hB2.cell (p := ⟨a, 0, none⟩) (block_lt HK1.out)).trans c0; have g0 : w2.frozen? ⟨a, 0, none⟩ = false := (hB2.frozen (p := ⟨a, 0, none⟩) (block_lt HK1.out)).trans f0; clear hown hg hbl hB2)
          go_ret
          rw [HR'.out]
          have := qbytes_end H2.out HB2.out HK1.out k2 HB0.out HT.out (Nat.le_refl _) (q := some ⟨g, o, none⟩) (.inr ⟨_, _, rfl, hga⟩) (by intro g o e; cases e; rw [if_pos rfl]) HOW.out
          rw [Nat.sub_self] at this
          exact this
        · have hcp' : ¬ cp = n := fun e => hcp e.symm
          go_wp2_with (have tk := tok; refine wpList_append_bytes rfl _ _ rfl w1.heap.size _ 0 [] rfl HO.out (some ⟨g, o, none⟩) (bs.take n) cp (by rw [HTL.out]; rfl) HB.out H63.out (Nat.le_refl _) ?_; clear tk tok; intro v' w2 hown hg hbl; have hB2 : Below w1.heap.size w1 w2 := (Below.refl _ _).grown hg (Nat.le_refl _) (by intro k hk; cases hk); have HB2 : Hid (Below w1.heap.size w1 w2) := hB2; have HOW : Hid (w2.ownsRow w1.heap.size 5 1 v' (0 + (bs.take n).length) ([] ++ (bs.take n).map u8v)) := hown; have d0 : w2.cell? ⟨a, 0, none⟩ = some (.slice (some ⟨g, o, none⟩) bs.length cp) := (hB2.cell (p := ⟨a, 0, none⟩) (block_lt HK1.out)).trans c0; have g0 : w2.frozen? ⟨a, 0, none⟩ = false := (hB2.frozen (p := ⟨a, 0, none⟩) (block_lt HK1.out)).trans f0; clear hown hg hbl hB2)
          go_ret
          rw [HR'.out]
          exact qbytes_end H2.out HB2.out HK1.out k2 HB0.out HT.out hnb (q := some ⟨g, o + n, none⟩) (.inr ⟨_, _, rfl, hga⟩) (by intro g o e; cases e; rw [if_neg hcp]) HOW.out

end Go.Proofs.YtegjageenofbjaaGreat.Cd
