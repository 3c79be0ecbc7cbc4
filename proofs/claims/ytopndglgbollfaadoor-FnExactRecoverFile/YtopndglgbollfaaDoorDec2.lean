/-
  One batch from bytes, plainly: read and then written again (the specification), or by its sum (the program): the same batches.
-/
import Derived.Test.YtopndglgbollfaaDoorDec
namespace Go.Proofs.YtopndglgbollfaaDoor

/-- Bytes of a batch, in pieces. -/
structure Cut (t x0 x1 x2 x3 x4 : List UInt8) (n : UInt8) (y z : List UInt8) : Prop where
  eq : t = x0 ++ (x1 ++ (x2 ++ (x3 ++ (x4 ++ (n :: (y ++ z))))))
  l0 : x0.length = 2
  l1 : x1.length = 3
  l2 : x2.length = 2
  l3 : x3.length = 2
  l4 : x4.length = 2
  lz : z.length = 2

theorem cut_of {t : List UInt8} (h : 14 ≤ t.length) : ∃ x0 x1 x2 x3 x4 n y z, Cut t x0 x1 x2 x3 x4 n y z := by
  have e0 := List.take_append_drop 2 t
  have e1 := List.take_append_drop 3 (t.drop 2)
  have e2 := List.take_append_drop 2 ((t.drop 2).drop 3)
  have e3 := List.take_append_drop 2 (((t.drop 2).drop 3).drop 2)
  have e4 := List.take_append_drop 2 ((((t.drop 2).drop 3).drop 2).drop 2)
  generalize hx5 : (((((t.drop 2).drop 3).drop 2).drop 2).drop 2) = x5 at *
  have l5 : x5.length = t.length - 11 := by rw [← hx5]; simp [List.length_drop]
  match x5, l5, hx5 with
  | [], l5, _ => simp at l5; omega
  | n :: r, l5, hx5 =>
    simp at l5
    refine ⟨t.take 2, (t.drop 2).take 3, ((t.drop 2).drop 3).take 2, (((t.drop 2).drop 3).drop 2).take 2, ((((t.drop 2).drop 3).drop 2).drop 2).take 2, n, r.take (r.length - 2), r.drop (r.length - 2), ?_, ?_, ?_, ?_, ?_, ?_, ?_⟩
    · rw [List.take_append_drop, e4, e3, e2, e1, e0]
    all_goals (simp only [List.length_take, List.length_drop]; omega)

def hdr (r : List UInt8) (ss : List ByteArray) : Bt :=
  ⟨(val ((r.drop 2).take 3) : Nat), (val ((r.drop 5).take 2) : Nat), (val ((r.drop 7).take 2) : Nat), (val ((r.drop 9).take 2) : Nat), ss⟩

theorem Cut.hdr {t x0 x1 x2 x3 x4 y z : List UInt8} {n : UInt8} (h : Cut t x0 x1 x2 x3 x4 n y z) (r : List UInt8) (ss : List ByteArray) : Go.Proofs.YtopndglgbollfaaDoor.hdr (t ++ r) ss = ⟨(val x1 : Nat), (val x2 : Nat), (val x3 : Nat), (val x4 : Nat), ss⟩ := by
  obtain ⟨rfl, l0, l1, l2, l3, l4, lz⟩ := h
  simp [Go.Proofs.YtopndglgbollfaaDoor.hdr, List.drop_append, l0, l1, l2, l3, l4, List.drop_eq_nil_of_le]

theorem Cut.nth {t x0 x1 x2 x3 x4 y z : List UInt8} {n : UInt8} (h : Cut t x0 x1 x2 x3 x4 n y z) (r : List UInt8) : (t ++ r).getD 11 0 = n := by
  obtain ⟨rfl, l0, l1, l2, l3, l4, lz⟩ := h
  simp [List.getElem?_append, l0, l1, l2, l3, l4]

theorem Cut.tail {t x0 x1 x2 x3 x4 y z : List UInt8} {n : UInt8} (h : Cut t x0 x1 x2 x3 x4 n y z) : t.drop 12 = y ++ z := by
  obtain ⟨rfl, l0, l1, l2, l3, l4, lz⟩ := h
  simp [List.drop_append, l0, l1, l2, l3, l4, List.drop_eq_nil_of_le]

theorem Cut.length {t x0 x1 x2 x3 x4 y z : List UInt8} {n : UInt8} (h : Cut t x0 x1 x2 x3 x4 n y z) : t.length = 14 + y.length := by
  obtain ⟨rfl, l0, l1, l2, l3, l4, lz⟩ := h
  simp [l0, l1, l2, l3, l4, lz]; omega

theorem Cut.front {t x0 x1 x2 x3 x4 y z : List UInt8} {n : UInt8} (h : Cut t x0 x1 x2 x3 x4 n y z) : t.take (t.length - 2) = x0 ++ (x1 ++ (x2 ++ (x3 ++ (x4 ++ (n :: y))))) ∧ t.drop (t.length - 2) = z := by
  have hl := h.length
  obtain ⟨rfl, l0, l1, l2, l3, l4, lz⟩ := h
  have e : x0 ++ (x1 ++ (x2 ++ (x3 ++ (x4 ++ (n :: (y ++ z)))))) = (x0 ++ (x1 ++ (x2 ++ (x3 ++ (x4 ++ (n :: y)))))) ++ z := by simp
  have l : (x0 ++ (x1 ++ (x2 ++ (x3 ++ (x4 ++ (n :: y)))))).length = (x0 ++ (x1 ++ (x2 ++ (x3 ++ (x4 ++ (n :: (y ++ z))))))).length - 2 := by simp [lz]; omega
  rw [← l, e]
  exact ⟨List.take_left' rfl, List.drop_left' rfl⟩

theorem Cut.take2 {t x0 x1 x2 x3 x4 y z : List UInt8} {n : UInt8} (h : Cut t x0 x1 x2 x3 x4 n y z) (r : List UInt8) : (t ++ r).take 2 = x0 := by
  obtain ⟨rfl, l0, l1, l2, l3, l4, lz⟩ := h
  rw [List.append_assoc]
  exact List.take_left' l0

/-- A batch's bytes. -/
def encB (b : Bt) : List UInt8 := bytesOf b.off.toNat b.ep.toNat b.pr.toNat b.sq.toNat b.recs

theorem bytesOf_len (o e p q : Nat) (ss : List ByteArray) : (bytesOf o e p q ss).length = 14 + recLen ss := by
  simp only [bytesOf, frontOf, List.length_append, be_length, bodyOf_length]; omega

/-- What the specification reads at the head of r: L bytes are looked at. -/
def specDec (r : List UInt8) : Option Bt :=
  match takeRecs (r.getD 11 0).toNat ((r.take (2 + val (r.take 2))).drop 12) with
  | none => none
  | some (ss, _) => if (hdr r ss).good = true ∧ encB (hdr r ss) = r.take (2 + val (r.take 2)) then some (hdr r ss) else none

/-- What the program reads at the head of t, L bytes that are there. -/
def implDec (t : List UInt8) : Option Bt :=
  if crcOf (t.take (t.length - 2)) = val (t.drop (t.length - 2)) then
    match takeRecs (t.getD 11 0).toNat ((t.take (t.length - 2)).drop 12) with
    | some (ss, []) => if (hdr t ss).good = true then some (hdr t ss) else none
    | _ => none
  else none

theorem one_of {n : UInt8} {k : Nat} (h : [n] = be 1 k) (hk : k < 256) : n.toNat = k := by
  have : be 1 k = [UInt8.ofNat k] := by simp [be, beByte]
  rw [this] at h
  simp only [List.cons.injEq, and_true] at h
  rw [h, UInt8.toNat_ofNat']; omega

/-- A good batch's bytes in pieces: the pieces are its own. -/
theorem cut_enc {o e p q : Nat} {ss : List ByteArray} {x0 x1 x2 x3 x4 y z : List UInt8} {n : UInt8} (h : Cut (bytesOf o e p q ss) x0 x1 x2 x3 x4 n y z) :
    x0 = be 2 (12 + recLen ss) ∧ x1 = be 3 o ∧ x2 = be 2 e ∧ x3 = be 2 p ∧ x4 = be 2 q ∧ [n] = be 1 ss.length ∧ y = recBytes ss ∧ z = be 2 (crcOf (frontOf o e p q ss)) := by
  obtain ⟨he, l0, l1, l2, l3, l4, lz⟩ := h
  have fr : frontOf o e p q ss = be 2 (12 + recLen ss) ++ bodyOf o e p q ss := by
    unfold frontOf; rw [bodyOf_length, show 10 + recLen ss + 2 = 12 + recLen ss from by omega]
  have e0 : ∀ c, frontOf o e p q ss ++ be 2 c = be 2 (12 + recLen ss) ++ (be 3 o ++ (be 2 e ++ (be 2 p ++ (be 2 q ++ (be 1 ss.length ++ (recBytes ss ++ be 2 c)))))) := by
    intro c; rw [fr]; simp [bodyOf]
  unfold bytesOf at he
  rw [e0] at he
  obtain ⟨a0, he⟩ := List.append_inj he (by rw [be_length, l0])
  obtain ⟨a1, he⟩ := List.append_inj he (by rw [be_length, l1])
  obtain ⟨a2, he⟩ := List.append_inj he (by rw [be_length, l2])
  obtain ⟨a3, he⟩ := List.append_inj he (by rw [be_length, l3])
  obtain ⟨a4, he⟩ := List.append_inj he (by rw [be_length, l4])
  obtain ⟨a5, he⟩ := List.append_inj (s₂ := be 1 ss.length) (t₁ := y ++ z) (s₁ := [n]) (t₂ := recBytes ss ++ be 2 (crcOf (frontOf o e p q ss))) he.symm (by rw [be_length]; rfl)
  obtain ⟨a6, a7⟩ := List.append_inj' he (by rw [be_length, lz])
  exact ⟨a0.symm, a1.symm, a2.symm, a3.symm, a4.symm, a5, a6, a7⟩

theorem val_be_of {m n : Nat} {l : List UInt8} (h : l = be m n) (hn : n < 256 ^ m) : val l = n := by rw [h, val_be m n hn]

/-- A good batch's bytes are read as that batch. -/
theorem dec_of_enc {b : Bt} (hg : b.good = true) {x0 x1 x2 x3 x4 y z : List UInt8} {n : UInt8} (h : Cut (encB b) x0 x1 x2 x3 x4 n y z) :
    takeRecs n.toNat (y ++ z) = some (b.recs, z) ∧ takeRecs n.toNat y = some (b.recs, []) ∧ (⟨(val x1 : Nat), (val x2 : Nat), (val x3 : Nat), (val x4 : Nat), b.recs⟩ : Bt) = b ∧ val x0 = 12 + recLen b.recs ∧
      crcOf (x0 ++ (x1 ++ (x2 ++ (x3 ++ (x4 ++ (n :: y)))))) = val z := by
  obtain ⟨o, e, p, q, ss⟩ := b
  obtain ⟨o, e, p, q, rfl, rfl, rfl, rfl, h1, h2, h3, h4, -, h5, h6⟩ := good_all hg
  have hh : Cut (bytesOf o e p q ss) x0 x1 x2 x3 x4 n y z := by simpa [encB] using h
  obtain ⟨a0, a1, a2, a3, a4, a5, a6, a7⟩ := cut_enc hh
  have hf := hh.front
  have hn := one_of a5 (by omega)
  have hrl := recLen_le ss h6
  have hs : ∀ s, s ∈ ss → s.size < 256 := fun s hs => by have := h6 s hs; omega
  refine ⟨?_, ?_, ?_, ?_, ?_⟩
  · rw [hn, a6]; exact takeRecs_bytes z ss hs
  · rw [hn, a6]; simpa using takeRecs_bytes [] ss hs
  · simp only [Bt.mk.injEq, Int.natCast_inj, and_true]
    exact ⟨val_be_of a1 (by omega), val_be_of a2 (by omega), val_be_of a3 (by omega), val_be_of a4 (by omega)⟩
  · show val x0 = 12 + recLen ss
    exact val_be_of a0 (by show _ < 256 ^ 2; omega)
  · rw [← hf.1, val_be_of a7 (by have := crcOf_lt (frontOf o e p q ss); show _ < 256 ^ 2; omega)]
    have e1 : (bytesOf o e p q ss).length - 2 = (frontOf o e p q ss).length := by
      unfold bytesOf; rw [List.length_append, be_length]; omega
    rw [e1]
    unfold bytesOf
    rw [List.take_left' rfl]

/-- What the program reads is a good batch whose bytes these are. -/
theorem enc_of_impl {t x0 x1 x2 x3 x4 y z : List UInt8} {n : UInt8} {ss : List ByteArray} (h : Cut t x0 x1 x2 x3 x4 n y z) (hL : 2 + val x0 = t.length) (hc : crcOf (x0 ++ (x1 ++ (x2 ++ (x3 ++ (x4 ++ (n :: y)))))) = val z)
    (hr : takeRecs n.toNat y = some (ss, [])) : encB ⟨(val x1 : Nat), (val x2 : Nat), (val x3 : Nat), (val x4 : Nat), ss⟩ = t := by
  obtain ⟨e1, e2, e3⟩ := takeRecs_inv _ _ _ _ hr
  rw [List.append_nil] at e1
  have hl := h.length
  have hrl : recLen ss = y.length := by rw [e1]; rfl
  have b0 : x0 = be 2 (12 + recLen ss) := by
    have := be_val 2 x0 h.l0
    have e : val x0 = 12 + recLen ss := by omega
    rw [e] at this
    exact this.symm
  have b1 := be_val 3 x1 h.l1
  have b2 := be_val 2 x2 h.l2
  have b3 := be_val 2 x3 h.l3
  have b4 := be_val 2 x4 h.l4
  have b5 : be 1 ss.length = [n] := by
    have := be_val 1 [n] rfl
    have v : val [n] = n.toNat := by simp [val]
    rw [v] at this
    rw [e2, this]
  have b7 := be_val 2 z h.lz
  have fr : frontOf (val x1) (val x2) (val x3) (val x4) ss = x0 ++ (x1 ++ (x2 ++ (x3 ++ (x4 ++ (n :: y))))) := by
    unfold frontOf
    rw [bodyOf_length, show 10 + recLen ss + 2 = 12 + recLen ss from by omega, ← b0]
    unfold bodyOf
    rw [b1, b2, b3, b4, b5, ← e1]
    simp
  show bytesOf (val x1) (val x2) (val x3) (val x4) ss = t
  unfold bytesOf
  rw [fr, hc, b7, h.eq]
  simp

theorem implDec_iff {t : List UInt8} (h14 : 14 ≤ t.length) (hL : 2 + val (t.take 2) = t.length) (b : Bt) : implDec t = some b ↔ b.good = true ∧ encB b = t := by
  obtain ⟨x0, x1, x2, x3, x4, n, y, z, h⟩ := cut_of h14
  have t2 : t.take 2 = x0 := by simpa using h.take2 []
  have t11 : t.getD 11 0 = n := by simpa using h.nth []
  have th : ∀ ss, hdr t ss = ⟨(val x1 : Nat), (val x2 : Nat), (val x3 : Nat), (val x4 : Nat), ss⟩ := fun ss => by simpa using h.hdr [] ss
  have fd : (x0 ++ (x1 ++ (x2 ++ (x3 ++ (x4 ++ (n :: y)))))).drop 12 = y := by
    simp [List.drop_append, h.l0, h.l1, h.l2, h.l3, h.l4, List.drop_eq_nil_of_le]
  rw [t2] at hL
  unfold implDec
  rw [h.front.1, h.front.2, t11, fd]
  constructor
  · intro hd
    by_cases hc : crcOf (x0 ++ (x1 ++ (x2 ++ (x3 ++ (x4 ++ (n :: y)))))) = val z
    · rw [if_pos hc] at hd
      split at hd
      · rename_i ss hr
        rw [th] at hd
        split at hd
        · rename_i hg
          simp only [Option.some.injEq] at hd
          subst hd
          exact ⟨hg, enc_of_impl h hL hc hr⟩
        · cases hd
      · cases hd
    · rw [if_neg hc] at hd; cases hd
  · rintro ⟨hg, rfl⟩
    obtain ⟨-, k2, k3, -, k5⟩ := dec_of_enc hg h
    rw [if_pos k5, k2]
    simp only [th, k3]
    rw [if_pos hg]

theorem specDec_iff {r : List UInt8} (b : Bt) : specDec r = some b ↔ b.good = true ∧ encB b = r.take (2 + val (r.take 2)) := by
  unfold specDec
  constructor
  · intro hd
    split at hd
    · cases hd
    · rename_i ss rest hr
      split at hd
      · rename_i hg
        simp only [Option.some.injEq] at hd
        subst hd
        exact hg
      · cases hd
  · rintro ⟨hg, he⟩
    have hge : 14 ≤ (encB b).length := by unfold encB; rw [bytesOf_len]; omega
    rw [he] at hge
    obtain ⟨x0, x1, x2, x3, x4, n, y, z, h⟩ := cut_of hge
    have er : r = r.take (2 + val (r.take 2)) ++ r.drop (2 + val (r.take 2)) := (List.take_append_drop _ _).symm
    have r11 : r.getD 11 0 = n := by rw [er]; exact h.nth _
    have rh : ∀ ss, hdr r ss = ⟨(val x1 : Nat), (val x2 : Nat), (val x3 : Nat), (val x4 : Nat), ss⟩ := fun ss => by rw [er]; exact h.hdr _ ss
    rw [r11, h.tail]
    rw [← he] at h
    obtain ⟨k1, -, k3, -, -⟩ := dec_of_enc hg h
    rw [k1]
    simp only [rh, k3]
    rw [if_pos ⟨hg, he⟩]

/-- Read and written again, or by the sum: the same. -/
theorem dec_same {r : List UInt8} (hL : 2 + val (r.take 2) ≤ r.length) (hL14 : 14 ≤ 2 + val (r.take 2)) : implDec (r.take (2 + val (r.take 2))) = specDec r := by
  have hlen : (r.take (2 + val (r.take 2))).length = 2 + val (r.take 2) := by rw [List.length_take]; omega
  have ht : (r.take (2 + val (r.take 2))).take 2 = r.take 2 := by rw [List.take_take]; congr 1; omega
  have h1 := implDec_iff (t := r.take (2 + val (r.take 2))) (by omega) (by rw [ht, hlen])
  have h2 := specDec_iff (r := r)
  cases hs : specDec r with
  | some b => exact (h1 b).2 ((h2 b).1 hs)
  | none =>
    cases hi : implDec (r.take (2 + val (r.take 2))) with
    | none => rfl
    | some b =>
      have := (h2 b).2 ((h1 b).1 hi)
      rw [hs] at this; cases this

theorem specDec_short {r : List UInt8} (hs : 2 + val (r.take 2) < 14) : specDec r = none := by
  cases h : specDec r with
  | none => rfl
  | some b =>
    obtain ⟨-, he⟩ := (specDec_iff b).1 h
    have hge : 14 ≤ (encB b).length := by unfold encB; rw [bytesOf_len]; omega
    rw [he, List.length_take] at hge
    omega

end Go.Proofs.YtopndglgbollfaaDoor
