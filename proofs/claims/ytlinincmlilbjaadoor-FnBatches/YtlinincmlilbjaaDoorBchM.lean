/-
  The mathematics of FnBatches: of a batch's bytes of which one was turned none is told; what is told, written again, is what stood there.
-/
import Derived.Test.YtlinincmlilbjaaDoorLogM
namespace Go.Proofs.YtlinincmlilbjaaDoor
open Go.RowKit

theorem xor_cancel {a b c : Nat} (h : a ^^^ b = a ^^^ c) : b = c := by
  have := congrArg (fun x => a ^^^ x) h
  simpa [← Nat.xor_assoc] using this
theorem xor_cancel2 {a b c : Nat} (h : b ^^^ a = c ^^^ a) : b = c := by
  rw [Nat.xor_comm b, Nat.xor_comm c] at h
  exact xor_cancel h
theorem tab_low : ∀ i, i < 16 → tab.getD i 0 % 16 = i := by decide
theorem half_parts {c h : Nat} (hc : c < 65536) (hh : h < 16) : half c h % 16 = (c / 4096) ^^^ h := by
  unfold half
  have hi : (c / 4096) ^^^ h < 16 := Nat.xor_lt_two_pow (n := 4) (by omega) hh
  have m := Nat.xor_mod_two_pow (a := c * 16 % 65536) (b := tab.getD ((c / 4096) ^^^ h) 0) (n := 4)
  have z : c * 16 % 65536 % 2 ^ 4 = 0 := by omega
  rw [z, Nat.zero_xor] at m
  have m : ((c * 16 % 65536) ^^^ tab.getD ((c / 4096) ^^^ h) 0) % 16 = tab.getD ((c / 4096) ^^^ h) 0 % 16 := m
  rw [m, tab_low _ hi]
theorem half_inj1 {c d h : Nat} (hc : c < 65536) (hd : d < 65536) (hh : h < 16) (e : half c h = half d h) : c = d := by
  have e1 := half_parts hc hh
  rw [e, half_parts hd hh] at e1
  have e2 := xor_cancel2 e1
  unfold half at e
  rw [e2] at e
  have e3 := xor_cancel2 e
  omega
theorem crc4_inj {c d : Nat} (hc : c < 65536) (hd : d < 65536) (e : crc4 c = crc4 d) : c = d := by
  rw [crc4_eq c hc, crc4_eq d hd] at e
  exact half_inj1 hc hd (by omega) e
theorem crc4_lt {c : Nat} (h : c < 65536) : crc4 c < 65536 := crcBit_lt (crcBit_lt (crcBit_lt (crcBit_lt h)))
theorem xor256 {c b : Nat} (hc : c < 65536) (hb : b < 256) : c ^^^ b * 256 < 65536 := Nat.xor_lt_two_pow (n := 16) hc (by omega)
theorem byte_inj1 {c d b : Nat} (hc : c < 65536) (hd : d < 65536) (hb : b < 256) (e : crcByte c b = crcByte d b) : c = d := by
  unfold crcByte at e
  have h1 := xor256 hc hb
  have h2 := xor256 hd hb
  exact xor_cancel2 (crc4_inj h1 h2 (crc4_inj (crc4_lt h1) (crc4_lt h2) e))
theorem byte_inj2 {c a b : Nat} (hc : c < 65536) (ha : a < 256) (hb : b < 256) (e : crcByte c a = crcByte c b) : a = b := by
  unfold crcByte at e
  have h1 := xor256 hc ha
  have h2 := xor256 hc hb
  have := xor_cancel (crc4_inj h1 h2 (crc4_inj (crc4_lt h1) (crc4_lt h2) e))
  omega
theorem crcFold_inj (l : List UInt8) : ∀ c d : Nat, c < 65536 → d < 65536 → l.foldl (fun c b => crcByte c b.toNat) c = l.foldl (fun c b => crcByte c b.toNat) d → c = d := by
  induction l with
  | nil => exact fun c d _ _ h => h
  | cons b r ih =>
    intro c d hc hd h
    have hb : b.toNat < 256 := b.toNat_lt
    rw [List.foldl_cons, List.foldl_cons] at h
    have h2 := ih (crcByte c b.toNat) (crcByte d b.toNat) (crcByte_lt hc hb) (crcByte_lt hd hb) h
    exact byte_inj1 hc hd hb h2
theorem crc_one {p q : List UInt8} {x y : UInt8} (h : crcOf (p ++ x :: q) = crcOf (p ++ y :: q)) : x = y := by
  have hp : crcOf p < 65536 := crcFold_lt p 65535 (by omega)
  have e : ∀ z : UInt8, crcOf (p ++ z :: q) = q.foldl (fun c b => crcByte c b.toNat) (crcByte (crcOf p) z.toNat) := fun z => by
    unfold crcOf
    rw [List.foldl_append, List.foldl_cons]
  rw [e x, e y] at h
  generalize crcOf p = C at h hp
  have hx : x.toNat < 256 := x.toNat_lt
  have hy : y.toNat < 256 := y.toNat_lt
  have h1 := crcFold_inj q (crcByte C x.toNat) (crcByte C y.toNat) (crcByte_lt hp hx) (crcByte_lt hp hy) h
  exact UInt8.toNat_inj.1 (byte_inj2 hp hx hy h1)

/-- A batch's bytes: what is ahead of the records, the records, the sum. -/
theorem encB_parts (b : Bt) : encB b = frontOf b.off.toNat b.ep.toNat b.pr.toNat b.sq.toNat b.recs ++ be 2 (crcOf (frontOf b.off.toNat b.ep.toNat b.pr.toNat b.sq.toNat b.recs)) := rfl
theorem front_len (b : Bt) : (frontOf b.off.toNat b.ep.toNat b.pr.toNat b.sq.toNat b.recs).length = (encB b).length - 2 := by
  rw [encB_parts, List.length_append, be_length]; omega
theorem encB_tail (b : Bt) : (encB b).drop 11 = be 1 b.recs.length ++ (recBytes b.recs ++ be 2 (crcOf (frontOf b.off.toNat b.ep.toNat b.pr.toNat b.sq.toNat b.recs))) := by
  have e : encB b = (be 2 ((bodyOf b.off.toNat b.ep.toNat b.pr.toNat b.sq.toNat b.recs).length + 2) ++ be 3 b.off.toNat ++ be 2 b.ep.toNat ++ be 2 b.pr.toNat ++ be 2 b.sq.toNat) ++ (be 1 b.recs.length ++ (recBytes b.recs ++ be 2 (crcOf (frontOf b.off.toNat b.ep.toNat b.pr.toNat b.sq.toNat b.recs)))) := by
    rw [encB_parts]
    simp only [frontOf, bodyOf, List.append_assoc]
  rw [e]
  exact List.drop_left' (by simp [be_length])
theorem be1_inj {m n : Nat} (hm : m < 256) (hn : n < 256) (h : be 1 m = be 1 n) : m = n := by
  have := congrArg val h
  rwa [val_be 1 m (by simpa using hm), val_be 1 n (by simpa using hn)] at this
/-- Bytes that begin with the records of one good batch, and with those of another one. -/
theorem recs_same {a b : Bt} (ha : a.good = true) (hb : b.good = true) {t : List UInt8} (h : (encB a).drop 11 = (encB b).drop 11 ++ t) : t = [] := by
  have ga := good_all (o := a.off) (e := a.ep) (p := a.pr) (q := a.sq) (ss := a.recs) ha
  have gb := good_all (o := b.off) (e := b.ep) (p := b.pr) (q := b.sq) (ss := b.recs) hb
  obtain ⟨_, _, _, _, _, _, _, _, _, _, _, _, a1, a2, a3⟩ := ga
  obtain ⟨_, _, _, _, _, _, _, _, _, _, _, _, b1, b2, b3⟩ := gb
  rw [encB_tail, encB_tail, List.append_assoc, List.append_assoc] at h
  obtain ⟨h1, h2⟩ := List.append_inj h (by rw [be_length, be_length])
  have hm := be1_inj (by omega) (by omega) h1
  have t1 := takeRecs_bytes (be 2 (crcOf (frontOf a.off.toNat a.ep.toNat a.pr.toNat a.sq.toNat a.recs))) a.recs (fun s hs => by have := a3 s hs; omega)
  have t2 := takeRecs_bytes (be 2 (crcOf (frontOf b.off.toNat b.ep.toNat b.pr.toNat b.sq.toNat b.recs)) ++ t) b.recs (fun s hs => by have := b3 s hs; omega)
  rw [h2, hm, t2] at t1
  simp only [Option.some.injEq, Prod.mk.injEq] at t1
  have := congrArg List.length t1.2
  rw [List.length_append, be_length, be_length] at this
  exact List.eq_nil_of_length_eq_zero (by omega)
theorem turned_whole {a b : Bt} {p q : List UInt8} {x y : UInt8} (he : encB b = p ++ x :: q) (hxy : x ≠ y) (hea : encB a = p ++ y :: q) : False := by
  have hN : (encB a).length = (encB b).length := by rw [he, hea]; simp
  have h14 := encB_ge b
  have la := front_len a
  have lb := front_len b
  have pa := encB_parts a
  have pb := encB_parts b
  generalize frontOf a.off.toNat a.ep.toNat a.pr.toNat a.sq.toNat a.recs = fa at *
  generalize frontOf b.off.toNat b.ep.toNat b.pr.toNat b.sq.toNat b.recs = fb at *
  have hlen : (encB b).length = p.length + (q.length + 1) := by rw [he]; simp
  by_cases hk : p.length < fb.length
  · -- one of the bytes that are summed
    have q1 : fb = p ++ x :: q.take (fb.length - p.length - 1) := by
      have : fb = (encB b).take fb.length := by rw [pb, List.take_left' rfl]
      rw [he, List.take_append, List.take_of_length_le (by omega), show fb.length - p.length = (fb.length - p.length - 1) + 1 from by omega, List.take_succ_cons] at this
      exact this
    have q2 : fa = p ++ y :: q.take (fb.length - p.length - 1) := by
      have : fa = (encB a).take fb.length := by rw [pa, List.take_left' (by omega)]
      rw [hea, List.take_append, List.take_of_length_le (by omega), show fb.length - p.length = (fb.length - p.length - 1) + 1 from by omega, List.take_succ_cons] at this
      exact this
    have d1 : be 2 (crcOf fb) = q.drop (fb.length - p.length - 1) := by
      have : be 2 (crcOf fb) = (encB b).drop fb.length := by rw [pb, List.drop_left' rfl]
      rw [he, List.drop_append, List.drop_of_length_le (by omega), List.nil_append, show fb.length - p.length = (fb.length - p.length - 1) + 1 from by omega, List.drop_succ_cons] at this
      exact this
    have d2 : be 2 (crcOf fa) = q.drop (fb.length - p.length - 1) := by
      have : be 2 (crcOf fa) = (encB a).drop fb.length := by rw [pa, List.drop_left' (by omega)]
      rw [hea, List.drop_append, List.drop_of_length_le (by omega), List.nil_append, show fb.length - p.length = (fb.length - p.length - 1) + 1 from by omega, List.drop_succ_cons] at this
      exact this
    have hc : crcOf fb = crcOf fa := by
      have h1 := congrArg val (d1.trans d2.symm)
      rwa [val_be 2 _ (by have := crcFold_lt fb 65535 (by omega); simpa [crcOf] using this), val_be 2 _ (by have := crcFold_lt fa 65535 (by omega); simpa [crcOf] using this)] at h1
    rw [q1, q2] at hc
    exact hxy (crc_one hc)
  · -- the sum itself
    have q1 : fb = p.take fb.length := by
      have : fb = (encB b).take fb.length := by rw [pb, List.take_left' rfl]
      rwa [he, List.take_append_of_le_length (by omega)] at this
    have q2 : fa = p.take fb.length := by
      have : fa = (encB a).take fb.length := by rw [pa, List.take_left' (by omega)]
      rwa [hea, List.take_append_of_le_length (by omega)] at this
    have e : encB a = encB b := by rw [pa, pb, q2, ← q1]
    rw [he, hea] at e
    have := List.append_cancel_left e
    simp only [List.cons.injEq, and_true] at this
    exact hxy this.symm
/-- Of a batch's bytes of which one was turned none is told. -/
theorem take_turned {b : Bt} (hg : b.good = true) {p q : List UInt8} {x y : UInt8} (he : encB b = p ++ x :: q) (hxy : x ≠ y) : specTake (p ++ y :: q) 0 = none := by
  unfold specTake
  split
  · rename_i hc
    rw [List.drop_zero] at hc ⊢
    cases hd : specDec (p ++ y :: q) with
    | none => rfl
    | some a =>
      exfalso
      rw [specDec_iff] at hd
      obtain ⟨ga, hea⟩ := hd
      have hN : (encB b).length = (p ++ y :: q).length := by rw [he]; simp
      have hL : lenOf (p ++ y :: q) ≤ (encB b).length := by rw [hN]; exact hc.2
      have hla : (encB a).length = lenOf (p ++ y :: q) := by
        rw [hea, List.length_take]
        exact Nat.min_eq_left hc.2
      have h14 := encB_ge a
      by_cases hk : p.length < 11
      · -- the records stand where they stood
        have hd : (p ++ y :: q).drop 11 = (encB b).drop 11 := by
          rw [he, List.drop_append, List.drop_append, show 11 - p.length = (10 - p.length) + 1 from by omega, List.drop_succ_cons, List.drop_succ_cons]
        have e1 : (encB b).drop 11 = (encB a).drop 11 ++ (p ++ y :: q).drop (lenOf (p ++ y :: q)) := by
          rw [← hd]
          have e2 : (encB a).drop 11 = ((p ++ y :: q).drop 11).take (lenOf (p ++ y :: q) - 11) := by
            rw [hea, List.drop_take]
            rfl
          rw [e2]
          have e3 : (p ++ y :: q).drop (lenOf (p ++ y :: q)) = ((p ++ y :: q).drop 11).drop (lenOf (p ++ y :: q) - 11) := by
            rw [List.drop_drop]
            congr 1
            omega
          rw [e3, List.take_append_drop]
        have e4 := recs_same hg ga e1
        have e5 : (encB a).length = (encB b).length := by
          have := congrArg List.length e4
          rw [List.length_drop] at this
          simp at this
          have hh : (p ++ y :: q).length = p.length + (q.length + 1) := by simp
          omega
        exact turned_whole he hxy (by rw [hea]; exact List.take_of_length_le (by show _ ≤ lenOf (p ++ y :: q); omega))
      · have e2 : (p ++ y :: q).take 2 = (encB b).take 2 := by
          rw [he, List.take_append_of_le_length (by omega), List.take_append_of_le_length (by omega)]
        have e3 : lenOf (p ++ y :: q) = (encB b).length := by
          unfold lenOf; rw [e2]; exact encB_front hg
        exact turned_whole he hxy (by rw [hea]; exact List.take_of_length_le (by show _ ≤ lenOf (p ++ y :: q); omega))
  · rfl
/-- What is told, written again, is what stood there. -/
theorem take_again {l : List UInt8} {n e : Nat} {b : Bt} (h : specTake l n = some (b, e)) : b.good = true ∧ e ≤ l.length ∧ n ≤ e ∧ encB b = (l.drop n).take (e - n) := by
  unfold specTake at h
  split at h
  · rename_i hc
    cases hd : specDec (l.drop n) with
    | none => rw [hd] at h; simp at h
    | some a =>
      rw [hd] at h
      simp only [Option.map_some, Option.some.injEq, Prod.mk.injEq] at h
      obtain ⟨rfl, rfl⟩ := h
      rw [specDec_iff] at hd
      obtain ⟨ga, hea⟩ := hd
      have h2 := hc.2
      rw [List.length_drop] at h2
      have : 2 ≤ lenOf (l.drop n) := by unfold lenOf; omega
      refine ⟨ga, by omega, by omega, ?_⟩
      rw [hea, Nat.add_sub_cancel_left]
      rfl
  · simp at h

end Go.Proofs.YtlinincmlilbjaaDoor
