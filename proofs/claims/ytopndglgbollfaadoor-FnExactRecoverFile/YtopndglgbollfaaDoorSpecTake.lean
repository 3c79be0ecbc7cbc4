/-
  One batch taken at a place, the specification's side: the contract of spec.l1Take.
-/
import Derived.Test.YtopndglgbollfaaDoorTake3
import Derived.Deep.AppendLies
namespace Go.Proofs.YtopndglgbollfaaDoor
open Go.RowKit

/-- What the specification takes at a place. -/
def specTake (l : List UInt8) (n : Nat) : Option (Bt × Nat) :=
  if 14 ≤ (l.drop n).length ∧ lenOf (l.drop n) ≤ (l.drop n).length then (specDec (l.drop n)).map (fun b => (b, n + lenOf (l.drop n))) else none

/-- What spec.l1Take answers. -/
def TookS (l : List UInt8) (n B : Nat) (w' : World) (b : Bt) (a : Option Addr) (c : Nat) (z : Int) : Prop :=
  ((∃ e : Nat, z = e ∧ 0 < e ∧ specTake l n = some (b, e)) ∧ w'.ownsRow B 9 1 (.slice a b.recs.length c) b.recs.length (strVals b.recs)) ∨ (z = 0 ∧ b = ⟨0, 0, 0, 0, []⟩ ∧ a = none ∧ c = 0 ∧ specTake l n = none)

theorem spec_none {r : List UInt8} (h : takeRecs (r.getD 11 0).toNat ((r.take (lenOf r)).drop 12) = none) : specDec r = none := by
  unfold lenOf at h
  unfold specDec; rw [h]

theorem spec_some {r : List UInt8} {ss : List ByteArray} {rest : List UInt8} (h : takeRecs (r.getD 11 0).toNat ((r.take (lenOf r)).drop 12) = some (ss, rest)) :
    specDec r = if (hdr r ss).good = true ∧ encB (hdr r ss) = r.take (lenOf r) then some (hdr r ss) else none := by
  unfold lenOf at h ⊢
  unfold specDec; rw [h]

/-- The bytes from a place on, one ahead. -/
theorem dcons {s : ByteArray} {n L q : Nat} (hq : q < L) (hL : n + L ≤ s.size) : ((s.data.toList.drop n).take L).drop q = s[n + q]'(by omega) :: ((s.data.toList.drop n).take L).drop (q + 1) := by
  rw [List.drop_eq_getElem_cons (by rw [List.length_take, List.length_drop, size_len]; omega)]
  congr 1
  rw [List.getElem_take, List.getElem_drop]
  rfl

theorem dlen {s : ByteArray} {n L : Nat} (q : Nat) (hL : n + L ≤ s.size) : (((s.data.toList.drop n).take L).drop q).length = L - q := by
  rw [List.length_drop, List.length_take, List.length_drop, size_len]; omega

/-- What is left to be read, while records are read. -/
def LeftT (s : ByteArray) (n L N : Nat) (q r : Nat) (ss : List ByteArray) : Prop :=
  takeRecs N (((s.data.toList.drop n).take L).drop 12) = (takeRecs r (((s.data.toList.drop n).take L).drop q)).map (fun x => (ss ++ x.1, x.2))

theorem left_end {s : ByteArray} {n L N q r : Nat} {ss : List ByteArray} (h : LeftT s n L N q (r + 1) ss) (hL : n + L ≤ s.size) (hq : L ≤ q) : takeRecs N (((s.data.toList.drop n).take L).drop 12) = none := by
  unfold LeftT at h
  have e : ((s.data.toList.drop n).take L).drop q = [] := List.eq_nil_of_length_eq_zero (by rw [dlen q hL]; omega)
  rw [h, e]; rfl

theorem left_wide {s : ByteArray} {n L N q r : Nat} {ss : List ByteArray} (h : LeftT s n L N q (r + 1) ss) (hL : n + L ≤ s.size) (hq : q < L) (hb : L - q - 1 < (s[n + q]'(by omega)).toNat) : takeRecs N (((s.data.toList.drop n).take L).drop 12) = none := by
  unfold LeftT at h
  rw [h, dcons hq hL, takeRecs, if_neg (by rw [dlen _ hL]; omega)]; rfl

theorem left_next {s : ByteArray} {n L N q r : Nat} {ss : List ByteArray} (h : LeftT s n L N q (r + 1) ss) (hL : n + L ≤ s.size) (hq : q < L) (hb : (s[n + q]'(by omega)).toNat ≤ L - q - 1) :
    LeftT s n L N (q + 1 + (s[n + q]'(by omega)).toNat) r (ss ++ [s.extract (n + q + 1) (n + q + 1 + (s[n + q]'(by omega)).toNat)]) := by
  unfold LeftT at h ⊢
  have hx := extract_eq s (n + q + 1) (n + q + 1 + (s[n + q]'(by omega)).toNat)
  rw [Nat.add_sub_cancel_left] at hx
  have e : ((((s.data.toList.drop n).take L).drop (q + 1)).take (s[n + q]'(by omega)).toNat) = (s.data.toList.drop (n + q + 1)).take (s[n + q]'(by omega)).toNat := by
    rw [List.drop_take, List.take_take, List.drop_drop, Nat.min_eq_left (by omega), Nat.add_assoc]
  rw [h, dcons hq hL, takeRecs, if_pos (by rw [dlen _ hL]; omega), List.drop_drop, Option.map_map, e, ← hx]
  congr 1
  funext x
  simp

theorem left_done {s : ByteArray} {n L N q : Nat} {ss : List ByteArray} (h : LeftT s n L N q 0 ss) : takeRecs N (((s.data.toList.drop n).take L).drop 12) = some (ss, ((s.data.toList.drop n).take L).drop q) := by
  unfold LeftT at h
  rw [h]; simp [takeRecs]

theorem left_wide' {s : ByteArray} {n L N q r kk : Nat} {ss : List ByteArray} (hkk : n + q = kk) (h : LeftT s n L N q (r + 1) ss) (hL : n + L ≤ s.size) (hq : q < L) (hks : kk < s.size) (hb : L - q - 1 < (s[kk]'hks).toNat) : takeRecs N (((s.data.toList.drop n).take L).drop 12) = none := by
  subst hkk; exact left_wide h hL hq hb

theorem left_next' {s : ByteArray} {n L N q r kk : Nat} {ss : List ByteArray} (hkk : n + q = kk) (h : LeftT s n L N q (r + 1) ss) (hL : n + L ≤ s.size) (hq : q < L) (hks : kk < s.size) (hb : (s[kk]'hks).toNat ≤ L - q - 1) :
    LeftT s n L N (q + 1 + (s[kk]'hks).toNat) r (ss ++ [s.extract (kk + 1) (kk + 1 + (s[kk]'hks).toNat)]) := by
  subst hkk; exact left_next h hL hq hb

theorem rec_sizes {s : ByteArray} {n L N q : Nat} {ss : List ByteArray} (h : LeftT s n L N q 0 ss) : ∀ x, x ∈ ss → x.size < 256 := (takeRecs_inv _ _ _ _ (left_done h)).2.2

/-- A batch's cells. -/
def batV (x0 x1 x2 x3 : Int) (v : Value) (j : Nat) : Value := if j = 0 then .int .i64 x0 else if j = 1 then .int .i64 x1 else if j = 2 then .int .i64 x2 else if j = 3 then .int .i64 x3 else v

/-- What holds while records are read: the answer's place is still empty, the batch's holds its numbers and the records read. -/
structure TkSt (w : World) (A1 A2 A3 A4 : Nat) (wr : World) (v : Value) (ss : List ByteArray) : Prop where
  res : wr.rowIs w.heap.size 60 5 (batV 0 0 0 0 (.slice none 0 0))
  bat : wr.rowIs (w.heap.size + 1) 60 5 (batV A1 A2 A3 A4 v)
  own : wr.ownsRow (w.heap.size + 2) 9 1 v ss.length (strVals ss)
  bel : Below w.heap.size w wr

theorem tk_start (w : World) (A1 A2 A3 A4 : Nat) : TkSt w A1 A2 A3 A4 (((w.alloc (.cells #[.int .i64 0, .int .i64 0, .int .i64 0, .int .i64 0, .slice none 0 0] 60)).alloc (.cells #[.int .i64 (A1 : Int), .int .i64 (A2 : Int), .int .i64 (A3 : Int), .int .i64 (A4 : Int), .slice none 0 0] 60)).drew) (.slice none 0 0) [] where
  res := by
    have h := World.rowIs_alloc w #[.int .i64 0, .int .i64 0, .int .i64 0, .int .i64 0, .slice none 0 0] 60 (batV 0 0 0 0 (.slice none 0 0)) (fun i hi => by
      have hi : i < 5 := hi
      rcases (by omega : i = 0 ∨ i = 1 ∨ i = 2 ∨ i = 3 ∨ i = 4) with rfl | rfl | rfl | rfl | rfl <;> rfl)
    exact (h.of_block (((Below.refl _ _).alloc (Nat.le_refl _) _).drew.block _ h.lt))
  bat := by
    have h := World.rowIs_alloc (w.alloc (.cells #[.int .i64 0, .int .i64 0, .int .i64 0, .int .i64 0, .slice none 0 0] 60)) #[.int .i64 (A1 : Int), .int .i64 (A2 : Int), .int .i64 (A3 : Int), .int .i64 (A4 : Int), .slice none 0 0] 60 (batV A1 A2 A3 A4 (.slice none 0 0)) (fun i hi => by
      have hi : i < 5 := hi
      rcases (by omega : i = 0 ∨ i = 1 ∨ i = 2 ∨ i = 3 ∨ i = 4) with rfl | rfl | rfl | rfl | rfl <;> rfl)
    have h2 := h.of_block ((Below.refl _ _).drew.block _ h.lt)
    simpa using h2
  own := ⟨rfl, .inl ⟨rfl, rfl⟩⟩
  bel := (((Below.refl _ _).alloc (Nat.le_refl _) _).alloc (by simp) _).drew

theorem batV_cells {w : World} {g : Nat} {t : TypeId} {x0 x1 x2 x3 : Int} {v : Value} (h : w.rowIs g t 5 (batV x0 x1 x2 x3 v)) : w.cell? ⟨g, 0, none⟩ = some (.int .i64 x0) ∧ w.cell? ⟨g, 1, none⟩ = some (.int .i64 x1) ∧ w.cell? ⟨g, 2, none⟩ = some (.int .i64 x2) ∧ w.cell? ⟨g, 3, none⟩ = some (.int .i64 x3) ∧ w.cell? ⟨g, 4, none⟩ = some v :=
  ⟨h.cell (i := 0) (by omega), h.cell (i := 1) (by omega), h.cell (i := 2) (by omega), h.cell (i := 3) (by omega), h.cell (i := 4) (by omega)⟩

theorem tk_step {w wr u w2 : World} {A1 A2 A3 A4 rc g cap : Nat} {ra : Option Addr} {ss : List ByteArray} {x : ByteArray} (h : TkSt w A1 A2 A3 A4 wr (.slice ra ss.length rc) ss) (hu : Below wr.heap.size wr u) (hgrow : u.grownBy w2 (Value.slice ra ss.length rc).ownBlock)
    (hown : w2.ownsRow (w.heap.size + 2) 9 1 (.slice (some ⟨g, 0, none⟩) (ss.length + 1) cap) (ss.length + 1) (strVals ss ++ [.string x])) :
    TkSt w A1 A2 A3 A4 (w2.setCell ⟨w.heap.size + 1, 4, none⟩ (.slice (some ⟨g, 0, none⟩) (ss.length + 1) cap)) (.slice (some ⟨g, 0, none⟩) (ss.length + 1) cap) (ss ++ [x]) := by
  obtain ⟨hres, hbat, hown0, hbel⟩ := h
  have lt0 := hres.lt
  have lt1 := hbat.lt
  have hsz := hu.size
  have hge : ∀ q, (Value.slice ra ss.length rc).ownBlock = some q → w.heap.size + 2 ≤ q := fun q hq => ownBlock_ge hown0 hq
  have b0 : w2.heap[w.heap.size]? = wr.heap[w.heap.size]? := (hgrow.block _ (by omega) (fun e => by have := hge _ e.symm; omega)).trans (hu.block _ lt0)
  have b1 : w2.heap[w.heap.size + 1]? = wr.heap[w.heap.size + 1]? := (hgrow.block _ (by omega) (fun e => by have := hge _ e.symm; omega)).trans (hu.block _ lt1)
  refine ⟨(hres.of_block b0).setOther (by simp) _, ((hbat.of_block b1).set 4 _).congr fun j hj => ?_, ?_, ?_⟩
  · rcases (by omega : j = 0 ∨ j = 1 ∨ j = 2 ∨ j = 3 ∨ j = 4) with rfl | rfl | rfl | rfl | rfl <;> simp [batV]
  · have e : strVals (ss ++ [x]) = strVals ss ++ [.string x] := by simp [strVals]
    rw [e, List.length_append, List.length_singleton]
    exact ownsRow_setCell_below hown (by simp) _
  · exact ((hbel.trans (hu.mono hbel.size)).grown hgrow (by have := hbel.size; omega) (fun q hq => by have := hge q hq; omega)).setCell (by simp) _

set_option maxRecDepth 100000 in
set_option maxHeartbeats 4000000 in
theorem l1Take_short (s : ByteArray) (n : Nat) (w : World) (hs : s.size ≤ 2000000) (hn : n ≤ s.size) (h : ¬ (14 ≤ s.size - n ∧ lenOf (s.data.toList.drop n) ≤ s.size - n)) :
    Calls Tryd.prog 34 #[.string s, .int .i64 n] w fun r w' => ∃ b a c z, r = .returned (.tuple #[.agg #[.int .i64 b.off, .int .i64 b.ep, .int .i64 b.pr, .int .i64 b.sq, .slice a b.recs.length c], .int .i64 z]) ∧ TookS s.data.toList n w.heap.size w' b a c z ∧ Below w.heap.size w w' := by
  have hb0 : Below w.heap.size w (w.alloc (.cells #[.int .i64 0, .int .i64 0, .int .i64 0, .int .i64 0, .slice none 0 0] 60)) := (Below.refl _ _).alloc (Nat.le_refl _) _
  have hlen : (s.data.toList.drop n).length = s.size - n := by rw [List.length_drop, size_len]
  have HS : Hid (specTake s.data.toList n = if 14 ≤ s.size - n ∧ lenOf (s.data.toList.drop n) ≤ s.size - n then (specDec (s.data.toList.drop n)).map (fun b => (b, n + lenOf (s.data.toList.drop n))) else none) := by
    show _ = _
    unfold specTake; rw [hlen]
  have hlt := lenOf_lt (s.data.toList.drop n)
  clear hlen
  by_cases h14 : (s.size : Int) - n < 14
  · have HN : Hid (specTake s.data.toList n = none) := by show _ = _; rw [HS.out, if_neg h]
    clear HS hlt
    go_enter Tryd.func34, Tryd.ntmps34
    go_wp2_with fail
    exact bodyPost_ret (v := .tuple #[.agg #[.int .i64 0, .int .i64 0, .int .i64 0, .int .i64 0, .slice none 0 0], .int .i64 0]) (by simp [results, Tryd.results34, go_sem]) rfl ⟨⟨0, 0, 0, 0, []⟩, none, 0, 0, rfl, .inr ⟨rfl, rfl, rfl, rfl, HN.out⟩, hb0⟩
  · have hx2 : (s.extract n (n + 2)).size ≤ 3 := by rw [ByteArray.size_extract]; omega
    have HV : Hid (2 + (val (s.extract n (n + 2)).data.toList : Nat) = lenOf (s.data.toList.drop n)) := by
      show _ = _
      rw [extract_toList, Nat.add_sub_cancel_left]; rfl
    have i2 : (n : Int) + 2 ≤ (s.size : Int) := by omega
    have hL : s.size - n < lenOf (s.data.toList.drop n) := by omega
    have HN : Hid (specTake s.data.toList n = none) := by show _ = _; rw [HS.out, if_neg h]
    go_enter Tryd.func34, Tryd.ntmps34
    go_wp2_with fail
    refine (l1Value_any _ _ hx2).mono ?_
    rintro r w1 ⟨rfl, rfl⟩
    have hv := HV.out
    generalize val (s.extract n (n + 2)).data.toList = V at *
    have hbig : (s.size : Int) < (n : Int) + 2 + V := by omega
    clear HS HV
    go_wp2_with fail
    exact bodyPost_ret (v := .tuple #[.agg #[.int .i64 0, .int .i64 0, .int .i64 0, .int .i64 0, .slice none 0 0], .int .i64 0]) (by simp [results, Tryd.results34, go_sem]) rfl ⟨⟨0, 0, 0, 0, []⟩, none, 0, 0, rfl, .inr ⟨rfl, rfl, rfl, rfl, HN.out⟩, hb0⟩

end Go.Proofs.YtopndglgbollfaaDoor
