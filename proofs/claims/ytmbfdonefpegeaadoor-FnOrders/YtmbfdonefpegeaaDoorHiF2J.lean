/-
  The least order that is legal and has each call behind those that must stand ahead of it, as it is found.
  The least order that is found, the specification's side: spec.l15Find, by its recursion. Made by mkhif.py.
  Histories, the specification's side: IsLinear, IsSequential, OrderFor. Made by mkhif.py.
-/
import Derived.Test.YtmbfdonefpegeaaDoorHiM
import Derived.Test.YtmbfdonefpegeaaDoorHiS3
namespace Go.Proofs.YtmbfdonefpegeaaDoor
open Go.RowKit

/-- Whether k may come next, the first o calls looked at. -/
def freeTo (l : List Cl) (cl : Bool) (ord : List Int) (k : Nat) : Nat → Bool
  | 0 => !ord.contains (k : Int)
  | o + 1 => freeTo l cl ord k o && !((!decide (o = k)) && (!ord.contains (o : Int) && befB cl (clA l o) (clA l k)))
theorem freeTo_same {l : List Cl} {cl : Bool} {ord : List Int} {k o : Nat} (h : o = k ∨ ord.contains (o : Int) = true ∨ befB cl (clA l o) (clA l k) = false) : freeTo l cl ord k (o + 1) = freeTo l cl ord k o := by
  rw [freeTo]
  rcases h with h | h | h
  · simp [h]
  · simp only [h]; simp
  · simp only [h]; simp
theorem freeTo_no {l : List Cl} {cl : Bool} {ord : List Int} {k o : Nat} (h1 : ¬ o = k) (h2 : ord.contains (o : Int) = false) (h3 : befB cl (clA l o) (clA l k) = true) : freeTo l cl ord k (o + 1) = false := by
  rw [freeTo, h2, h3, decide_eq_false h1]; simp

/-- The first list that is not empty. -/
def fstTo (g : Nat → List Int) : Nat → List Int
  | 0 => []
  | k + 1 => if (fstTo g k).length = 0 then g k else fstTo g k
theorem fstTo_none {g : Nat → List Int} : ∀ {n : Nat}, (∀ j, j < n → g j = []) → fstTo g n = []
  | 0, _ => rfl
  | n + 1, h => by
    rw [fstTo, fstTo_none (fun j hj => h j (by omega)), if_pos (by simp)]
    exact h n (by omega)
theorem fstTo_hit {g : Nat → List Int} {k : Nat} : ∀ {n : Nat}, k < n → (∀ j, j < k → g j = []) → 0 < (g k).length → fstTo g n = g k
  | 0, hk, _, _ => by omega
  | n + 1, hk, h, hg => by
    rw [fstTo]
    by_cases e : k = n
    · subst e; rw [fstTo_none h, if_pos (by simp)]
    · rw [fstTo_hit (by omega : k < n) h hg, if_neg (by omega)]

def findL (l : List Cl) (cl : Bool) : Nat → List Int → List Int
  | 0, ord => if legB l ord = true then (if ord.length = l.length then ord else []) else []
  | n + 1, ord => if legB l ord = true then (if ord.length = l.length then ord else fstTo (fun k => if freeTo l cl ord k l.length = true then findL l cl n (ord ++ [(k : Int)]) else []) l.length) else []
def nxtL (l : List Cl) (cl : Bool) (n : Nat) (ord : List Int) (k : Nat) : List Int := if freeTo l cl ord k l.length = true then findL l cl n (ord ++ [(k : Int)]) else []
theorem findL_bad {l : List Cl} {cl : Bool} {n : Nat} {ord : List Int} (h : legB l ord = false) : findL l cl n ord = [] := by cases n <;> simp [findL, h]
theorem findL_end {l : List Cl} {cl : Bool} {n : Nat} {ord : List Int} (h : legB l ord = true) (h2 : ord.length = l.length) : findL l cl n ord = ord := by cases n <;> simp [findL, h, h2]
theorem findL_go {l : List Cl} {cl : Bool} {n : Nat} {ord : List Int} (h : legB l ord = true) (h2 : ¬ ord.length = l.length) : findL l cl (n + 1) ord = fstTo (nxtL l cl n ord) l.length := by
  rw [findL, if_pos h, if_neg h2]; rfl
theorem nxtL_f {l : List Cl} {cl : Bool} {n : Nat} {ord : List Int} {k : Nat} (h : freeTo l cl ord k l.length = false) : nxtL l cl n ord k = [] := by simp [nxtL, h]
theorem nxtL_t {l : List Cl} {cl : Bool} {n : Nat} {ord : List Int} {k : Nat} (h : freeTo l cl ord k l.length = true) : nxtL l cl n ord k = findL l cl n (ord ++ [(k : Int)]) := by simp [nxtL, h]
theorem fstTo_len {g : Nat → List Int} {m : Nat} (h : ∀ k, (g k).length ≤ m) : ∀ n, (fstTo g n).length ≤ m
  | 0 => by simp [fstTo]
  | n + 1 => by
    rw [fstTo]
    split
    · exact h n
    · exact fstTo_len h n
theorem findL_len {l : List Cl} {cl : Bool} : ∀ {n : Nat} {ord : List Int}, (findL l cl n ord).length ≤ l.length
  | 0, ord => by
    rw [findL]
    split
    · split
      · omega
      · simp
    · simp
  | n + 1, ord => by
    rw [findL]
    split
    · split
      · omega
      · refine fstTo_len (fun k => ?_) _
        split
        · exact findL_len
        · simp
    · simp

def fndL (l : List Cl) (cl : Bool) : List Int := findL l cl l.length []
def linA (l : List Cl) (cl : Bool) : Bool := goodCl l && decide ((fndL l cl).length = l.length)
def ordForB (l : List Cl) : Bool := linA l false
def ordForL (l : List Cl) : List Int := if ordForB l = true then fndL l false else []
theorem ordForL_len (l : List Cl) : (ordForL l).length ≤ 1000000 := by
  unfold ordForL
  split
  · rename_i h
    simp only [ordForB, linA, Bool.and_eq_true] at h
    have := (goodCl_t h.1).2
    have := findL_len (l := l) (cl := false) (n := l.length) (ord := [])
    unfold fndL
    omega
  · simp

end Go.Proofs.YtmbfdonefpegeaaDoor

namespace Go.Proofs.YtmbfdonefpegeaaDoor
open Go.RowKit

theorem l1Has_cf (a : Option Addr) (c : Nat) (zs : List Int) (k : Int) (b : Bool) (w : World) (hs : Ints w a zs) (hl : zs.length ≤ maxLen) (h : zs.contains k = b) :
    Calls Tryd.prog 40 #[.slice a zs.length c, .int .i64 k] w fun e w' => e = .returned (.bool b) ∧ w' = w := by
  rw [← h]; exact l1Has_any a c zs k w hs hl

theorem ord_snoc {ord : List Int} {m k : Nat} (h : ∀ j, j < ord.length → 0 ≤ zA ord j ∧ zA ord j < (m : Int)) (hk : k < m) : ∀ j, j < ord.length + 1 → 0 ≤ zA (ord ++ [(k : Int)]) j ∧ zA (ord ++ [(k : Int)]) j < (m : Int) := fun j hj => by
  rcases Nat.lt_or_eq_of_le (Nat.le_of_lt_succ hj) with h1 | rfl
  · have e : zA (ord ++ [(k : Int)]) j = zA ord j := by simp [zA, List.getD_eq_getElem?_getD, List.getElem?_append_left h1]
    rw [e]; exact h j h1
  · have e : zA (ord ++ [(k : Int)]) ord.length = (k : Int) := by simp [zA, List.getD_eq_getElem?_getD]
    rw [e]; omega

set_option maxRecDepth 100000 in
set_option maxHeartbeats 8000000 in
theorem l15Find_step (l : List Cl) (cl : Bool) (a : Option Addr) (c n : Nat) (hl : l.length ≤ maxLen) (hg : goodCl l = true) (ih : ∀ (ord : List Int) (a2 : Option Addr) (c2 B : Nat) (w : World), Cls w a l → Ints w a2 ord → RowI w B a2 ord.length → B ≤ w.heap.size → ord.length + n = l.length → (∀ k, k < ord.length → 0 ≤ zA ord k ∧ zA ord k < (l.length : Int)) →
      Calls Tryd.prog 33 #[.slice a l.length c, .slice a2 ord.length c2, .bool cl] w fun r w' => ∃ a' c', r = .returned (.slice a' (findL l cl n ord).length c') ∧ Ints w' a' (findL l cl n ord) ∧ RowI w' B a' (findL l cl n ord).length ∧ Below w.heap.size w w') :
    ∀ (ord : List Int) (a2 : Option Addr) (c2 B : Nat) (w : World), Cls w a l → Ints w a2 ord → RowI w B a2 ord.length → B ≤ w.heap.size → ord.length + (n + 1) = l.length → (∀ k, k < ord.length → 0 ≤ zA ord k ∧ zA ord k < (l.length : Int)) →
      Calls Tryd.prog 33 #[.slice a l.length c, .slice a2 ord.length c2, .bool cl] w fun r w' => ∃ a' c', r = .returned (.slice a' (findL l cl (n + 1) ord).length c') ∧ Ints w' a' (findL l cl (n + 1) ord) ∧ RowI w' B a' (findL l cl (n + 1) ord).length ∧ Below w.heap.size w w' := by
  have IH : Hid (∀ (ord : List Int) (a2 : Option Addr) (c2 B : Nat) (w : World), Cls w a l → Ints w a2 ord → RowI w B a2 ord.length → B ≤ w.heap.size → ord.length + n = l.length → (∀ k, k < ord.length → 0 ≤ zA ord k ∧ zA ord k < (l.length : Int)) →
      Calls Tryd.prog 33 #[.slice a l.length c, .slice a2 ord.length c2, .bool cl] w fun r w' => ∃ a' c', r = .returned (.slice a' (findL l cl n ord).length c') ∧ Ints w' a' (findL l cl n ord) ∧ RowI w' B a' (findL l cl n ord).length ∧ Below w.heap.size w w') := ih
  clear ih
  obtain ⟨i0, hi, hz0, hz1, hz2⟩ := infoZ Tryd.infoInt
  intro ord a2 c2 B w hs hoI hRo hBw hon hor
  have hol : ord.length ≤ maxLen := by unfold maxLen at hl ⊢; omega
  have hol' : ord.length ≤ l.length := by omega
  have HOn : Hid (ord.length + (n + 1) = l.length) := hon
  have HOr : Hid (∀ k, k < ord.length → 0 ≤ zA ord k ∧ zA ord k < (l.length : Int)) := hor
  clear hon hor
  obtain ⟨R, hR⟩ : ∃ R, findL l cl (n + 1) ord = R := ⟨_, rfl⟩
  rw [hR]
  have HRR : Hid (findL l cl (n + 1) ord = R) := hR
  clear hR
  cases hleg : legB l ord with
  | false =>
    have HE : Hid (R = []) := HRR.out.symm.trans (findL_bad hleg)
    go_enter Tryd.func33, Tryd.ntmps33
    go_wp2_with fail
    refine (l15Legal_c _ _ _ _ l ord _ hs hl hg hoI hol HOr.out _ hleg).mono ?_
    rintro r w1 ⟨rfl, hB1⟩
    go_wp2
    refine bodyPost_ret (v := .slice none 0 0) (by simp [results, Tryd.results33, go_sem]) rfl ⟨none, 0, by rw [HE.out]; rfl, by rw [HE.out]; exact Ints.nil _ _, .inl (by rw [HE.out]; rfl), hB1⟩
  | true =>
    by_cases hlen : ord.length = l.length
    · have HE : Hid (R = ord) := HRR.out.symm.trans (findL_end hleg hlen)
      have hd : ((ord.length : Int) == (l.length : Int)) = true := by simp [hlen]
      clear hlen
      go_enter Tryd.func33, Tryd.ntmps33
      go_wp2_with fail
      refine (l15Legal_c _ _ _ _ l ord _ hs hl hg hoI hol HOr.out _ hleg).mono ?_
      rintro r w1 ⟨rfl, hB1⟩
      go_wp2
      refine bodyPost_ret (v := .slice a2 ord.length c2) (by simp [results, Tryd.results33, go_sem]) rfl ⟨a2, c2, by rw [HE.out], by rw [HE.out]; exact hoI.below hB1, by rw [HE.out]; exact hRo.below hB1, hB1⟩
    · have HGo : Hid (findL l cl (n + 1) ord = fstTo (nxtL l cl n ord) l.length) := findL_go hleg hlen
      have hd : ((ord.length : Int) == (l.length : Int)) = false := by simp; omega
      have h7 := (goodCl_t hg).2
      go_enter Tryd.func33, Tryd.ntmps33
      go_wp2_with fail
      refine (l15Legal_c _ _ _ _ l ord _ hs hl hg hoI hol HOr.out _ hleg).mono ?_
      rintro r w1 ⟨rfl, hB1⟩
      go_wp2
      go_loopw [25] (fun i wr => ∃ k : Nat, k ≤ l.length ∧ i = .int .i64 k ∧ Hid (∀ j, j < k → nxtL l cl n ord j = []) ∧ Below w1.heap.size w1 wr) (fun i _ => l.length - (intOf i).toNat)
      case atStart => exact ⟨0, Nat.zero_le _, rfl, (fun i hi => absurd hi (Nat.not_lt_zero _)), Below.refl _ _⟩
      case round =>
        obtain ⟨k, hk, rfl, HN, hB⟩ := hrel
        have B1 := stHi hB1 hB
        by_cases hlt : k < l.length
        · obtain ⟨mb, mo, ea, m0, m1, m2, m3, m4, m5⟩ := (hs.below B1) k _ (clA_get hlt)
          subst ea
          obtain ⟨x, hx⟩ : ∃ x, clA l k = x := ⟨_, rfl⟩
          have HX : Hid (clA l k = x) := hx
          rw [hx] at m0 m1 m2 m3 m4 m5
          clear hx
          have hki : (k : Int) < (l.length : Int) := by omega
          obtain ⟨u1, hu1⟩ : ∃ u, (wr.alloc (.cells #[.int .i64 x.client, .int .i64 x.object, .bool x.write, .int .i64 x.value, .int .i64 x.beg, .int .i64 x.fin] 53)) = u := ⟨_, rfl⟩
          have q0 : u1.cell? ⟨wr.heap.size, 0, none⟩ = some (.int .i64 x.client) := by rw [← hu1]; simp [go_sem]
          have q1 : u1.cell? ⟨wr.heap.size, 1, none⟩ = some (.int .i64 x.object) := by rw [← hu1]; simp [go_sem]
          have q2 : u1.cell? ⟨wr.heap.size, 2, none⟩ = some (.bool x.write) := by rw [← hu1]; simp [go_sem]
          have q3 : u1.cell? ⟨wr.heap.size, 3, none⟩ = some (.int .i64 x.value) := by rw [← hu1]; simp [go_sem]
          have q4 : u1.cell? ⟨wr.heap.size, 4, none⟩ = some (.int .i64 x.beg) := by rw [← hu1]; simp [go_sem]
          have q5 : u1.cell? ⟨wr.heap.size, 5, none⟩ = some (.int .i64 x.fin) := by rw [← hu1]; simp [go_sem]
          have BU : Below wr.heap.size wr u1 := by rw [← hu1]; exact alHi _ _
          have B1u := stHi B1 BU
          have hBu := stHi hB BU
          obtain ⟨t, ht⟩ : ∃ t, ord.contains (k : Int) = t := ⟨_, rfl⟩
          have HT : Hid (freeTo l cl ord k 0 = !t) := by show _ = _; rw [freeTo, ht]
          go_wp2_with fail
          refine (l1Has_cf _ _ ord (k : Int) _ _ (hoI.below B1u) hol ht).mono ?_
          rintro e w' ⟨rfl, hw⟩
          rw [hw]
          clear hw w'
          go_wp2
          go_loopw [9, 36] (fun s i wr2 => ∃ (o : Nat) (b : Bool), o ≤ l.length ∧ i = .int .i64 o ∧ s = .bool b ∧ Hid (freeTo l cl ord k o = b) ∧ Below u1.heap.size u1 wr2) (fun _ i _ => l.length - (intOf i).toNat)
          case atStart => exact ⟨0, !t, Nat.zero_le _, rfl, rfl, HT.out, by first | exact Below.refl _ _ | (rw [hu1]; exact Below.refl _ _)⟩
          case round =>
            clear hu1 ht HT
            obtain ⟨o, b, ho, rfl, rfl, HFr, hB2⟩ := hrel
            have p0 := celB hB2 q0
            have p1 := celB hB2 q1
            have p2 := celB hB2 q2
            have p3 := celB hB2 q3
            have p4 := celB hB2 q4
            have p5 := celB hB2 q5
            have B2 := stHi B1u hB2
            by_cases hlt2 : o < l.length
            · obtain ⟨eb, eo, ea, e0, e1, e2, e3, e4, e5⟩ := (hs.below B2) o _ (clA_get hlt2)
              simp only [Option.some.injEq, Addr.mk.injEq, and_true] at ea
              obtain ⟨rfl, rfl⟩ := ea
              obtain ⟨y, hy⟩ : ∃ y, clA l o = y := ⟨_, rfl⟩
              have HY : Hid (clA l o = y) := hy
              rw [hy] at e0 e1 e2 e3 e4 e5
              clear hy
              have hoi : (o : Int) < (l.length : Int) := by omega
              have r0 := fun z => celB (alHi wr z) p0
              have r1 := fun z => celB (alHi wr z) p1
              have r2 := fun z => celB (alHi wr z) p2
              have r3 := fun z => celB (alHi wr z) p3
              have r4 := fun z => celB (alHi wr z) p4
              have r5 := fun z => celB (alHi wr z) p5
              by_cases hok : o = k
              · have hd : ((o : Int) != (k : Int)) = false := by simp [hok]
                have HF : Hid (freeTo l cl ord k (o + 1) = b) := (freeTo_same (.inl hok)).trans HFr.out
                clear hok
                go_wp2
                go_roundw
                case rel => exact ⟨o + 1, b, by omega, by go_num, rfl, HF.out, stHi hB2 (alHi _ _)⟩
                case measure => simp [intOf]; omega
              · have hd : ((o : Int) != (k : Int)) = true := by simp; omega
                cases hh : ord.contains (o : Int) with
                | true =>
                  have HF : Hid (freeTo l cl ord k (o + 1) = b) := (freeTo_same (.inr (.inl hh))).trans HFr.out
                  clear hok
                  go_wp2_with fail
                  refine (l1Has_cf _ _ ord (o : Int) _ _ ((hoI.below B2).below (alHi _ _)) hol hh).mono ?_
                  rintro e w' ⟨rfl, hw⟩
                  rw [hw]
                  clear hw w'
                  go_wp2
                  go_roundw
                  case rel => exact ⟨o + 1, b, by omega, by go_num, rfl, HF.out, stHi hB2 (alHi _ _)⟩
                  case measure => simp [intOf]; omega
                | false =>
                  cases hbf : befB cl y x with
                  | true =>
                    have HF : Hid (freeTo l cl ord k (o + 1) = false) := freeTo_no hok hh (by rw [HY.out, HX.out]; exact hbf)
                    clear hok
                    go_wp2_with fail
                    refine (l1Has_cf _ _ ord (o : Int) _ _ ((hoI.below B2).below (alHi _ _)) hol hh).mono ?_
                    rintro e w' ⟨rfl, hw⟩
                    rw [hw]
                    clear hw w'
                    go_wp2_with fail
                    refine (l15Before_c y x cl _ _ hbf).mono ?_
                    rintro r w4 ⟨rfl, hB4⟩
                    have B4 := stHi (stHi hB2 (alHi _ _)) hB4
                    go_wp2
                    go_roundw
                    case rel => exact ⟨o + 1, false, by omega, by go_num, rfl, HF.out, B4⟩
                    case measure => simp [intOf]; omega
                  | false =>
                    have HF : Hid (freeTo l cl ord k (o + 1) = b) := (freeTo_same (.inr (.inr (by rw [HY.out, HX.out]; exact hbf)))).trans HFr.out
                    clear hok
                    go_wp2_with fail
                    refine (l1Has_cf _ _ ord (o : Int) _ _ ((hoI.below B2).below (alHi _ _)) hol hh).mono ?_
                    rintro e w' ⟨rfl, hw⟩
                    rw [hw]
                    clear hw w'
                    go_wp2_with fail
                    refine (l15Before_c y x cl _ _ hbf).mono ?_
                    rintro r w4 ⟨rfl, hB4⟩
                    have B4 := stHi (stHi hB2 (alHi _ _)) hB4
                    go_wp2
                    go_roundw
                    case rel => exact ⟨o + 1, b, by omega, by go_num, rfl, HF.out, B4⟩
                    case measure => simp [intOf]; omega
            · obtain rfl : o = l.length := by omega
              cases b with
              | false =>
                have HN2 : Hid (∀ j, j < k + 1 → nxtL l cl n ord j = []) := fun j hj => by
                  rcases Nat.lt_or_eq_of_le (Nat.le_of_lt_succ hj) with h1 | rfl
                  · exact HN.out j h1
                  · exact nxtL_f HFr.out
                go_wp2
                go_roundw
                case rel => exact ⟨k + 1, by omega, by go_num, HN2.out, stHi hBu hB2⟩
                case measure => simp [intOf]; omega
              | true =>
                have HG : Hid (nxtL l cl n ord k = findL l cl n (ord ++ [(k : Int)])) := nxtL_t HFr.out
                obtain ⟨e1, he1⟩ : ∃ u, (wr.alloc (.cells #[] 3)) = u := ⟨_, rfl⟩
                have hE : e1.heap[wr.heap.size]? = some (.cells #[] 3 (0, 0)) := by rw [← he1]; exact heap_alloc_new _ _
                have hBe : Below wr.heap.size wr e1 := by rw [← he1]; exact alHi _ _
                have hSe : wr.heap.size < e1.heap.size := by rw [← he1]; simp
                have hoE := (hoI.below B2).below hBe
                go_wp2_with (at_builtin; refine wpList_appZ _ rfl _ _ 24 rfl wr.heap.size 3 i0 _ 1 8 Tryd.underlying24 hi hz0 hz1 hz2 rfl (by decide) (.slice (some ⟨wr.heap.size, 0, none⟩) 0 0) 0 [] rfl (owns_emptyZ hE (Nat.le_refl _)) (.slice a2 ord.length c2) ord.length (zCells ord) rfl (srcZ_ints _ hoE) ?c3 ?c4 ?c5 ?_)
                case c3 => unfold maxLen; omega
                case c4 => omega
                case c5 => omega
                intro v w5 hown hgrow hat
                try simp only [Nat.zero_add, List.nil_append] at hown
                obtain ⟨av, cv, rfl⟩ := ownsZ_form hown
                have B5 : Below wr.heap.size wr w5 := hBe.grown hgrow (by omega) (fun b hb => by simp [Value.ownBlock] at hb; omega)
                have hz5 : ZSt wr.heap.size wr w5 (.slice av ord.length cv) ord := ⟨hown, B5⟩
                clear hgrow hat hown he1 hE hBe hoE hSe
                have hz6 : ∀ p, ZSt wr.heap.size wr (w5.alloc p) (.slice av ord.length cv) ord := fun p => zst_below hz5 (alHi _ p)
                have hs5 := B5.size
                go_wp2_with (at_builtin; refine wpList_append_lies _ rfl _ _ 24 rfl wr.heap.size 3 i0 _ 1 8 Tryd.underlying24 hi hz0 hz1 hz2 rfl (by decide) (.slice av ord.length cv) ord.length (zCells ord) rfl (hz6 _).own ⟨w5.heap.size, 0, none⟩ 1 1 (zCells [(k : Int)]) rfl rfl ?d1 ?d2 (by omega) ?d3 ?d4 ?d5 (w5.heap.size + 1) ?d6 ?_)
                case d1 => first | exact (fun j u h => h) | exact World.news_of_block (cs := #[.int .i64 (k : Int)]) (t := 3) (fr := (0, 0)) (by first | exact (heap_alloc_new w5 _) | simpa using (heap_alloc_new w5 _))
                case d2 => simp [zCells, Value.oneCell']
                case d3 => unfold maxLen; omega
                case d4 => omega
                case d5 => first | omega | (simp; omega)
                try (case d6 => simp)
                intro g6 cap6 w6 hown6 hgrow6 hat6 _
                have HS6 : ZSt wr.heap.size wr w6 (.slice (some ⟨g6, 0, none⟩) (ord.length + 1) cap6) (ord ++ [(k : Int)]) := zst_step (q := (k : Int)) (hz6 _) (Nat.le_refl _) hgrow6 hown6
                clear hown6 hgrow6 hat6 hz6 hz5
                have hlen2 : (ord ++ [(k : Int)]).length = ord.length + 1 := by simp
                have hI6 := ints_of_owns (by have := HS6.own; rw [hlen2] at this ⊢; exact this : w6.ownsRow wr.heap.size 3 1 (.slice (some ⟨g6, 0, none⟩) (ord ++ [(k : Int)]).length cap6) (ord ++ [(k : Int)]).length (zCells (ord ++ [(k : Int)])))
                have B6 := HS6.bel
                have B6w := stHi B2 B6
                have hIH := IH.out (ord ++ [(k : Int)]) (some ⟨g6, 0, none⟩) cap6 B w6 (hs.below B6w) hI6.1 (hI6.2.mono (by have := B2.size; omega)) (by have := B6w.size; omega) (by rw [hlen2]; have := HOn.out; omega) (fun t ht => by rw [hlen2] at ht; exact ord_snoc HOr.out (by omega) t (by omega))
                rw [hlen2] at hIH
                have HIH := (show Hid _ from hIH)
                clear hIH hlen2 hI6 HS6
                go_wp2_with fail
                refine Calls.mono HIH.out ?_
                clear HIH
                rintro r w7 ⟨a7, c7, rfl, hI7, hR7, hB7⟩
                have B7 := stHi B6w hB7
                obtain ⟨out, hout⟩ : ∃ out, findL l cl n (ord ++ [(k : Int)]) = out := ⟨_, rfl⟩
                rw [hout] at hI7 hR7 ⊢
                have HG2 : Hid (nxtL l cl n ord k = out) := HG.out.trans hout
                have hol7 : out.length ≤ 7 := by rw [← hout]; have := findL_len (l := l) (cl := cl) (n := n) (ord := ord ++ [(k : Int)]); omega
                clear hout HG
                by_cases hpos : 0 < out.length
                · have hposi : (0 : Int) < (out.length : Int) := by omega
                  have HE : Hid (R = out) := by show _ = _; rw [← HRR.out, HGo.out, fstTo_hit hlt HN.out (by rw [HG2.out]; exact hpos), HG2.out]
                  go_wp2
                  refine bodyPost_ret (v := .slice a7 out.length c7) (by simp [results, Tryd.results33, go_sem]) rfl ⟨a7, c7, by rw [HE.out], by rw [HE.out]; exact hI7, by rw [HE.out]; exact hR7, B7⟩
                · have hz : out.length = 0 := by omega
                  have HN2 : Hid (∀ j, j < k + 1 → nxtL l cl n ord j = []) := fun j hj => by
                    rcases Nat.lt_or_eq_of_le (Nat.le_of_lt_succ hj) with h1 | rfl
                    · exact HN.out j h1
                    · rw [HG2.out]; exact List.eq_nil_of_length_eq_zero hz
                  rw [hz]
                  clear hz
                  go_wp2
                  go_roundw
                  case rel => exact ⟨k + 1, by omega, by go_num, HN2.out, stHi (stHi hBu hB2) (stHi B6 hB7)⟩
                  case measure => simp [intOf]; omega
        · obtain rfl : k = l.length := by omega
          have HE : Hid (R = []) := by show _ = _; rw [← HRR.out, HGo.out]; exact fstTo_none HN.out
          go_wp2
          refine bodyPost_ret (v := .slice none 0 0) (by simp [results, Tryd.results33, go_sem]) rfl ⟨none, 0, by rw [HE.out]; rfl, by rw [HE.out]; exact Ints.nil _ _, .inl (by rw [HE.out]; rfl), B1⟩

set_option maxRecDepth 100000 in
set_option maxHeartbeats 4000000 in
theorem l15Find_any (l : List Cl) (cl : Bool) (a : Option Addr) (c : Nat) (hl : l.length ≤ maxLen) (hg : goodCl l = true) : ∀ n : Nat, ∀ (ord : List Int) (a2 : Option Addr) (c2 B : Nat) (w : World), Cls w a l → Ints w a2 ord → RowI w B a2 ord.length → B ≤ w.heap.size → ord.length + n = l.length → (∀ k, k < ord.length → 0 ≤ zA ord k ∧ zA ord k < (l.length : Int)) →
      Calls Tryd.prog 33 #[.slice a l.length c, .slice a2 ord.length c2, .bool cl] w fun r w' => ∃ a' c', r = .returned (.slice a' (findL l cl n ord).length c') ∧ Ints w' a' (findL l cl n ord) ∧ RowI w' B a' (findL l cl n ord).length ∧ Below w.heap.size w w'
  | 0 => by
    intro ord a2 c2 B w hs hoI hRo hBw hon hor
    have hol : ord.length ≤ maxLen := by unfold maxLen at hl ⊢; omega
    have hol' : ord.length ≤ l.length := by omega
    have HOn : Hid (ord.length + 0 = l.length) := hon
    have HOr : Hid (∀ k, k < ord.length → 0 ≤ zA ord k ∧ zA ord k < (l.length : Int)) := hor
    clear hon hor
    obtain ⟨R, hR⟩ : ∃ R, findL l cl 0 ord = R := ⟨_, rfl⟩
    rw [hR]
    have HRR : Hid (findL l cl 0 ord = R) := hR
    clear hR
    cases hleg : legB l ord with
    | false =>
      have HE : Hid (R = []) := HRR.out.symm.trans (findL_bad hleg)
      go_enter Tryd.func33, Tryd.ntmps33
      go_wp2_with fail
      refine (l15Legal_c _ _ _ _ l ord _ hs hl hg hoI hol HOr.out _ hleg).mono ?_
      rintro r w1 ⟨rfl, hB1⟩
      go_wp2
      refine bodyPost_ret (v := .slice none 0 0) (by simp [results, Tryd.results33, go_sem]) rfl ⟨none, 0, by rw [HE.out]; rfl, by rw [HE.out]; exact Ints.nil _ _, .inl (by rw [HE.out]; rfl), hB1⟩
    | true =>
      by_cases hlen : ord.length = l.length
      · have HE : Hid (R = ord) := HRR.out.symm.trans (findL_end hleg hlen)
        have hd : ((ord.length : Int) == (l.length : Int)) = true := by simp [hlen]
        clear hlen
        go_enter Tryd.func33, Tryd.ntmps33
        go_wp2_with fail
        refine (l15Legal_c _ _ _ _ l ord _ hs hl hg hoI hol HOr.out _ hleg).mono ?_
        rintro r w1 ⟨rfl, hB1⟩
        go_wp2
        refine bodyPost_ret (v := .slice a2 ord.length c2) (by simp [results, Tryd.results33, go_sem]) rfl ⟨a2, c2, by rw [HE.out], by rw [HE.out]; exact hoI.below hB1, by rw [HE.out]; exact hRo.below hB1, hB1⟩
      · exact absurd (by have := HOn.out; omega) hlen
  | n + 1 => l15Find_step l cl a c n hl hg (l15Find_any l cl a c hl hg n)

end Go.Proofs.YtmbfdonefpegeaaDoor

namespace Go.Proofs.YtmbfdonefpegeaaDoor
open Go.RowKit

set_option maxRecDepth 100000 in
set_option maxHeartbeats 4000000 in
theorem specOrderFor_any (a : Option Addr) (c : Nat) (l : List Cl) (w : World) (hs : Cls w a l) (hl : l.length ≤ maxLen) (hc : l.length ≤ c) :
    Calls Tryd.prog 16 #[.slice a l.length c] w fun r w' => ∃ a' c', r = .returned (.tuple #[.slice a' (ordForL l).length c', .bool (ordForB l)]) ∧ Ints w' a' (ordForL l) ∧ RowI w' w.heap.size a' (ordForL l).length ∧ Below w.heap.size w w' := by
  have hl' := hl
  unfold maxLen at hl'
  cases hg : goodCl l with
  | false =>
    have HE : Hid (ordForL l = [] ∧ ordForB l = false) := by show _ ∧ _; simp [ordForL, ordForB, linA, hg]
    go_enter Tryd.func16, Tryd.ntmps16
    go_wp2_with fail
    refine (specGoodCl_c _ _ _ _ hs hl hc _ hg).mono ?_
    rintro r w1 ⟨rfl, BB⟩
    go_wp2
    refine bodyPost_ret (v := .tuple #[.slice none 0 0, .bool false]) (by simp [results, Tryd.results16, go_sem]) rfl ⟨none, 0, by rw [HE.out.1, HE.out.2]; rfl, by rw [HE.out.1]; exact Ints.nil _ _, .inl (by rw [HE.out.1]; rfl), BB⟩
  | true =>
    obtain ⟨R, hR⟩ : ∃ R, findL l false l.length [] = R := ⟨_, rfl⟩
    have hRl : R.length ≤ 7 := by rw [← hR]; have := findL_len (l := l) (cl := false) (n := l.length) (ord := []); have := (goodCl_t hg).2; omega
    have HEB : Hid (ordForB l = decide (R.length = l.length)) := by show _ = _; simp [ordForB, linA, fndL, hg, hR]
    have HEL : Hid (ordForL l = if ordForB l = true then R else []) := by show _ = _; simp [ordForL, fndL, hR]
    have HF : Hid (∀ w2, Cls w2 a l → Calls Tryd.prog 33 #[.slice a l.length c, .slice none 0 0, .bool false] w2 fun r w' => ∃ a' c', r = .returned (.slice a' R.length c') ∧ Ints w' a' R ∧ RowI w' w2.heap.size a' R.length ∧ Below w2.heap.size w2 w') := fun w2 h2 => by
      have := l15Find_any l false a c hl hg l.length [] none 0 w2.heap.size w2 h2 (Ints.nil _ _) (.inl rfl) (Nat.le_refl _) (by simp) (fun k hk => by simp at hk)
      rw [hR] at this
      exact this
    clear hR
    go_enter Tryd.func16, Tryd.ntmps16
    go_wp2_with fail
    refine (specGoodCl_c _ _ _ _ hs hl hc _ hg).mono ?_
    rintro r w1 ⟨rfl, BB⟩
    go_wp2_with fail
    refine (HF.out _ (hs.below BB)).mono ?_
    rintro r w2 ⟨a2, c2, rfl, hI2, hR2, hB2⟩
    by_cases hd : R.length = l.length
    · have hd' : ((R.length : Int) != (l.length : Int)) = false := by simp [hd]
      have HE : Hid (ordForL l = R ∧ ordForB l = true) := by
        have h1 : ordForB l = true := by rw [HEB.out]; simp [hd]
        exact ⟨by rw [HEL.out, if_pos h1], h1⟩
      clear hd HF HEB HEL
      go_wp2
      refine bodyPost_ret (v := .tuple #[.slice a2 R.length c2, .bool true]) (by simp [results, Tryd.results16, go_sem]) rfl ⟨a2, c2, by rw [HE.out.1, HE.out.2], by rw [HE.out.1]; exact hI2, by rw [HE.out.1]; exact hR2.mono BB.size, stHi BB hB2⟩
    · have hd' : ((R.length : Int) != (l.length : Int)) = true := by simp; omega
      have HE : Hid (ordForL l = [] ∧ ordForB l = false) := by
        have h1 : ordForB l = false := by rw [HEB.out]; simp [hd]
        exact ⟨by rw [HEL.out, h1]; simp, h1⟩
      clear hd HF HEB HEL
      go_wp2
      refine bodyPost_ret (v := .tuple #[.slice none 0 0, .bool false]) (by simp [results, Tryd.results16, go_sem]) rfl ⟨none, 0, by rw [HE.out.1, HE.out.2]; rfl, by rw [HE.out.1]; exact Ints.nil _ _, .inl (by rw [HE.out.1]; rfl), stHi BB hB2⟩

end Go.Proofs.YtmbfdonefpegeaaDoor
