/-
  The walk of the law FnCoteries: at all bytes it answers true and leaves what was there as it was. Made by mklawfnc.py.
-/
import Derived.Test.YtdibddkhjefmlaaDoorFcSJ
import Derived.Test.YtdibddkhjefmlaaDoorQTop
import Derived.Test.YtdibddkhjefmlaaDoorQDom
import Derived.Test.YtdibddkhjefmlaaDoorQBOK
import Derived.Test.YtdibddkhjefmlaaDoorAppZ
namespace Go.Proofs.YtdibddkhjefmlaaDoor
open Go.RowKit

theorem stC {w a b : World} (h : Below w.heap.size w a) (k : Below a.heap.size a b) : Below w.heap.size w b := h.trans (k.mono h.size)

/-- Lists that are read, with room for what each holds. -/
def CapL (w : World) (a : Option Addr) (L : List (List Int)) : Prop :=
  ∀ (k : Nat) g, L[k]? = some g → ∃ b off ai ci, a = some ⟨b, off, none⟩ ∧ w.cell? ⟨b, off + k, none⟩ = some (.slice ai g.length ci) ∧ Ints w ai g ∧ g.length ≤ ci ∧ g.length ≤ 7
theorem CapL.below {w w' : World} {a : Option Addr} {L : List (List Int)} (h : CapL w a L) (hb : Below w.heap.size w w') : CapL w' a L := fun k g hg => by
  obtain ⟨b, off, ai, ci, e, h1, h2, h3, h4⟩ := h k g hg
  exact ⟨b, off, ai, ci, e, celF hb h1, h2.below hb, h3, h4⟩
theorem CapL.of {w : World} {B : Nat} {a : Option Addr} {qs : List QI} (h : OutQ w B a qs) (hc : QCap qs) (h7 : ∀ q ∈ qs, q.zs.length ≤ 7) : CapL w a (qs.map QI.zs) := fun k g hg => by
  rw [List.getElem?_map, Option.map_eq_some_iff] at hg
  obtain ⟨q, hq, rfl⟩ := hg
  have hm := List.mem_of_getElem? hq
  have hlt := (List.getElem?_eq_some_iff.1 hq).1
  rcases h.row with h0 | ⟨g, m, f, rfl, hg, hR, hn, hf⟩
  · omega
  · exact ⟨g, 0, q.a, q.c, rfl, by rw [Nat.zero_add, hR.cell (by omega), hf k q hq], h.ints.ints q hm, hc q hm, h7 q hm⟩

theorem sv_c (L : List (List Int)) (f : List Int) (t s : Bool) (a a2 : Option Addr) (c c2 : Nat) (w : World) (hs : Intss w a L) (hf : Ints w a2 f) (hl : L.length ≤ maxLen) (hl2 : f.length ≤ maxLen) (h1 : goodL L 7 = true) (h2 : riseB f 7 = t) (h3 : survL L f = s) :
    Calls Tryd.prog 12 #[.slice a L.length c, .slice a2 f.length c2] w fun e w' => e = .returned (.tuple #[.bool (t && s), .bool t]) ∧ Below w.heap.size w w' := by
  have := implSv_any a a2 c c2 L f w hs hf hl hl2
  rw [h1, h2, h3, Bool.true_and] at this
  exact this

theorem am_c (a : Option Addr) (c : Nat) (L : List (List Int)) (w : World) (hs : Intss w a L) (hl : L.length ≤ maxLen) (h1 : goodL L 7 = true) (h2 : allL L = true) :
    Calls Tryd.prog 9 #[.slice a L.length c] w fun e w' => e = .returned (.tuple #[.bool true, .bool true]) ∧ Below w.heap.size w w' := by
  have := implAM_any a c L w hs hl
  rw [h1, h2, Bool.true_and] at this
  exact this
theorem dm_c (a a2 : Option Addr) (c c2 : Nat) (A B : List (List Int)) (x y : Bool) (w : World) (ha : Intss w a A) (hb : Intss w a2 B) (hl : A.length ≤ maxLen) (hl2 : B.length ≤ maxLen) (h1 : (domOk A B && (eachL A B && !eachL B A)) = x) (h2 : domOk A B = y) :
    Calls Tryd.prog 15 #[.slice a A.length c, .slice a2 B.length c2] w fun e w' => e = .returned (.tuple #[.bool x, .bool y]) ∧ Below w.heap.size w w' := by
  subst h1; subst h2; exact implDom_any a a2 c c2 A B w ha hb hl hl2
theorem ints_take {w : World} {a : Option Addr} {zs : List Int} (h : Ints w a zs) (j : Nat) : Ints w a (zs.take j) := fun i z hi => by
  have hlt := (List.getElem?_eq_some_iff.1 hi).1
  rw [List.length_take] at hlt
  rw [List.getElem?_take_of_lt (by omega)] at hi
  exact h i z hi
theorem ints_drop {w : World} {b o : Nat} {zs : List Int} (h : Ints w (some ⟨b, o, none⟩) zs) (j : Nat) : Ints w (some ⟨b, o + j, none⟩) (zs.drop j) := fun i z hi => by
  rw [List.getElem?_drop] at hi
  obtain ⟨b', o', e, hc⟩ := h _ z hi
  simp only [Option.some.injEq, Addr.mk.injEq, and_true] at e
  obtain ⟨rfl, rfl⟩ := e
  exact ⟨b, o + j, rfl, by rw [Nat.add_assoc]; exact hc⟩
theorem any_next {B : List (List Int)} {k : Nat} {x : List Int} {p : List Int → Bool} {fb ib : Bool} (hx : B[k]? = some x) (hf : (B.take k).any p = fb) (h : p x = ib) : (B.take (k + 1)).any p = (fb || ib) := by
  rw [List.take_add_one, hx, List.any_append, hf]; simp [h]
theorem all_next {x : List Int} {j : Nat} {y : Int} {p : Int → Bool} {ib d : Bool} (hy : x[j]? = some y) (hf : (x.take j).all p = ib) (h : p y = d) : (x.take (j + 1)).all p = (ib && d) := by
  rw [List.take_add_one, hy, List.all_append, hf]; simp [h]
theorem any_full {B : List (List Int)} {g : List Int} {fb : Bool} (hf : ((B.take B.length).any fun x => x.all fun n => g.contains n) = fb) (h : ∃ x, x ∈ B ∧ ∀ n, n ∈ x → n ∈ g) : fb = true := by
  rw [← hf, List.take_length]
  obtain ⟨x, hx1, hx2⟩ := h
  exact List.any_eq_true.2 ⟨x, hx1, List.all_eq_true.2 fun n hn => List.contains_iff_mem.2 (hx2 n hn)⟩
theorem all_full {x g : List Int} {ib : Bool} (hf : ((x.take x.length).all fun n => g.contains n) = ib) : (x.all fun n => g.contains n) = ib := by rw [← hf, List.take_length]
/-- Where what follows a place begins. -/
def pdA (b o c j : Nat) : Option Addr := if c = j + 1 then some ⟨b, o, none⟩ else some ⟨b, o + (j + 1), none⟩
theorem pd_eq (b o c j : Nat) : (if c = j + 1 then some (⟨b, o, none⟩ : Addr) else some ⟨b, o + (j + 1), none⟩) = pdA b o c j := rfl
theorem ints_pd {w : World} {b o c j : Nat} {zs : List Int} (h : Ints w (some ⟨b, o, none⟩) zs) (hc : zs.length ≤ c) (hj : j < zs.length) : Ints w (pdA b o c j) (zs.drop (j + 1)) := by
  unfold pdA
  split
  · rw [List.drop_of_length_le (by omega)]; exact Ints.nil _ _
  · exact ints_drop h (j + 1)
theorem own_le {N B q : Nat} (lx : B ≤ N) (hq : (Value.slice (some ⟨N, 0, none⟩) 0 0).ownBlock = some q) : B ≤ q := by
  simp [Value.ownBlock] at hq; omega
theorem erase_own {w : World} {B j : Nat} {v : Value} {x : List Int} (hel : (x.eraseIdx j).length = j + (x.length - (j + 1))) (h : w.ownsRow B 3 1 v (j + (x.length - (j + 1))) (zCells (x.take j) ++ zCells (x.drop (j + 1)))) : w.ownsRow B 3 1 v (x.eraseIdx j).length (zCells (x.eraseIdx j)) := by
  rw [hel, List.eraseIdx_eq_take_drop_succ, zCells_app]; exact h
theorem erase_nums (x : List Int) (j : Nat) (hjl : j < x.length) (hx7 : x.length ≤ 7) :
    Hid ((x.take j).length = j) ∧ Hid ((x.drop (j + 1)).length = x.length - (j + 1)) ∧ Hid (0 + j ≤ maxLen) ∧ Hid ((0 + j) * 8 ≤ 140737488355328) ∧ Hid (j + (x.length - (j + 1)) ≤ maxLen) ∧ Hid ((j + (x.length - (j + 1))) * 8 ≤ 140737488355328) ∧ Hid ((x.eraseIdx j).length = j + (x.length - (j + 1))) ∧ Hid ((x.eraseIdx j).length ≤ maxLen) := by
  have hel : (x.eraseIdx j).length = j + (x.length - (j + 1)) := by rw [List.length_eraseIdx]; simp [hjl]; omega
  refine ⟨?_, ?_, ?_, ?_, ?_, ?_, hel, ?_⟩
  · show _ = _; rw [List.length_take]; omega
  · show _ = _; rw [List.length_drop]
  · show _ ≤ _; unfold maxLen; omega
  · show _ ≤ _; omega
  · show _ ≤ _; unfold maxLen; omega
  · show _ ≤ _; omega
  · show _ ≤ _; rw [hel]; unfold maxLen; omega
theorem srcC {w : World} {a : Option Addr} {c n : Nat} {zs : List Int} (hn : zs.length = n) (h : Ints w a zs) : SrcZ w (.slice a n c) n 1 (zCells zs) := by
  subst hn; exact srcZ_ints c h
theorem owns_emptyC {w : World} {b B : Nat} {t : TypeId} (h : w.heap[b]? = some (.cells #[] t (0, 0))) (hB : B ≤ b) : w.ownsRow B t 1 (.slice (some ⟨b, 0, none⟩) 0 0) 0 [] := owns_emptyZ h hB

set_option maxRecDepth 100000 in
set_option maxHeartbeats 16000000 in
theorem lawCotF_any (a a2 : Option Addr) (c c2 : Nat) (bs bs2 : List UInt8) (w : World) (hs : Bys w a bs) (hs2 : Bys w a2 bs2) (hm : bs.length ≤ 140737488351232) (hm2 : bs2.length ≤ 140737488351232) (hT : TabQ w) :
    Calls Tryd.prog 3 #[.slice a bs.length c, .slice a2 bs2.length c2] w fun r w' => r = .returned (.bool true) ∧ Below w.heap.size w w' := by
  obtain ⟨i0, hi, hz0, hz1, hz2⟩ := infoZ Tryd.infoInt
  by_cases hbig : 1048576 < bs.length + bs2.length
  · have hb2 : (1048576 : Int) < (bs.length : Int) + (bs2.length : Int) := by omega
    clear hbig
    go_enter Tryd.func3, Tryd.ntmps3
    go_wp2
    go_ret
    exact ⟨rfl, Below.refl _ _⟩
  have hb2 : ¬ (1048576 : Int) < (bs.length : Int) + (bs2.length : Int) := by omega
  have hl1 : bs.length ≤ 1048576 := by omega
  have hl2 : bs2.length ≤ 1048576 := by omega
  clear hbig
  go_enter Tryd.func3, Tryd.ntmps3
  go_wp2_with fail
  refine (drawBlocksOf_any a c bs w hs hl1).mono ?_
  rintro r w1 ⟨m, av, cv, L, rfl, hG1, hB1⟩
  have hT1 := hT.bel hB1
  have hLm : L.length ≤ maxLen := by have := hG1.n; unfold maxLen; omega
  have hLn : L.length ≤ 128 := hG1.n
  clear hs
  go_wp2_with fail
  refine (implBK_any m av cv L w1 hG1.rd hLm hT1).mono ?_
  rintro r w2 ⟨qa, qc, qs, hqs, rfl, hO2, hB2, hqc⟩
  have hG2 := hG1.below hB2
  have BB2 := stC hB1 hB2
  have hL2 := hO2.intss (fun ys hy => by rw [hqs] at hy; have := (boL_small m L).2 ys hy; unfold maxLen; omega)
  have hC2 := CapL.of hO2 hqc (fun q hq => (boL_small m L).2 _ (by rw [← hqs]; exact List.mem_map_of_mem hq))
  clear hT1 hO2 hG1 hqc
  go_wp2_with fail
  refine (specBO_any m av cv L w2 hG2.rd hLm).mono ?_
  rintro r w3 ⟨qa3, qc3, qs3, hqs3, rfl, hO3, hB3⟩
  have hL3 := hO3.intss (fun ys hy => by rw [hqs3] at hy; have := (boL_small m L).2 ys hy; unfold maxLen; omega)
  have hL23 := hL2.below hB3
  have hC3 := hC2.below hB3
  have hG3 := hG2.below hB3
  have BB3 := stC BB2 hB3
  rw [hqs] at hL23 hC3
  rw [hqs3] at hL3
  have hsm := (boL_small m L).1
  have e1 : qs.length = (boL m L).length := by rw [← hqs, List.length_map]
  have e3 : qs3.length = (boL m L).length := by rw [← hqs3, List.length_map]
  rw [e1, e3]
  have HBK : Hid (boOk m L = true → ∀ x, x ∈ boL m L → BlkF L x) := blk_all
  have HCT : Hid (boOk m L = true → allL L = true → ∀ g, g ∈ L → ∃ x, x ∈ boL m L ∧ ∀ n, n ∈ x → n ∈ g) := cot_has
  have HGD : Hid (boOk m L = true → goodL L 7 = true) := bo_good
  generalize boL m L = B at *
  generalize boOk m L = ok at *
  have hBm : B.length ≤ maxLen := by unfold maxLen; omega
  clear hqs hqs3 hO3 e1 e3 hL2 hC2 hB1 hB2 hB3 BB2 hG2
  go_wp2_with fail
  refine (implIC_any av cv L w3 hG3.rd hLm).mono ?_
  rintro r w4 ⟨rfl, hB4⟩
  have hG4 := hG3.below hB4
  have hX4 := hL23.below hB4
  have hC4 := hC3.below hB4
  have hY4 := hL3.below hB4
  have BB4 := stC BB3 hB4
  clear hL23 hL3 BB3 hB4 hG3 hC3
  go_wp2_with fail
  refine (specIC_any av cv L w4 hG4.rd hLm hG4.cap).mono ?_
  rintro r w' ⟨rfl, hw⟩
  rw [hw]
  clear hw w'
  go_wp2_with fail
  refine (implAM_any av cv L w4 hG4.rd hLm).mono ?_
  rintro r w5 ⟨rfl, hB5⟩
  have hG5 := hG4.below hB5
  have hX5 := hX4.below hB5
  have hC5 := hC4.below hB5
  have hY5 := hY4.below hB5
  have BB5 := stC BB4 hB5
  clear hX4 hY4 BB4 hB5 hG4 hC4
  go_wp2_with fail
  refine (specAM_any av cv L w5 hG5.rd hLm hG5.cap).mono ?_
  rintro r w' ⟨rfl, hw⟩
  rw [hw]
  clear hw w'
  have HCA : Hid ((goodL L 7 && cotL L) = true → allL L = true ∧ (goodL L 7 && allL L) = true) := fun h => by
    simp only [Bool.and_eq_true] at h
    rw [h.1, cot_all h.2]; exact ⟨rfl, rfl⟩
  obtain ⟨cc, hcc⟩ : ∃ cc, (goodL L 7 && cotL L) = cc := ⟨_, rfl⟩
  obtain ⟨mm, hmm⟩ : ∃ mm, (goodL L 7 && allL L) = mm := ⟨_, rfl⟩
  obtain ⟨gg, hgg⟩ : ∃ gg, goodL L 7 = gg := ⟨_, rfl⟩
  have HGG : Hid (goodL L 7 = gg) := hgg
  rw [hcc, hmm] at HCA
  rw [hcc, hmm, hgg]
  clear hcc hmm hgg
  go_wp2_with fail
  refine (sameLists_same qa qa3 qc qc3 B w5 hX5 hY5 hBm).mono ?_
  rintro r wb ⟨rfl, m4, hw4⟩
  have hB6 : Below w5.heap.size w5 wb := by rw [hw4]; exact below_drewN (Below.refl _ _) m4
  have hXb := hC5.below hB6
  have hGb := hG5.below hB6
  have BBb := stC BB5 hB6
  clear hw4 hB6 hX5 hY5 hG5 BB5 hC5
  cases cc
  · clear HCA
    cases ok
    · have BT := BBb
      obtain ⟨wt, hwt⟩ : ∃ u, wb = u := ⟨_, rfl⟩
      rw [hwt] at BT ⊢
      clear hwt BBb hGb hXb
      go_wp2_with fail
      refine (drawDominates_any a2 c2 bs2 wt (hs2.below BT) hl2).mono ?_
      rintro r t1 ⟨xa, ya, xc, yc, X, Y, rfl, hX, hY, hB⟩
      have BT1 := stC BT hB
      have hXm : X.length ≤ maxLen := by have := hX.n; unfold maxLen; omega
      have hYm : Y.length ≤ maxLen := by have := hY.n; unfold maxLen; omega
      clear hB BT
      go_wp2_with fail
      refine (implDom_any xa ya xc yc X Y t1 hX.rd hY.rd hXm hYm).mono ?_
      rintro r t2 ⟨rfl, hB⟩
      have hX2 := hX.below hB
      have hY2 := hY.below hB
      have BT2 := stC BT1 hB
      clear hX hY hB BT1
      go_wp2_with fail
      refine (specDom_any xa ya xc yc X Y t2 hX2.rd hY2.rd hXm hYm hX2.cap hY2.cap).mono ?_
      rintro r w' ⟨rfl, hw⟩
      rw [hw]
      clear hw w'
      have HDC : Hid (domOk Y X = domOk X Y) := dom_comm Y X
      have HED : Hid (∀ p q : Bool, p = eachL X Y → q = eachL Y X → ((domOk X Y && (p && !q)) && (domOk Y X && (q && !p))) = false) := fun p q _ _ => by cases p <;> cases q <;> simp
      have HR := (show Hid _ from (rfl : (domOk Y X && (eachL Y X && !eachL X Y)) = (domOk Y X && (eachL Y X && !eachL X Y))))
      obtain ⟨dd, hdd⟩ : ∃ dd, domOk X Y = dd := ⟨_, rfl⟩
      have HDD : Hid (domOk X Y = dd) := hdd
      obtain ⟨ee, hee⟩ : ∃ ee, (domOk X Y && (eachL X Y && !eachL Y X)) = ee := ⟨_, rfl⟩
      have HEE : Hid ((domOk X Y && (eachL X Y && !eachL Y X)) = ee) := hee
      rw [hee, hdd]
      clear hee hdd HR
      go_wp2_with fail
      refine (drawSurvives_any a2 c2 bs2 t2 (hs2.below BT2) hl2).mono ?_
      rintro r t3 ⟨ea, fa, ec, fc, E, f, rfl, hE, hf, hf6, hB⟩
      have hX3 := hX2.below hB
      have hY3 := hY2.below hB
      have BT3 := stC BT2 hB
      have hEm : E.length ≤ maxLen := by have := hE.n; unfold maxLen; omega
      have hfm : f.length ≤ maxLen := by unfold maxLen; omega
      clear hB BT2 hX2 hY2
      go_wp2_with fail
      refine (implSv_any ea fa ec fc E f t3 hE.rd hf hEm hfm).mono ?_
      rintro r t4 ⟨rfl, hB⟩
      have hX4 := hX3.below hB
      have hY4 := hY3.below hB
      have hE4 := hE.below hB
      have hf4 := hf.below hB
      have BT4 := stC BT3 hB
      clear hB BT3 hX3 hY3 hE hf
      go_wp2_with fail
      refine (specSv_any ea fa ec fc E f t4 hE4.rd hf4 hEm hfm).mono ?_
      rintro r w' ⟨rfl, hw⟩
      rw [hw]
      clear hw w'
      generalize (goodL E 7 && riseB f 7 && survL E f) = sv
      generalize (goodL E 7 && riseB f 7) = so
      go_wp2_with fail
      refine (drawGridQuorums_any a2 c2 bs2 t4 (hs2.below BT4) hl2).mono ?_
      rintro r t5 ⟨gx, gy, rfl, hx4, hy4, hB⟩
      have hX5 := hX4.below hB
      have hY5 := hY4.below hB
      have BT5 := stC BT4 hB
      have hT5 := hT.bel BT5
      clear hB BT4 hX4 hY4 hE4 hf4
      go_wp2_with fail
      refine (implGQ_any (gx : Int) (gy : Int) t5 hT5).mono ?_
      rintro r t6 ⟨ga, gc, gs, hgs, rfl, hO6, hB6⟩
      have hX6 := hX5.below hB6
      have hY6 := hY5.below hB6
      have BT6 := stC BT5 hB6
      have hL6 := hO6.intss (fun ys hy => by rw [hgs] at hy; have := (gqL_small (gx : Int) (gy : Int)).2 ys hy; unfold maxLen; omega)
      clear hX5 hY5 BT5 hT5 hO6 hB6
      go_wp2_with fail
      refine (specGQ_any (gx : Int) (gy : Int) t6).mono ?_
      rintro r t7 ⟨ga7, gc7, gs7, hgs7, rfl, hO7, hB7⟩
      have hX7 := hX6.below hB7
      have hY7 := hY6.below hB7
      have BT7 := stC BT6 hB7
      have hL7 := hO7.intss (fun ys hy => by rw [hgs7] at hy; have := (gqL_small (gx : Int) (gy : Int)).2 ys hy; unfold maxLen; omega)
      have hL67 := hL6.below hB7
      rw [hgs] at hL67
      rw [hgs7] at hL7
      have e1 : gs.length = (gqL (gx : Int) (gy : Int)).length := by rw [← hgs, List.length_map]
      have e3 : gs7.length = (gqL (gx : Int) (gy : Int)).length := by rw [← hgs7, List.length_map]
      rw [e1, e3]
      have hGn := (gqL_small (gx : Int) (gy : Int)).1
      have HGA : Hid (gqOk (gx : Int) (gy : Int) = true → goodL (gqL (gx : Int) (gy : Int)) 7 = true ∧ allL (gqL (gx : Int) (gy : Int)) = true ∧ (gqL (gx : Int) (gy : Int)).length = gx * gy) := fun h => grid_all gx (by omega) gy (by omega) h
      generalize gqL (gx : Int) (gy : Int) = G at *
      generalize gqOk (gx : Int) (gy : Int) = go at *
      have hGm : G.length ≤ maxLen := by unfold maxLen; omega
      clear hgs hgs7 hO7 e1 e3 hL6 hX6 hY6 BT6 hB7
      go_wp2_with fail
      refine (sameLists_same ga ga7 gc gc7 G t7 hL67 hL7 hGm).mono ?_
      rintro r t8 ⟨rfl, m8, hw8⟩
      have hB8 : Below t7.heap.size t7 t8 := by rw [hw8]; exact below_drewN (Below.refl _ _) m8
      have hX8 := hX7.below hB8
      have hY8 := hY7.below hB8
      have BT8 := stC BT7 hB8
      have hG8 := hL67.below hB8
      clear hw8 hB8 hX7 hY7 BT7 hL67 hL7
      have last : ∀ u : World, Below w.heap.size w u → GrI u xa xc X → GrI u ya yc Y → True := fun _ _ _ _ => trivial
      clear last
      cases go
      · have BU := BT8
        have hXU := hX8
        have hYU := hY8
        clear BT8 hX8 hY8 hG8
        obtain ⟨wu, hwu⟩ : ∃ u, t8 = u := ⟨_, rfl⟩
        rw [hwu] at BU hXU hYU ⊢
        clear hwu
        cases dd
        · go_wp2
          go_ret
          exact ⟨rfl, BU⟩
        · have HD2 : Hid (domOk Y X = true) := by show _ = _; rw [HDC.out, HDD.out]
          obtain ⟨rr, hrr⟩ : ∃ rr, (domOk Y X && (eachL Y X && !eachL X Y)) = rr := ⟨_, rfl⟩
          have hno : (ee && rr) = false := by rw [← HEE.out, ← hrr]; exact HED.out _ _ rfl rfl
          go_wp2_with fail
          refine (dm_c ya xa yc xc Y X rr true wu hYU.rd hXU.rd hYm hXm hrr HD2.out).mono ?_
          rintro r wv ⟨rfl, hB⟩
          have BV := stC BU hB
          clear hB BU hrr HED
          cases ee <;> cases rr
          all_goals
            first
            | (exfalso; revert hno; decide)
            | (go_wp2
               go_ret
               exact ⟨rfl, BV⟩)
      · obtain ⟨g1, g2, g3⟩ := HGA.out rfl
        have HG1 : Hid (goodL G 7 = true) := g1
        have HG2 : Hid (allL G = true) := g2
        have hmul : ((gx : Int) * (gy : Int)) = ((G.length : Nat) : Int) := by rw [g3]; simp
        have hwm : IntKind.i64.wrap ((gx : Int) * (gy : Int)) = ((G.length : Nat) : Int) := by rw [hmul]; simp [IntKind.wrap, IntKind.bits, IntKind.signed]; omega
        have hwm2 : wrap64 ((gx : Int) * (gy : Int)) = ((G.length : Nat) : Int) := by rw [hmul]; unfold wrap64; omega
        have dne : (((G.length : Nat) : Int) != ((G.length : Nat) : Int)) = false := by simp
        clear g1 g2 g3 hmul
        go_wp2_with fail
        refine (am_c ga gc G t8 hG8 hGm HG1.out HG2.out).mono ?_
        rintro r wu ⟨rfl, hB⟩
        have BU := stC BT8 hB
        have hXU := hX8.below hB
        have hYU := hY8.below hB
        clear BT8 hX8 hY8 hG8 hB
        cases dd
        · go_wp2
          go_ret
          exact ⟨rfl, BU⟩
        · have HD2 : Hid (domOk Y X = true) := by show _ = _; rw [HDC.out, HDD.out]
          obtain ⟨rr, hrr⟩ : ∃ rr, (domOk Y X && (eachL Y X && !eachL X Y)) = rr := ⟨_, rfl⟩
          have hno : (ee && rr) = false := by rw [← HEE.out, ← hrr]; exact HED.out _ _ rfl rfl
          go_wp2_with fail
          refine (dm_c ya xa yc xc Y X rr true wu hYU.rd hXU.rd hYm hXm hrr HD2.out).mono ?_
          rintro r wv ⟨rfl, hB⟩
          have BV := stC BU hB
          clear hB BU hrr HED
          cases ee <;> cases rr
          all_goals
            first
            | (exfalso; revert hno; decide)
            | (go_wp2
               go_ret
               exact ⟨rfl, BV⟩)
    · clear HCT
      have hgt : gg = true := by rw [← HGG.out]; exact HGD.out rfl
      subst hgt
      have hg7 : goodL L 7 = true := HGD.out rfl
      have HG7 : Hid (goodL L 7 = true) := hg7
      clear hg7
      have HBF := (show Hid _ from HBK.out rfl)
      go_wp2
      go_loopw [138] (fun i wr => ∃ k : Nat, k ≤ B.length ∧ i = .int .i64 k ∧ Below wb.heap.size wb wr) (fun i _ => B.length - (intOf i).toNat)
      case atStart => exact ⟨0, Nat.zero_le _, rfl, Below.refl _ _⟩
      case round =>
        obtain ⟨k, hk, rfl, hBr⟩ := hrel
        have hGr := hGb.below hBr
        have hXr := hXb.below hBr
        have BR := stC BBb hBr
        by_cases hlt : k < B.length
        · obtain ⟨x, hx⟩ := getL hlt
          obtain ⟨b1, o1, ai, ci, rfl, hc1, hI1, hxc, hx7⟩ := hXr k x hx
          have hki : (k : Int) < (B.length : Int) := by omega
          have HF : Hid (BlkF L x) := HBF.out x (List.mem_of_getElem? hx)
          have hxm : x.length ≤ maxLen := by unfold maxLen; omega
          clear hx
          go_wp2_with fail
          refine (sv_c L x true false _ _ _ _ wr hGr.rd hI1 hLm hxm HG7.out HF.out.rise HF.out.none).mono ?_
          rintro r ws ⟨rfl, hBs⟩
          have hIs := hI1.below hBs
          have BS := stC hBr hBs
          clear hI1 hc1
          go_wp2
          go_loopw [155] (fun i wr => ∃ j : Nat, j ≤ x.length ∧ i = .int .i64 j ∧ Below ws.heap.size ws wr) (fun i _ => x.length - (intOf i).toNat)
          case atStart => exact ⟨0, Nat.zero_le _, rfl, Below.refl _ _⟩
          case round =>
            obtain ⟨j, hj, rfl, hBq⟩ := hrel
            have hIq := hIs.below hBq
            have hGq := hGb.below (stC BS hBq)
            by_cases hjl : j < x.length
            · obtain ⟨bx, ox, rfl, -⟩ := hIq j _ (zA_get hjl)
              obtain ⟨hle1, hle2⟩ := HF.out.less j hjl
              have HL1 : Hid (riseB (x.eraseIdx j) 7 = true) := hle1
              have HL2 : Hid (survL L (x.eraseIdx j) = true) := hle2
              have hji : (j : Int) < (x.length : Int) := by omega
              have hjc : j ≤ ci := by omega
              have hj1 : j + 1 ≤ x.length := by omega
              have hj1I : (j : Int) + 1 ≤ (x.length : Int) := by omega
              have hxcI : (x.length : Int) ≤ (ci : Int) := by omega
              have hjcI : (j : Int) ≤ (ci : Int) := by omega
              have h0j : (0 : Int) ≤ (j : Int) := by omega
              have h0j1 : (0 : Int) ≤ (j : Int) + 1 := by omega
              have hW1 : IntKind.i64.wrap ((j : Int) + 1) = (j : Int) + 1 := by simp [IntKind.wrap, IntKind.bits, IntKind.signed]; omega
              have hW2 : wrap64 ((j : Int) + 1) = (j : Int) + 1 := by unfold wrap64; omega
              clear hle1 hle2
              obtain ⟨HTL, HTL2, HN1, HN2, HN3, HN4, HEL, HEM⟩ := erase_nums x j hjl hx7
              go_wp2_with fail
              obtain ⟨x0, hx0⟩ : ∃ x, wr.drew = x := ⟨_, rfl⟩
              have HB0 : Below wr.heap.size wr x0 := by rw [← hx0]; exact (Below.refl _ _).drew
              refine wp_region_noPanic ?_
              refine wp_region_held_drew (S := fun _ => True) (by kernel_rfl) trivial (fun hHn => ?_)
              clear hHn
              rw [hx0]
              clear hx0
              refine wpAnyH_take (i := 0) (oi := ⟨_, _, _, _, _, _⟩) (v := ?vc1x) rfl (by kernel_rfl) (by kernel_rfl) (by kernel_rfl) (fun _ _ _ h => h) (Or.inl ⟨by rfl, ?yc1x⟩) trivial ?rc1x
              case yc1x => intro w hSw; clear hSw; go_simp; try with_reducible rfl
              try simp only [Act.put, List.setIfInBounds_toArray, List.set_cons_zero, List.set_cons_succ]
              refine wpAnyH_take (i := 2) (oi := ⟨_, _, _, _, _, _⟩) (v := ?vc2x) rfl (by kernel_rfl) (by kernel_rfl) (by kernel_rfl) (fun _ _ _ h => h) (Or.inl ⟨by rfl, ?yc2x⟩) trivial ?rc2x
              case yc2x => intro w hSw; clear hSw; go_simp; try with_reducible rfl
              try simp only [Act.put, List.setIfInBounds_toArray, List.set_cons_zero, List.set_cons_succ]
              refine wpAnyH_take (i := 3) (oi := ⟨_, _, _, _, _, _⟩) (v := ?vc3x) rfl (by kernel_rfl) (by kernel_rfl) (by kernel_rfl) (fun _ _ _ h => h) (Or.inl ⟨by rfl, ?yc3x⟩) trivial ?rc3x
              case yc3x => intro w hSw; clear hSw; go_simp; try with_reducible rfl
              try simp only [Act.put, List.setIfInBounds_toArray, List.set_cons_zero, List.set_cons_succ]
              refine wpAnyH_take (i := 4) (oi := ⟨_, _, _, _, _, _⟩) (v := ?vc4x) rfl (by kernel_rfl) (by kernel_rfl) (by kernel_rfl) (fun _ _ _ h => h) (Or.inl ⟨by rfl, ?yc4x⟩) trivial ?rc4x
              case yc4x => intro w hSw; clear hSw; go_simp; try with_reducible rfl
              try simp only [Act.put, List.setIfInBounds_toArray, List.set_cons_zero, List.set_cons_succ]
              refine wpAnyH_take (i := 6) (oi := ⟨_, _, _, _, _, _⟩) (v := ?vc5x) rfl (by kernel_rfl) (by kernel_rfl) (by kernel_rfl) (fun _ _ _ h => h) (Or.inl ⟨by rfl, ?yc5x⟩) trivial ?rc5x
              case yc5x => intro w hSw; clear hSw; go_simp; try with_reducible rfl
              try simp only [Act.put, List.setIfInBounds_toArray, List.set_cons_zero, List.set_cons_succ]
              refine wpAnyH_take (i := 7) (oi := ⟨_, _, _, _, _, _⟩) (v := ?vc6x) rfl (by kernel_rfl) (by kernel_rfl) (by kernel_rfl) (fun _ _ _ h => h) (Or.inl ⟨by rfl, ?yc6x⟩) trivial ?rc6x
              case yc6x => intro w hSw; clear hSw; go_simp; try with_reducible rfl
              try simp only [Act.put, List.setIfInBounds_toArray, List.set_cons_zero, List.set_cons_succ]
              refine wpAnyH_take (i := 8) (oi := ⟨_, _, _, _, _, _⟩) (v := ?vc7x) rfl (by kernel_rfl) (by kernel_rfl) (by kernel_rfl) (fun _ _ _ h => h) (Or.inl ⟨by rfl, ?yc7x⟩) trivial ?rc7x
              case yc7x => intro w hSw; clear hSw; go_simp; try with_reducible rfl
              try simp only [Act.put, List.setIfInBounds_toArray, List.set_cons_zero, List.set_cons_succ]
              refine wpAnyH_take (i := 9) (oi := ⟨_, _, _, _, _, _⟩) (v := ?vc8x) rfl (by kernel_rfl) (by kernel_rfl) (by kernel_rfl) (fun _ _ _ h => h) (Or.inl ⟨by rfl, ?yc8x⟩) trivial ?rc8x
              case yc8x => intro w hSw; clear hSw; go_simp; rw [pd_eq]
              try simp only [Act.put, List.setIfInBounds_toArray, List.set_cons_zero, List.set_cons_succ]
              refine wpAnyH_ready (rs := [1]) (by kernel_rfl) (by simp) ?_
              refine AllReadyH.cons (o := ⟨_, _, _, _, _, _⟩) rfl (fun KK hK => ?_) AllReadyH.nil
              go_simp
              obtain ⟨x1, hx1⟩ : ∃ u, x0.alloc (.cells #[] 3) = u := ⟨_, rfl⟩
              have HEm : x1.heap[x0.heap.size]? = some (.cells #[] 3 (0, 0)) := by rw [← hx1]; exact heap_alloc_new _ _
              have BE : Below x0.heap.size x0 x1 := by rw [← hx1]; exact (Below.refl _ _).alloc (Nat.le_refl _) _
              have HB1 := stC HB0 BE
              have lx : wr.heap.size ≤ x0.heap.size := HB0.size
              go_simp
              refine hK.out _ _ trivial (fun hHn => ?_)
              clear hK KK hHn
              try simp only [Act.put, List.setIfInBounds_toArray, List.set_cons_zero, List.set_cons_succ]
              clear hx1 BE HB0
              refine wpAnyH_ready (rs := [5]) (by kernel_rfl) (by simp) ?_
              refine AllReadyH.cons (o := ⟨_, _, _, _, _, _⟩) rfl (fun KK hK => ?_) AllReadyH.nil
              have hT1 : Ints x1 (some ⟨bx, ox, none⟩) (x.take j) := ints_take (hIq.below HB1) j
              refine step_appZ _ (by rfl) _ _ 31 (by rfl) wr.heap.size 3 i0 _ 1 8 Tryd.underlying31 hi hz0 hz1 hz2 rfl (by decide) (.slice (some ⟨x0.heap.size, 0, none⟩) 0 0) 0 [] (by rfl) (owns_emptyC HEm lx) (.slice (some ⟨bx, ox, none⟩) j ci) j (zCells (x.take j)) (by rfl) (srcC HTL.out hT1) HN1.out HN2.out HB1.size ?_
              intro v1 x2 HV hgrow1 hat1
              simp only [Nat.zero_add, List.nil_append] at HV
              have HB2 := HB1.grown hgrow1 HB1.size (fun q hq => own_le lx hq)
              obtain ⟨a1, c1, rfl⟩ := ownsZ_form HV
              refine hK.out _ _ trivial (fun hHn => ?_)
              clear hK KK hHn
              try simp only [Act.put, List.setIfInBounds_toArray, List.set_cons_zero, List.set_cons_succ]
              clear hgrow1 hat1 HEm hT1 HB1
              refine wpAnyH_ready (rs := [10]) (by kernel_rfl) (by simp) ?_
              refine AllReadyH.cons (o := ⟨_, _, _, _, _, _⟩) rfl (fun KK hK => ?_) AllReadyH.nil
              have hT2 : Ints x2 (pdA bx ox ci j) (x.drop (j + 1)) := ints_pd (hIq.below HB2) hxc hjl
              refine step_appZ _ (by rfl) _ _ 31 (by rfl) wr.heap.size 3 i0 _ 1 8 Tryd.underlying31 hi hz0 hz1 hz2 rfl (by decide) (.slice a1 j c1) j (zCells (x.take j)) (by rfl) HV (.slice (pdA bx ox ci j) (x.length - (j + 1)) (ci - (j + 1))) (x.length - (j + 1)) (zCells (x.drop (j + 1))) (by first | rfl | simp) (srcC HTL2.out hT2) HN3.out HN4.out HB2.size ?_
              intro v2 x3 HV2 hgrow2 hat2
              have HB3 := HB2.grown hgrow2 HB2.size (fun q hq => (HV.lt q hq).1)
              have HV3 : x3.ownsRow wr.heap.size 3 1 v2 (x.eraseIdx j).length (zCells (x.eraseIdx j)) := erase_own HEL.out HV2
              obtain ⟨a3, c3, rfl⟩ := ownsZ_form HV3
              have hI3 := (ints_of_owns HV3).1
              have hG3 := hGq.rd.below HB3
              refine hK.out _ _ trivial (fun hHn => ?_)
              clear hK KK hHn
              try simp only [Act.put, List.setIfInBounds_toArray, List.set_cons_zero, List.set_cons_succ]
              clear hgrow2 hat2 HV HV2 HV3 hT2 HB2
              refine wpAnyH_ready (rs := [11]) (by kernel_rfl) (by simp) ?_
              refine AllReadyH.cons (o := ⟨_, _, _, _, _, _⟩) rfl (fun KK hK => ?_) AllReadyH.nil
              go_simp
              refine (sv_c L (x.eraseIdx j) true true _ _ _ _ x3 hG3 hI3 hLm HEM.out HG7.out HL1.out HL2.out).mono ?_
              rintro r x4 ⟨rfl, hB4⟩
              have HB4 := stC HB3 hB4
              clear hB4 HB3 hI3 hG3
              go_wp2_with fail
              refine hK.out _ _ trivial (fun hHn => ?_)
              clear hK KK hHn
              try simp only [Act.put, List.setIfInBounds_toArray, List.set_cons_zero, List.set_cons_succ]
              refine wpAnyH_take (i := 12) (oi := ⟨_, _, _, _, _, _⟩) (v := ?vc9x) rfl (by kernel_rfl) (by kernel_rfl) (by kernel_rfl) (fun _ _ _ h => h) (Or.inl ⟨by rfl, ?yc9x⟩) trivial ?rc9x
              case yc9x => intro w hSw; clear hSw; go_simp; try with_reducible rfl
              try simp only [Act.put, List.setIfInBounds_toArray, List.set_cons_zero, List.set_cons_succ]
              refine wpAnyH_take (i := 13) (oi := ⟨_, _, _, _, _, _⟩) (v := ?vc10x) rfl (by kernel_rfl) (by kernel_rfl) (by kernel_rfl) (fun _ _ _ h => h) (Or.inl ⟨by rfl, ?yc10x⟩) trivial ?rc10x
              case yc10x => intro w hSw; clear hSw; go_simp; try with_reducible rfl
              try simp only [Act.put, List.setIfInBounds_toArray, List.set_cons_zero, List.set_cons_succ]
              refine wpAnyH_take (i := 14) (oi := ⟨_, _, _, _, _, _⟩) (v := ?vc11x) rfl (by kernel_rfl) (by kernel_rfl) (by kernel_rfl) (fun _ _ _ h => h) (Or.inl ⟨by rfl, ?yc11x⟩) trivial ?rc11x
              case yc11x => intro w hSw; clear hSw; go_simp; try with_reducible rfl
              try simp only [Act.put, List.setIfInBounds_toArray, List.set_cons_zero, List.set_cons_succ]
              refine wpAnyH_take (i := 15) (oi := ⟨_, _, _, _, _, _⟩) (v := ?vc12x) rfl (by kernel_rfl) (by kernel_rfl) (by kernel_rfl) (fun _ _ _ h => h) (Or.inl ⟨by rfl, ?yc12x⟩) trivial ?rc12x
              case yc12x => intro w hSw; clear hSw; go_simp; try with_reducible rfl
              try simp only [Act.put, List.setIfInBounds_toArray, List.set_cons_zero, List.set_cons_succ]
              refine wpAnyH_take (i := 16) (oi := ⟨_, _, _, _, _, _⟩) (v := ?vc13x) rfl (by kernel_rfl) (by kernel_rfl) (by kernel_rfl) (fun _ _ _ h => h) (Or.inl ⟨by rfl, ?yc13x⟩) trivial ?rc13x
              case yc13x => intro w hSw; clear hSw; go_simp; try with_reducible rfl
              try simp only [Act.put, List.setIfInBounds_toArray, List.set_cons_zero, List.set_cons_succ]
              refine wpAnyH_done (by kernel_rfl) (NoPanic.normal ?_) _
              have BN := stC hBq HB4
              clear HB4 HTL HTL2 HN1 HN2 HN3 HN4 HEL HEM HL1 HL2 hIq hGq hjc hj1 hj1I hxcI hjcI h0j h0j1 hW1 hW2 lx HF HBF
              go_wp2
              go_roundw
              case rel => exact ⟨j + 1, by omega, by go_num, BN⟩
              case measure => simp [intOf]; omega
            · obtain rfl : j = x.length := by omega
              have BN := stC BS hBq
              clear hIq hGq hIs
              go_wp2
              go_roundw
              case rel => exact ⟨k + 1, by omega, by go_num, BN⟩
              case measure => simp [intOf]; omega
        · obtain rfl : k = B.length := by omega
          clear hlt
          have BT := BR
          obtain ⟨wt, hwt⟩ : ∃ u, wr = u := ⟨_, rfl⟩
          rw [hwt] at BT ⊢
          clear hwt BR hBr hGr hXr
          go_wp2_with fail
          refine (drawDominates_any a2 c2 bs2 wt (hs2.below BT) hl2).mono ?_
          rintro r t1 ⟨xa, ya, xc, yc, X, Y, rfl, hX, hY, hB⟩
          have BT1 := stC BT hB
          have hXm : X.length ≤ maxLen := by have := hX.n; unfold maxLen; omega
          have hYm : Y.length ≤ maxLen := by have := hY.n; unfold maxLen; omega
          clear hB BT
          go_wp2_with fail
          refine (implDom_any xa ya xc yc X Y t1 hX.rd hY.rd hXm hYm).mono ?_
          rintro r t2 ⟨rfl, hB⟩
          have hX2 := hX.below hB
          have hY2 := hY.below hB
          have BT2 := stC BT1 hB
          clear hX hY hB BT1
          go_wp2_with fail
          refine (specDom_any xa ya xc yc X Y t2 hX2.rd hY2.rd hXm hYm hX2.cap hY2.cap).mono ?_
          rintro r w' ⟨rfl, hw⟩
          rw [hw]
          clear hw w'
          have HDC : Hid (domOk Y X = domOk X Y) := dom_comm Y X
          have HED : Hid (∀ p q : Bool, p = eachL X Y → q = eachL Y X → ((domOk X Y && (p && !q)) && (domOk Y X && (q && !p))) = false) := fun p q _ _ => by cases p <;> cases q <;> simp
          have HR := (show Hid _ from (rfl : (domOk Y X && (eachL Y X && !eachL X Y)) = (domOk Y X && (eachL Y X && !eachL X Y))))
          obtain ⟨dd, hdd⟩ : ∃ dd, domOk X Y = dd := ⟨_, rfl⟩
          have HDD : Hid (domOk X Y = dd) := hdd
          obtain ⟨ee, hee⟩ : ∃ ee, (domOk X Y && (eachL X Y && !eachL Y X)) = ee := ⟨_, rfl⟩
          have HEE : Hid ((domOk X Y && (eachL X Y && !eachL Y X)) = ee) := hee
          rw [hee, hdd]
          clear hee hdd HR
          go_wp2_with fail
          refine (drawSurvives_any a2 c2 bs2 t2 (hs2.below BT2) hl2).mono ?_
          rintro r t3 ⟨ea, fa, ec, fc, E, f, rfl, hE, hf, hf6, hB⟩
          have hX3 := hX2.below hB
          have hY3 := hY2.below hB
          have BT3 := stC BT2 hB
          have hEm : E.length ≤ maxLen := by have := hE.n; unfold maxLen; omega
          have hfm : f.length ≤ maxLen := by unfold maxLen; omega
          clear hB BT2 hX2 hY2
          go_wp2_with fail
          refine (implSv_any ea fa ec fc E f t3 hE.rd hf hEm hfm).mono ?_
          rintro r t4 ⟨rfl, hB⟩
          have hX4 := hX3.below hB
          have hY4 := hY3.below hB
          have hE4 := hE.below hB
          have hf4 := hf.below hB
          have BT4 := stC BT3 hB
          clear hB BT3 hX3 hY3 hE hf
          go_wp2_with fail
          refine (specSv_any ea fa ec fc E f t4 hE4.rd hf4 hEm hfm).mono ?_
          rintro r w' ⟨rfl, hw⟩
          rw [hw]
          clear hw w'
          generalize (goodL E 7 && riseB f 7 && survL E f) = sv
          generalize (goodL E 7 && riseB f 7) = so
          go_wp2_with fail
          refine (drawGridQuorums_any a2 c2 bs2 t4 (hs2.below BT4) hl2).mono ?_
          rintro r t5 ⟨gx, gy, rfl, hx4, hy4, hB⟩
          have hX5 := hX4.below hB
          have hY5 := hY4.below hB
          have BT5 := stC BT4 hB
          have hT5 := hT.bel BT5
          clear hB BT4 hX4 hY4 hE4 hf4
          go_wp2_with fail
          refine (implGQ_any (gx : Int) (gy : Int) t5 hT5).mono ?_
          rintro r t6 ⟨ga, gc, gs, hgs, rfl, hO6, hB6⟩
          have hX6 := hX5.below hB6
          have hY6 := hY5.below hB6
          have BT6 := stC BT5 hB6
          have hL6 := hO6.intss (fun ys hy => by rw [hgs] at hy; have := (gqL_small (gx : Int) (gy : Int)).2 ys hy; unfold maxLen; omega)
          clear hX5 hY5 BT5 hT5 hO6 hB6
          go_wp2_with fail
          refine (specGQ_any (gx : Int) (gy : Int) t6).mono ?_
          rintro r t7 ⟨ga7, gc7, gs7, hgs7, rfl, hO7, hB7⟩
          have hX7 := hX6.below hB7
          have hY7 := hY6.below hB7
          have BT7 := stC BT6 hB7
          have hL7 := hO7.intss (fun ys hy => by rw [hgs7] at hy; have := (gqL_small (gx : Int) (gy : Int)).2 ys hy; unfold maxLen; omega)
          have hL67 := hL6.below hB7
          rw [hgs] at hL67
          rw [hgs7] at hL7
          have e1 : gs.length = (gqL (gx : Int) (gy : Int)).length := by rw [← hgs, List.length_map]
          have e3 : gs7.length = (gqL (gx : Int) (gy : Int)).length := by rw [← hgs7, List.length_map]
          rw [e1, e3]
          have hGn := (gqL_small (gx : Int) (gy : Int)).1
          have HGA : Hid (gqOk (gx : Int) (gy : Int) = true → goodL (gqL (gx : Int) (gy : Int)) 7 = true ∧ allL (gqL (gx : Int) (gy : Int)) = true ∧ (gqL (gx : Int) (gy : Int)).length = gx * gy) := fun h => grid_all gx (by omega) gy (by omega) h
          generalize gqL (gx : Int) (gy : Int) = G at *
          generalize gqOk (gx : Int) (gy : Int) = go at *
          have hGm : G.length ≤ maxLen := by unfold maxLen; omega
          clear hgs hgs7 hO7 e1 e3 hL6 hX6 hY6 BT6 hB7
          go_wp2_with fail
          refine (sameLists_same ga ga7 gc gc7 G t7 hL67 hL7 hGm).mono ?_
          rintro r t8 ⟨rfl, m8, hw8⟩
          have hB8 : Below t7.heap.size t7 t8 := by rw [hw8]; exact below_drewN (Below.refl _ _) m8
          have hX8 := hX7.below hB8
          have hY8 := hY7.below hB8
          have BT8 := stC BT7 hB8
          have hG8 := hL67.below hB8
          clear hw8 hB8 hX7 hY7 BT7 hL67 hL7
          have last : ∀ u : World, Below w.heap.size w u → GrI u xa xc X → GrI u ya yc Y → True := fun _ _ _ _ => trivial
          clear last
          cases go
          · have BU := BT8
            have hXU := hX8
            have hYU := hY8
            clear BT8 hX8 hY8 hG8
            obtain ⟨wu, hwu⟩ : ∃ u, t8 = u := ⟨_, rfl⟩
            rw [hwu] at BU hXU hYU ⊢
            clear hwu
            cases dd
            · go_wp2
              go_ret
              exact ⟨rfl, BU⟩
            · have HD2 : Hid (domOk Y X = true) := by show _ = _; rw [HDC.out, HDD.out]
              obtain ⟨rr, hrr⟩ : ∃ rr, (domOk Y X && (eachL Y X && !eachL X Y)) = rr := ⟨_, rfl⟩
              have hno : (ee && rr) = false := by rw [← HEE.out, ← hrr]; exact HED.out _ _ rfl rfl
              go_wp2_with fail
              refine (dm_c ya xa yc xc Y X rr true wu hYU.rd hXU.rd hYm hXm hrr HD2.out).mono ?_
              rintro r wv ⟨rfl, hB⟩
              have BV := stC BU hB
              clear hB BU hrr HED
              cases ee <;> cases rr
              all_goals
                first
                | (exfalso; revert hno; decide)
                | (go_wp2
                   go_ret
                   exact ⟨rfl, BV⟩)
          · obtain ⟨g1, g2, g3⟩ := HGA.out rfl
            have HG1 : Hid (goodL G 7 = true) := g1
            have HG2 : Hid (allL G = true) := g2
            have hmul : ((gx : Int) * (gy : Int)) = ((G.length : Nat) : Int) := by rw [g3]; simp
            have hwm : IntKind.i64.wrap ((gx : Int) * (gy : Int)) = ((G.length : Nat) : Int) := by rw [hmul]; simp [IntKind.wrap, IntKind.bits, IntKind.signed]; omega
            have hwm2 : wrap64 ((gx : Int) * (gy : Int)) = ((G.length : Nat) : Int) := by rw [hmul]; unfold wrap64; omega
            have dne : (((G.length : Nat) : Int) != ((G.length : Nat) : Int)) = false := by simp
            clear g1 g2 g3 hmul
            go_wp2_with fail
            refine (am_c ga gc G t8 hG8 hGm HG1.out HG2.out).mono ?_
            rintro r wu ⟨rfl, hB⟩
            have BU := stC BT8 hB
            have hXU := hX8.below hB
            have hYU := hY8.below hB
            clear BT8 hX8 hY8 hG8 hB
            cases dd
            · go_wp2
              go_ret
              exact ⟨rfl, BU⟩
            · have HD2 : Hid (domOk Y X = true) := by show _ = _; rw [HDC.out, HDD.out]
              obtain ⟨rr, hrr⟩ : ∃ rr, (domOk Y X && (eachL Y X && !eachL X Y)) = rr := ⟨_, rfl⟩
              have hno : (ee && rr) = false := by rw [← HEE.out, ← hrr]; exact HED.out _ _ rfl rfl
              go_wp2_with fail
              refine (dm_c ya xa yc xc Y X rr true wu hYU.rd hXU.rd hYm hXm hrr HD2.out).mono ?_
              rintro r wv ⟨rfl, hB⟩
              have BV := stC BU hB
              clear hB BU hrr HED
              cases ee <;> cases rr
              all_goals
                first
                | (exfalso; revert hno; decide)
                | (go_wp2
                   go_ret
                   exact ⟨rfl, BV⟩)
  · obtain ⟨hall, hmt⟩ := HCA.out rfl
    subst hmt
    clear HCA
    cases ok
    · have BT := BBb
      obtain ⟨wt, hwt⟩ : ∃ u, wb = u := ⟨_, rfl⟩
      rw [hwt] at BT ⊢
      clear hwt BBb hGb hXb
      go_wp2_with fail
      refine (drawDominates_any a2 c2 bs2 wt (hs2.below BT) hl2).mono ?_
      rintro r t1 ⟨xa, ya, xc, yc, X, Y, rfl, hX, hY, hB⟩
      have BT1 := stC BT hB
      have hXm : X.length ≤ maxLen := by have := hX.n; unfold maxLen; omega
      have hYm : Y.length ≤ maxLen := by have := hY.n; unfold maxLen; omega
      clear hB BT
      go_wp2_with fail
      refine (implDom_any xa ya xc yc X Y t1 hX.rd hY.rd hXm hYm).mono ?_
      rintro r t2 ⟨rfl, hB⟩
      have hX2 := hX.below hB
      have hY2 := hY.below hB
      have BT2 := stC BT1 hB
      clear hX hY hB BT1
      go_wp2_with fail
      refine (specDom_any xa ya xc yc X Y t2 hX2.rd hY2.rd hXm hYm hX2.cap hY2.cap).mono ?_
      rintro r w' ⟨rfl, hw⟩
      rw [hw]
      clear hw w'
      have HDC : Hid (domOk Y X = domOk X Y) := dom_comm Y X
      have HED : Hid (∀ p q : Bool, p = eachL X Y → q = eachL Y X → ((domOk X Y && (p && !q)) && (domOk Y X && (q && !p))) = false) := fun p q _ _ => by cases p <;> cases q <;> simp
      have HR := (show Hid _ from (rfl : (domOk Y X && (eachL Y X && !eachL X Y)) = (domOk Y X && (eachL Y X && !eachL X Y))))
      obtain ⟨dd, hdd⟩ : ∃ dd, domOk X Y = dd := ⟨_, rfl⟩
      have HDD : Hid (domOk X Y = dd) := hdd
      obtain ⟨ee, hee⟩ : ∃ ee, (domOk X Y && (eachL X Y && !eachL Y X)) = ee := ⟨_, rfl⟩
      have HEE : Hid ((domOk X Y && (eachL X Y && !eachL Y X)) = ee) := hee
      rw [hee, hdd]
      clear hee hdd HR
      go_wp2_with fail
      refine (drawSurvives_any a2 c2 bs2 t2 (hs2.below BT2) hl2).mono ?_
      rintro r t3 ⟨ea, fa, ec, fc, E, f, rfl, hE, hf, hf6, hB⟩
      have hX3 := hX2.below hB
      have hY3 := hY2.below hB
      have BT3 := stC BT2 hB
      have hEm : E.length ≤ maxLen := by have := hE.n; unfold maxLen; omega
      have hfm : f.length ≤ maxLen := by unfold maxLen; omega
      clear hB BT2 hX2 hY2
      go_wp2_with fail
      refine (implSv_any ea fa ec fc E f t3 hE.rd hf hEm hfm).mono ?_
      rintro r t4 ⟨rfl, hB⟩
      have hX4 := hX3.below hB
      have hY4 := hY3.below hB
      have hE4 := hE.below hB
      have hf4 := hf.below hB
      have BT4 := stC BT3 hB
      clear hB BT3 hX3 hY3 hE hf
      go_wp2_with fail
      refine (specSv_any ea fa ec fc E f t4 hE4.rd hf4 hEm hfm).mono ?_
      rintro r w' ⟨rfl, hw⟩
      rw [hw]
      clear hw w'
      generalize (goodL E 7 && riseB f 7 && survL E f) = sv
      generalize (goodL E 7 && riseB f 7) = so
      go_wp2_with fail
      refine (drawGridQuorums_any a2 c2 bs2 t4 (hs2.below BT4) hl2).mono ?_
      rintro r t5 ⟨gx, gy, rfl, hx4, hy4, hB⟩
      have hX5 := hX4.below hB
      have hY5 := hY4.below hB
      have BT5 := stC BT4 hB
      have hT5 := hT.bel BT5
      clear hB BT4 hX4 hY4 hE4 hf4
      go_wp2_with fail
      refine (implGQ_any (gx : Int) (gy : Int) t5 hT5).mono ?_
      rintro r t6 ⟨ga, gc, gs, hgs, rfl, hO6, hB6⟩
      have hX6 := hX5.below hB6
      have hY6 := hY5.below hB6
      have BT6 := stC BT5 hB6
      have hL6 := hO6.intss (fun ys hy => by rw [hgs] at hy; have := (gqL_small (gx : Int) (gy : Int)).2 ys hy; unfold maxLen; omega)
      clear hX5 hY5 BT5 hT5 hO6 hB6
      go_wp2_with fail
      refine (specGQ_any (gx : Int) (gy : Int) t6).mono ?_
      rintro r t7 ⟨ga7, gc7, gs7, hgs7, rfl, hO7, hB7⟩
      have hX7 := hX6.below hB7
      have hY7 := hY6.below hB7
      have BT7 := stC BT6 hB7
      have hL7 := hO7.intss (fun ys hy => by rw [hgs7] at hy; have := (gqL_small (gx : Int) (gy : Int)).2 ys hy; unfold maxLen; omega)
      have hL67 := hL6.below hB7
      rw [hgs] at hL67
      rw [hgs7] at hL7
      have e1 : gs.length = (gqL (gx : Int) (gy : Int)).length := by rw [← hgs, List.length_map]
      have e3 : gs7.length = (gqL (gx : Int) (gy : Int)).length := by rw [← hgs7, List.length_map]
      rw [e1, e3]
      have hGn := (gqL_small (gx : Int) (gy : Int)).1
      have HGA : Hid (gqOk (gx : Int) (gy : Int) = true → goodL (gqL (gx : Int) (gy : Int)) 7 = true ∧ allL (gqL (gx : Int) (gy : Int)) = true ∧ (gqL (gx : Int) (gy : Int)).length = gx * gy) := fun h => grid_all gx (by omega) gy (by omega) h
      generalize gqL (gx : Int) (gy : Int) = G at *
      generalize gqOk (gx : Int) (gy : Int) = go at *
      have hGm : G.length ≤ maxLen := by unfold maxLen; omega
      clear hgs hgs7 hO7 e1 e3 hL6 hX6 hY6 BT6 hB7
      go_wp2_with fail
      refine (sameLists_same ga ga7 gc gc7 G t7 hL67 hL7 hGm).mono ?_
      rintro r t8 ⟨rfl, m8, hw8⟩
      have hB8 : Below t7.heap.size t7 t8 := by rw [hw8]; exact below_drewN (Below.refl _ _) m8
      have hX8 := hX7.below hB8
      have hY8 := hY7.below hB8
      have BT8 := stC BT7 hB8
      have hG8 := hL67.below hB8
      clear hw8 hB8 hX7 hY7 BT7 hL67 hL7
      have last : ∀ u : World, Below w.heap.size w u → GrI u xa xc X → GrI u ya yc Y → True := fun _ _ _ _ => trivial
      clear last
      cases go
      · have BU := BT8
        have hXU := hX8
        have hYU := hY8
        clear BT8 hX8 hY8 hG8
        obtain ⟨wu, hwu⟩ : ∃ u, t8 = u := ⟨_, rfl⟩
        rw [hwu] at BU hXU hYU ⊢
        clear hwu
        cases dd
        · go_wp2
          go_ret
          exact ⟨rfl, BU⟩
        · have HD2 : Hid (domOk Y X = true) := by show _ = _; rw [HDC.out, HDD.out]
          obtain ⟨rr, hrr⟩ : ∃ rr, (domOk Y X && (eachL Y X && !eachL X Y)) = rr := ⟨_, rfl⟩
          have hno : (ee && rr) = false := by rw [← HEE.out, ← hrr]; exact HED.out _ _ rfl rfl
          go_wp2_with fail
          refine (dm_c ya xa yc xc Y X rr true wu hYU.rd hXU.rd hYm hXm hrr HD2.out).mono ?_
          rintro r wv ⟨rfl, hB⟩
          have BV := stC BU hB
          clear hB BU hrr HED
          cases ee <;> cases rr
          all_goals
            first
            | (exfalso; revert hno; decide)
            | (go_wp2
               go_ret
               exact ⟨rfl, BV⟩)
      · obtain ⟨g1, g2, g3⟩ := HGA.out rfl
        have HG1 : Hid (goodL G 7 = true) := g1
        have HG2 : Hid (allL G = true) := g2
        have hmul : ((gx : Int) * (gy : Int)) = ((G.length : Nat) : Int) := by rw [g3]; simp
        have hwm : IntKind.i64.wrap ((gx : Int) * (gy : Int)) = ((G.length : Nat) : Int) := by rw [hmul]; simp [IntKind.wrap, IntKind.bits, IntKind.signed]; omega
        have hwm2 : wrap64 ((gx : Int) * (gy : Int)) = ((G.length : Nat) : Int) := by rw [hmul]; unfold wrap64; omega
        have dne : (((G.length : Nat) : Int) != ((G.length : Nat) : Int)) = false := by simp
        clear g1 g2 g3 hmul
        go_wp2_with fail
        refine (am_c ga gc G t8 hG8 hGm HG1.out HG2.out).mono ?_
        rintro r wu ⟨rfl, hB⟩
        have BU := stC BT8 hB
        have hXU := hX8.below hB
        have hYU := hY8.below hB
        clear BT8 hX8 hY8 hG8 hB
        cases dd
        · go_wp2
          go_ret
          exact ⟨rfl, BU⟩
        · have HD2 : Hid (domOk Y X = true) := by show _ = _; rw [HDC.out, HDD.out]
          obtain ⟨rr, hrr⟩ : ∃ rr, (domOk Y X && (eachL Y X && !eachL X Y)) = rr := ⟨_, rfl⟩
          have hno : (ee && rr) = false := by rw [← HEE.out, ← hrr]; exact HED.out _ _ rfl rfl
          go_wp2_with fail
          refine (dm_c ya xa yc xc Y X rr true wu hYU.rd hXU.rd hYm hXm hrr HD2.out).mono ?_
          rintro r wv ⟨rfl, hB⟩
          have BV := stC BU hB
          clear hB BU hrr HED
          cases ee <;> cases rr
          all_goals
            first
            | (exfalso; revert hno; decide)
            | (go_wp2
               go_ret
               exact ⟨rfl, BV⟩)
    · have hgt : gg = true := by rw [← HGG.out]; exact HGD.out rfl
      subst hgt
      have hg7 : goodL L 7 = true := HGD.out rfl
      have HG7 : Hid (goodL L 7 = true) := hg7
      clear hg7
      have HBF := (show Hid _ from HBK.out rfl)
      have HIN := (show Hid _ from HCT.out rfl hall)
      go_wp2
      go_loopw [138] (fun i wr => ∃ k : Nat, k ≤ B.length ∧ i = .int .i64 k ∧ Below wb.heap.size wb wr) (fun i _ => B.length - (intOf i).toNat)
      case atStart => exact ⟨0, Nat.zero_le _, rfl, Below.refl _ _⟩
      case round =>
        obtain ⟨k, hk, rfl, hBr⟩ := hrel
        have hGr := hGb.below hBr
        have hXr := hXb.below hBr
        have BR := stC BBb hBr
        by_cases hlt : k < B.length
        · obtain ⟨x, hx⟩ := getL hlt
          obtain ⟨b1, o1, ai, ci, rfl, hc1, hI1, hxc, hx7⟩ := hXr k x hx
          have hki : (k : Int) < (B.length : Int) := by omega
          have HF : Hid (BlkF L x) := HBF.out x (List.mem_of_getElem? hx)
          have hxm : x.length ≤ maxLen := by unfold maxLen; omega
          clear hx
          go_wp2_with fail
          refine (sv_c L x true false _ _ _ _ wr hGr.rd hI1 hLm hxm HG7.out HF.out.rise HF.out.none).mono ?_
          rintro r ws ⟨rfl, hBs⟩
          have hIs := hI1.below hBs
          have BS := stC hBr hBs
          clear hI1 hc1
          go_wp2
          go_loopw [155] (fun i wr => ∃ j : Nat, j ≤ x.length ∧ i = .int .i64 j ∧ Below ws.heap.size ws wr) (fun i _ => x.length - (intOf i).toNat)
          case atStart => exact ⟨0, Nat.zero_le _, rfl, Below.refl _ _⟩
          case round =>
            obtain ⟨j, hj, rfl, hBq⟩ := hrel
            have hIq := hIs.below hBq
            have hGq := hGb.below (stC BS hBq)
            by_cases hjl : j < x.length
            · obtain ⟨bx, ox, rfl, -⟩ := hIq j _ (zA_get hjl)
              obtain ⟨hle1, hle2⟩ := HF.out.less j hjl
              have HL1 : Hid (riseB (x.eraseIdx j) 7 = true) := hle1
              have HL2 : Hid (survL L (x.eraseIdx j) = true) := hle2
              have hji : (j : Int) < (x.length : Int) := by omega
              have hjc : j ≤ ci := by omega
              have hj1 : j + 1 ≤ x.length := by omega
              have hj1I : (j : Int) + 1 ≤ (x.length : Int) := by omega
              have hxcI : (x.length : Int) ≤ (ci : Int) := by omega
              have hjcI : (j : Int) ≤ (ci : Int) := by omega
              have h0j : (0 : Int) ≤ (j : Int) := by omega
              have h0j1 : (0 : Int) ≤ (j : Int) + 1 := by omega
              have hW1 : IntKind.i64.wrap ((j : Int) + 1) = (j : Int) + 1 := by simp [IntKind.wrap, IntKind.bits, IntKind.signed]; omega
              have hW2 : wrap64 ((j : Int) + 1) = (j : Int) + 1 := by unfold wrap64; omega
              clear hle1 hle2
              obtain ⟨HTL, HTL2, HN1, HN2, HN3, HN4, HEL, HEM⟩ := erase_nums x j hjl hx7
              go_wp2_with fail
              obtain ⟨x0, hx0⟩ : ∃ x, wr.drew = x := ⟨_, rfl⟩
              have HB0 : Below wr.heap.size wr x0 := by rw [← hx0]; exact (Below.refl _ _).drew
              refine wp_region_noPanic ?_
              refine wp_region_held_drew (S := fun _ => True) (by kernel_rfl) trivial (fun hHn => ?_)
              clear hHn
              rw [hx0]
              clear hx0
              refine wpAnyH_take (i := 0) (oi := ⟨_, _, _, _, _, _⟩) (v := ?vc14x) rfl (by kernel_rfl) (by kernel_rfl) (by kernel_rfl) (fun _ _ _ h => h) (Or.inl ⟨by rfl, ?yc14x⟩) trivial ?rc14x
              case yc14x => intro w hSw; clear hSw; go_simp; try with_reducible rfl
              try simp only [Act.put, List.setIfInBounds_toArray, List.set_cons_zero, List.set_cons_succ]
              refine wpAnyH_take (i := 2) (oi := ⟨_, _, _, _, _, _⟩) (v := ?vc15x) rfl (by kernel_rfl) (by kernel_rfl) (by kernel_rfl) (fun _ _ _ h => h) (Or.inl ⟨by rfl, ?yc15x⟩) trivial ?rc15x
              case yc15x => intro w hSw; clear hSw; go_simp; try with_reducible rfl
              try simp only [Act.put, List.setIfInBounds_toArray, List.set_cons_zero, List.set_cons_succ]
              refine wpAnyH_take (i := 3) (oi := ⟨_, _, _, _, _, _⟩) (v := ?vc16x) rfl (by kernel_rfl) (by kernel_rfl) (by kernel_rfl) (fun _ _ _ h => h) (Or.inl ⟨by rfl, ?yc16x⟩) trivial ?rc16x
              case yc16x => intro w hSw; clear hSw; go_simp; try with_reducible rfl
              try simp only [Act.put, List.setIfInBounds_toArray, List.set_cons_zero, List.set_cons_succ]
              refine wpAnyH_take (i := 4) (oi := ⟨_, _, _, _, _, _⟩) (v := ?vc17x) rfl (by kernel_rfl) (by kernel_rfl) (by kernel_rfl) (fun _ _ _ h => h) (Or.inl ⟨by rfl, ?yc17x⟩) trivial ?rc17x
              case yc17x => intro w hSw; clear hSw; go_simp; try with_reducible rfl
              try simp only [Act.put, List.setIfInBounds_toArray, List.set_cons_zero, List.set_cons_succ]
              refine wpAnyH_take (i := 6) (oi := ⟨_, _, _, _, _, _⟩) (v := ?vc18x) rfl (by kernel_rfl) (by kernel_rfl) (by kernel_rfl) (fun _ _ _ h => h) (Or.inl ⟨by rfl, ?yc18x⟩) trivial ?rc18x
              case yc18x => intro w hSw; clear hSw; go_simp; try with_reducible rfl
              try simp only [Act.put, List.setIfInBounds_toArray, List.set_cons_zero, List.set_cons_succ]
              refine wpAnyH_take (i := 7) (oi := ⟨_, _, _, _, _, _⟩) (v := ?vc19x) rfl (by kernel_rfl) (by kernel_rfl) (by kernel_rfl) (fun _ _ _ h => h) (Or.inl ⟨by rfl, ?yc19x⟩) trivial ?rc19x
              case yc19x => intro w hSw; clear hSw; go_simp; try with_reducible rfl
              try simp only [Act.put, List.setIfInBounds_toArray, List.set_cons_zero, List.set_cons_succ]
              refine wpAnyH_take (i := 8) (oi := ⟨_, _, _, _, _, _⟩) (v := ?vc20x) rfl (by kernel_rfl) (by kernel_rfl) (by kernel_rfl) (fun _ _ _ h => h) (Or.inl ⟨by rfl, ?yc20x⟩) trivial ?rc20x
              case yc20x => intro w hSw; clear hSw; go_simp; try with_reducible rfl
              try simp only [Act.put, List.setIfInBounds_toArray, List.set_cons_zero, List.set_cons_succ]
              refine wpAnyH_take (i := 9) (oi := ⟨_, _, _, _, _, _⟩) (v := ?vc21x) rfl (by kernel_rfl) (by kernel_rfl) (by kernel_rfl) (fun _ _ _ h => h) (Or.inl ⟨by rfl, ?yc21x⟩) trivial ?rc21x
              case yc21x => intro w hSw; clear hSw; go_simp; rw [pd_eq]
              try simp only [Act.put, List.setIfInBounds_toArray, List.set_cons_zero, List.set_cons_succ]
              refine wpAnyH_ready (rs := [1]) (by kernel_rfl) (by simp) ?_
              refine AllReadyH.cons (o := ⟨_, _, _, _, _, _⟩) rfl (fun KK hK => ?_) AllReadyH.nil
              go_simp
              obtain ⟨x1, hx1⟩ : ∃ u, x0.alloc (.cells #[] 3) = u := ⟨_, rfl⟩
              have HEm : x1.heap[x0.heap.size]? = some (.cells #[] 3 (0, 0)) := by rw [← hx1]; exact heap_alloc_new _ _
              have BE : Below x0.heap.size x0 x1 := by rw [← hx1]; exact (Below.refl _ _).alloc (Nat.le_refl _) _
              have HB1 := stC HB0 BE
              have lx : wr.heap.size ≤ x0.heap.size := HB0.size
              go_simp
              refine hK.out _ _ trivial (fun hHn => ?_)
              clear hK KK hHn
              try simp only [Act.put, List.setIfInBounds_toArray, List.set_cons_zero, List.set_cons_succ]
              clear hx1 BE HB0
              refine wpAnyH_ready (rs := [5]) (by kernel_rfl) (by simp) ?_
              refine AllReadyH.cons (o := ⟨_, _, _, _, _, _⟩) rfl (fun KK hK => ?_) AllReadyH.nil
              have hT1 : Ints x1 (some ⟨bx, ox, none⟩) (x.take j) := ints_take (hIq.below HB1) j
              refine step_appZ _ (by rfl) _ _ 31 (by rfl) wr.heap.size 3 i0 _ 1 8 Tryd.underlying31 hi hz0 hz1 hz2 rfl (by decide) (.slice (some ⟨x0.heap.size, 0, none⟩) 0 0) 0 [] (by rfl) (owns_emptyC HEm lx) (.slice (some ⟨bx, ox, none⟩) j ci) j (zCells (x.take j)) (by rfl) (srcC HTL.out hT1) HN1.out HN2.out HB1.size ?_
              intro v1 x2 HV hgrow1 hat1
              simp only [Nat.zero_add, List.nil_append] at HV
              have HB2 := HB1.grown hgrow1 HB1.size (fun q hq => own_le lx hq)
              obtain ⟨a1, c1, rfl⟩ := ownsZ_form HV
              refine hK.out _ _ trivial (fun hHn => ?_)
              clear hK KK hHn
              try simp only [Act.put, List.setIfInBounds_toArray, List.set_cons_zero, List.set_cons_succ]
              clear hgrow1 hat1 HEm hT1 HB1
              refine wpAnyH_ready (rs := [10]) (by kernel_rfl) (by simp) ?_
              refine AllReadyH.cons (o := ⟨_, _, _, _, _, _⟩) rfl (fun KK hK => ?_) AllReadyH.nil
              have hT2 : Ints x2 (pdA bx ox ci j) (x.drop (j + 1)) := ints_pd (hIq.below HB2) hxc hjl
              refine step_appZ _ (by rfl) _ _ 31 (by rfl) wr.heap.size 3 i0 _ 1 8 Tryd.underlying31 hi hz0 hz1 hz2 rfl (by decide) (.slice a1 j c1) j (zCells (x.take j)) (by rfl) HV (.slice (pdA bx ox ci j) (x.length - (j + 1)) (ci - (j + 1))) (x.length - (j + 1)) (zCells (x.drop (j + 1))) (by first | rfl | simp) (srcC HTL2.out hT2) HN3.out HN4.out HB2.size ?_
              intro v2 x3 HV2 hgrow2 hat2
              have HB3 := HB2.grown hgrow2 HB2.size (fun q hq => (HV.lt q hq).1)
              have HV3 : x3.ownsRow wr.heap.size 3 1 v2 (x.eraseIdx j).length (zCells (x.eraseIdx j)) := erase_own HEL.out HV2
              obtain ⟨a3, c3, rfl⟩ := ownsZ_form HV3
              have hI3 := (ints_of_owns HV3).1
              have hG3 := hGq.rd.below HB3
              refine hK.out _ _ trivial (fun hHn => ?_)
              clear hK KK hHn
              try simp only [Act.put, List.setIfInBounds_toArray, List.set_cons_zero, List.set_cons_succ]
              clear hgrow2 hat2 HV HV2 HV3 hT2 HB2
              refine wpAnyH_ready (rs := [11]) (by kernel_rfl) (by simp) ?_
              refine AllReadyH.cons (o := ⟨_, _, _, _, _, _⟩) rfl (fun KK hK => ?_) AllReadyH.nil
              go_simp
              refine (sv_c L (x.eraseIdx j) true true _ _ _ _ x3 hG3 hI3 hLm HEM.out HG7.out HL1.out HL2.out).mono ?_
              rintro r x4 ⟨rfl, hB4⟩
              have HB4 := stC HB3 hB4
              clear hB4 HB3 hI3 hG3
              go_wp2_with fail
              refine hK.out _ _ trivial (fun hHn => ?_)
              clear hK KK hHn
              try simp only [Act.put, List.setIfInBounds_toArray, List.set_cons_zero, List.set_cons_succ]
              refine wpAnyH_take (i := 12) (oi := ⟨_, _, _, _, _, _⟩) (v := ?vc22x) rfl (by kernel_rfl) (by kernel_rfl) (by kernel_rfl) (fun _ _ _ h => h) (Or.inl ⟨by rfl, ?yc22x⟩) trivial ?rc22x
              case yc22x => intro w hSw; clear hSw; go_simp; try with_reducible rfl
              try simp only [Act.put, List.setIfInBounds_toArray, List.set_cons_zero, List.set_cons_succ]
              refine wpAnyH_take (i := 13) (oi := ⟨_, _, _, _, _, _⟩) (v := ?vc23x) rfl (by kernel_rfl) (by kernel_rfl) (by kernel_rfl) (fun _ _ _ h => h) (Or.inl ⟨by rfl, ?yc23x⟩) trivial ?rc23x
              case yc23x => intro w hSw; clear hSw; go_simp; try with_reducible rfl
              try simp only [Act.put, List.setIfInBounds_toArray, List.set_cons_zero, List.set_cons_succ]
              refine wpAnyH_take (i := 14) (oi := ⟨_, _, _, _, _, _⟩) (v := ?vc24x) rfl (by kernel_rfl) (by kernel_rfl) (by kernel_rfl) (fun _ _ _ h => h) (Or.inl ⟨by rfl, ?yc24x⟩) trivial ?rc24x
              case yc24x => intro w hSw; clear hSw; go_simp; try with_reducible rfl
              try simp only [Act.put, List.setIfInBounds_toArray, List.set_cons_zero, List.set_cons_succ]
              refine wpAnyH_take (i := 15) (oi := ⟨_, _, _, _, _, _⟩) (v := ?vc25x) rfl (by kernel_rfl) (by kernel_rfl) (by kernel_rfl) (fun _ _ _ h => h) (Or.inl ⟨by rfl, ?yc25x⟩) trivial ?rc25x
              case yc25x => intro w hSw; clear hSw; go_simp; try with_reducible rfl
              try simp only [Act.put, List.setIfInBounds_toArray, List.set_cons_zero, List.set_cons_succ]
              refine wpAnyH_take (i := 16) (oi := ⟨_, _, _, _, _, _⟩) (v := ?vc26x) rfl (by kernel_rfl) (by kernel_rfl) (by kernel_rfl) (fun _ _ _ h => h) (Or.inl ⟨by rfl, ?yc26x⟩) trivial ?rc26x
              case yc26x => intro w hSw; clear hSw; go_simp; try with_reducible rfl
              try simp only [Act.put, List.setIfInBounds_toArray, List.set_cons_zero, List.set_cons_succ]
              refine wpAnyH_done (by kernel_rfl) (NoPanic.normal ?_) _
              have BN := stC hBq HB4
              clear HB4 HTL HTL2 HN1 HN2 HN3 HN4 HEL HEM HL1 HL2 hIq hGq hjc hj1 hj1I hxcI hjcI h0j h0j1 hW1 hW2 lx HF HBF
              go_wp2
              go_roundw
              case rel => exact ⟨j + 1, by omega, by go_num, BN⟩
              case measure => simp [intOf]; omega
            · obtain rfl : j = x.length := by omega
              have BN := stC BS hBq
              clear hIq hGq hIs
              go_wp2
              go_roundw
              case rel => exact ⟨k + 1, by omega, by go_num, BN⟩
              case measure => simp [intOf]; omega
        · obtain rfl : k = B.length := by omega
          clear hlt
          go_wp2
          go_loop [187] (fun i => ∃ q : Nat, q ≤ L.length ∧ i = .int .i64 q) (fun i => L.length - (intOf i).toNat)
          case atStart => exact ⟨0, Nat.zero_le _, rfl⟩
          case round =>
            obtain ⟨q, hq, rfl⟩ := hrel
            by_cases hql : q < L.length
            · obtain ⟨g, hg⟩ := getL hql
              obtain ⟨b1, o1, ai, ci, ea, hc1, hI1, hgm⟩ := hGr.rd q g hg
              have HGI : Hid (∃ x, x ∈ B ∧ ∀ n, n ∈ x → n ∈ g) := HIN.out g (List.mem_of_getElem? hg)
              have hqi : (q : Int) < (L.length : Int) := by omega
              subst ea
              clear hg
              go_wp2
              go_loop [28, 193] (fun fv i => ∃ (k : Nat) (fb : Bool), k ≤ B.length ∧ i = .int .i64 k ∧ fv = .bool fb ∧ Hid (((B.take k).any fun x => x.all fun n => g.contains n) = fb)) (fun _ i => B.length - (intOf i).toNat)
              case atStart => exact ⟨0, false, Nat.zero_le _, rfl, rfl, (by show _ = _; simp)⟩
              case round =>
                obtain ⟨k, fb, hk2, rfl, rfl, HFB⟩ := hrel
                by_cases hkl : k < B.length
                · obtain ⟨x, hx⟩ := getL hkl
                  obtain ⟨b2, o2, aj, cj, eb, hc2, hI2, hxc, hx7⟩ := hXr k x hx
                  subst eb
                  have hki : (k : Int) < (B.length : Int) := by omega
                  have HTK : Hid (∀ ib, (x.all fun n => g.contains n) = ib → ((B.take (k + 1)).any fun x => x.all fun n => g.contains n) = (fb || ib)) := fun ib h => any_next hx HFB.out h
                  clear hx
                  go_wp2
                  go_loop [31, 199] (fun iv i => ∃ (j : Nat) (ib : Bool), j ≤ x.length ∧ i = .int .i64 j ∧ iv = .bool ib ∧ Hid (((x.take j).all fun n => g.contains n) = ib)) (fun _ i => x.length - (intOf i).toNat)
                  case atStart => exact ⟨0, true, Nat.zero_le _, rfl, rfl, (by show _ = _; simp)⟩
                  case round =>
                    obtain ⟨j, ib, hj, rfl, rfl, HIB⟩ := hrel
                    by_cases hjl : j < x.length
                    · obtain ⟨b3, o3, ec, hc3⟩ := hI2 j _ (zA_get hjl)
                      subst ec
                      have hji : (j : Int) < (x.length : Int) := by omega
                      have HTJ : Hid (∀ d, g.contains (zA x j) = d → ((x.take (j + 1)).all fun n => g.contains n) = (ib && d)) := fun d h => all_next (zA_get hjl) HIB.out h
                      obtain ⟨y, hy⟩ : ∃ y, zA x j = y := ⟨_, rfl⟩
                      rw [hy] at hc3 HTJ
                      clear hy
                      obtain ⟨d, hd⟩ : ∃ d, g.contains y = d := ⟨_, rfl⟩
                      have HND := (show Hid _ from HTJ.out d hd)
                      cases ib <;> cases d
                      all_goals
                        go_wp2_with (go_at_call 13; refine (hasZ_any _ _ _ _ _ _ hI1 hgm hd).mono ?_; rintro e w' ⟨rfl, hw⟩; rw [hw]; clear hw w')
                        go_round
                        case rel => exact ⟨j + 1, _, by omega, by go_num, rfl, HND.out⟩
                        case measure => simp [intOf]; omega
                    · obtain rfl : j = x.length := by omega
                      have HND := (show Hid _ from HTK.out ib (all_full HIB.out))
                      cases fb <;> cases ib
                      all_goals
                        go_wp2
                        go_round
                        case rel => exact ⟨k + 1, _, by omega, by go_num, rfl, HND.out⟩
                        case measure => simp [intOf]; omega
                · obtain rfl : k = B.length := by omega
                  have hfb : fb = true := any_full HFB.out HGI.out
                  subst hfb
                  go_wp2
                  go_round
                  case rel => exact ⟨q + 1, by omega, by go_num⟩
                  case measure => simp [intOf]; omega
            · obtain rfl : q = L.length := by omega
              have BT := BR
              obtain ⟨wt, hwt⟩ : ∃ u, wr = u := ⟨_, rfl⟩
              rw [hwt] at BT ⊢
              clear hwt BR hBr hGr hXr
              go_wp2_with fail
              refine (drawDominates_any a2 c2 bs2 wt (hs2.below BT) hl2).mono ?_
              rintro r t1 ⟨xa, ya, xc, yc, X, Y, rfl, hX, hY, hB⟩
              have BT1 := stC BT hB
              have hXm : X.length ≤ maxLen := by have := hX.n; unfold maxLen; omega
              have hYm : Y.length ≤ maxLen := by have := hY.n; unfold maxLen; omega
              clear hB BT
              go_wp2_with fail
              refine (implDom_any xa ya xc yc X Y t1 hX.rd hY.rd hXm hYm).mono ?_
              rintro r t2 ⟨rfl, hB⟩
              have hX2 := hX.below hB
              have hY2 := hY.below hB
              have BT2 := stC BT1 hB
              clear hX hY hB BT1
              go_wp2_with fail
              refine (specDom_any xa ya xc yc X Y t2 hX2.rd hY2.rd hXm hYm hX2.cap hY2.cap).mono ?_
              rintro r w' ⟨rfl, hw⟩
              rw [hw]
              clear hw w'
              have HDC : Hid (domOk Y X = domOk X Y) := dom_comm Y X
              have HED : Hid (∀ p q : Bool, p = eachL X Y → q = eachL Y X → ((domOk X Y && (p && !q)) && (domOk Y X && (q && !p))) = false) := fun p q _ _ => by cases p <;> cases q <;> simp
              have HR := (show Hid _ from (rfl : (domOk Y X && (eachL Y X && !eachL X Y)) = (domOk Y X && (eachL Y X && !eachL X Y))))
              obtain ⟨dd, hdd⟩ : ∃ dd, domOk X Y = dd := ⟨_, rfl⟩
              have HDD : Hid (domOk X Y = dd) := hdd
              obtain ⟨ee, hee⟩ : ∃ ee, (domOk X Y && (eachL X Y && !eachL Y X)) = ee := ⟨_, rfl⟩
              have HEE : Hid ((domOk X Y && (eachL X Y && !eachL Y X)) = ee) := hee
              rw [hee, hdd]
              clear hee hdd HR
              go_wp2_with fail
              refine (drawSurvives_any a2 c2 bs2 t2 (hs2.below BT2) hl2).mono ?_
              rintro r t3 ⟨ea, fa, ec, fc, E, f, rfl, hE, hf, hf6, hB⟩
              have hX3 := hX2.below hB
              have hY3 := hY2.below hB
              have BT3 := stC BT2 hB
              have hEm : E.length ≤ maxLen := by have := hE.n; unfold maxLen; omega
              have hfm : f.length ≤ maxLen := by unfold maxLen; omega
              clear hB BT2 hX2 hY2
              go_wp2_with fail
              refine (implSv_any ea fa ec fc E f t3 hE.rd hf hEm hfm).mono ?_
              rintro r t4 ⟨rfl, hB⟩
              have hX4 := hX3.below hB
              have hY4 := hY3.below hB
              have hE4 := hE.below hB
              have hf4 := hf.below hB
              have BT4 := stC BT3 hB
              clear hB BT3 hX3 hY3 hE hf
              go_wp2_with fail
              refine (specSv_any ea fa ec fc E f t4 hE4.rd hf4 hEm hfm).mono ?_
              rintro r w' ⟨rfl, hw⟩
              rw [hw]
              clear hw w'
              generalize (goodL E 7 && riseB f 7 && survL E f) = sv
              generalize (goodL E 7 && riseB f 7) = so
              go_wp2_with fail
              refine (drawGridQuorums_any a2 c2 bs2 t4 (hs2.below BT4) hl2).mono ?_
              rintro r t5 ⟨gx, gy, rfl, hx4, hy4, hB⟩
              have hX5 := hX4.below hB
              have hY5 := hY4.below hB
              have BT5 := stC BT4 hB
              have hT5 := hT.bel BT5
              clear hB BT4 hX4 hY4 hE4 hf4
              go_wp2_with fail
              refine (implGQ_any (gx : Int) (gy : Int) t5 hT5).mono ?_
              rintro r t6 ⟨ga, gc, gs, hgs, rfl, hO6, hB6⟩
              have hX6 := hX5.below hB6
              have hY6 := hY5.below hB6
              have BT6 := stC BT5 hB6
              have hL6 := hO6.intss (fun ys hy => by rw [hgs] at hy; have := (gqL_small (gx : Int) (gy : Int)).2 ys hy; unfold maxLen; omega)
              clear hX5 hY5 BT5 hT5 hO6 hB6
              go_wp2_with fail
              refine (specGQ_any (gx : Int) (gy : Int) t6).mono ?_
              rintro r t7 ⟨ga7, gc7, gs7, hgs7, rfl, hO7, hB7⟩
              have hX7 := hX6.below hB7
              have hY7 := hY6.below hB7
              have BT7 := stC BT6 hB7
              have hL7 := hO7.intss (fun ys hy => by rw [hgs7] at hy; have := (gqL_small (gx : Int) (gy : Int)).2 ys hy; unfold maxLen; omega)
              have hL67 := hL6.below hB7
              rw [hgs] at hL67
              rw [hgs7] at hL7
              have e1 : gs.length = (gqL (gx : Int) (gy : Int)).length := by rw [← hgs, List.length_map]
              have e3 : gs7.length = (gqL (gx : Int) (gy : Int)).length := by rw [← hgs7, List.length_map]
              rw [e1, e3]
              have hGn := (gqL_small (gx : Int) (gy : Int)).1
              have HGA : Hid (gqOk (gx : Int) (gy : Int) = true → goodL (gqL (gx : Int) (gy : Int)) 7 = true ∧ allL (gqL (gx : Int) (gy : Int)) = true ∧ (gqL (gx : Int) (gy : Int)).length = gx * gy) := fun h => grid_all gx (by omega) gy (by omega) h
              generalize gqL (gx : Int) (gy : Int) = G at *
              generalize gqOk (gx : Int) (gy : Int) = go at *
              have hGm : G.length ≤ maxLen := by unfold maxLen; omega
              clear hgs hgs7 hO7 e1 e3 hL6 hX6 hY6 BT6 hB7
              go_wp2_with fail
              refine (sameLists_same ga ga7 gc gc7 G t7 hL67 hL7 hGm).mono ?_
              rintro r t8 ⟨rfl, m8, hw8⟩
              have hB8 : Below t7.heap.size t7 t8 := by rw [hw8]; exact below_drewN (Below.refl _ _) m8
              have hX8 := hX7.below hB8
              have hY8 := hY7.below hB8
              have BT8 := stC BT7 hB8
              have hG8 := hL67.below hB8
              clear hw8 hB8 hX7 hY7 BT7 hL67 hL7
              have last : ∀ u : World, Below w.heap.size w u → GrI u xa xc X → GrI u ya yc Y → True := fun _ _ _ _ => trivial
              clear last
              cases go
              · have BU := BT8
                have hXU := hX8
                have hYU := hY8
                clear BT8 hX8 hY8 hG8
                obtain ⟨wu, hwu⟩ : ∃ u, t8 = u := ⟨_, rfl⟩
                rw [hwu] at BU hXU hYU ⊢
                clear hwu
                cases dd
                · go_wp2
                  go_ret
                  exact ⟨rfl, BU⟩
                · have HD2 : Hid (domOk Y X = true) := by show _ = _; rw [HDC.out, HDD.out]
                  obtain ⟨rr, hrr⟩ : ∃ rr, (domOk Y X && (eachL Y X && !eachL X Y)) = rr := ⟨_, rfl⟩
                  have hno : (ee && rr) = false := by rw [← HEE.out, ← hrr]; exact HED.out _ _ rfl rfl
                  go_wp2_with fail
                  refine (dm_c ya xa yc xc Y X rr true wu hYU.rd hXU.rd hYm hXm hrr HD2.out).mono ?_
                  rintro r wv ⟨rfl, hB⟩
                  have BV := stC BU hB
                  clear hB BU hrr HED
                  cases ee <;> cases rr
                  all_goals
                    first
                    | (exfalso; revert hno; decide)
                    | (go_wp2
                       go_ret
                       exact ⟨rfl, BV⟩)
              · obtain ⟨g1, g2, g3⟩ := HGA.out rfl
                have HG1 : Hid (goodL G 7 = true) := g1
                have HG2 : Hid (allL G = true) := g2
                have hmul : ((gx : Int) * (gy : Int)) = ((G.length : Nat) : Int) := by rw [g3]; simp
                have hwm : IntKind.i64.wrap ((gx : Int) * (gy : Int)) = ((G.length : Nat) : Int) := by rw [hmul]; simp [IntKind.wrap, IntKind.bits, IntKind.signed]; omega
                have hwm2 : wrap64 ((gx : Int) * (gy : Int)) = ((G.length : Nat) : Int) := by rw [hmul]; unfold wrap64; omega
                have dne : (((G.length : Nat) : Int) != ((G.length : Nat) : Int)) = false := by simp
                clear g1 g2 g3 hmul
                go_wp2_with fail
                refine (am_c ga gc G t8 hG8 hGm HG1.out HG2.out).mono ?_
                rintro r wu ⟨rfl, hB⟩
                have BU := stC BT8 hB
                have hXU := hX8.below hB
                have hYU := hY8.below hB
                clear BT8 hX8 hY8 hG8 hB
                cases dd
                · go_wp2
                  go_ret
                  exact ⟨rfl, BU⟩
                · have HD2 : Hid (domOk Y X = true) := by show _ = _; rw [HDC.out, HDD.out]
                  obtain ⟨rr, hrr⟩ : ∃ rr, (domOk Y X && (eachL Y X && !eachL X Y)) = rr := ⟨_, rfl⟩
                  have hno : (ee && rr) = false := by rw [← HEE.out, ← hrr]; exact HED.out _ _ rfl rfl
                  go_wp2_with fail
                  refine (dm_c ya xa yc xc Y X rr true wu hYU.rd hXU.rd hYm hXm hrr HD2.out).mono ?_
                  rintro r wv ⟨rfl, hB⟩
                  have BV := stC BU hB
                  clear hB BU hrr HED
                  cases ee <;> cases rr
                  all_goals
                    first
                    | (exfalso; revert hno; decide)
                    | (go_wp2
                       go_ret
                       exact ⟨rfl, BV⟩)

end Go.Proofs.YtdibddkhjefmlaaDoor
