/-
  'copy' of elements of several cells each, into a row of the call's own.
  Segments copied up to a place: the contracts of impl.marksAhead, impl.segmentUpTo, impl.copySegments.
  Segments copied: the contract of impl.copySegments.
  A store copied, the specification's side: the contract of spec.l2Own.
  What lies ahead of an offset dropped, the program's side: the contract of impl.DropBefore.
  What lies ahead of an offset dropped, the specification's side: the contract of spec.DropBefore.
  The walk of the law FnExactDropBefore: at every store and number it answers true and leaves what was there as it was, where the sum's table is laid.
-/
import Derived.Test.YtomigekigcklfaaDoorImTo
import Derived.Laws.CopyOwn
import Derived.Test.YtomigekigcklfaaDoorHeldStJ
import Derived.Test.YtomigekigcklfaaDoorLawLogAidJ
import Derived.Test.YtomigekigcklfaaDoorRfMathJ
import Derived.Deep.RegionHeld3
import Derived.Test.YtomigekigcklfaaDoorStAll
import Derived.OwnWalk
import Derived.Test.YtomigekigcklfaaDoorAllI
import Derived.Test.YtomigekigcklfaaDoorGsSpec
import Derived.Test.YtomigekigcklfaaDoorOpenStJ
namespace Go.Proofs.YtomigekigcklfaaDoor
open Go.RowKit

theorem run_copy_many {P : Program} (w : World) (dT sT ty elem : TypeId) (g o dLen dCap : Nat) (a : Addr) (sLen sCap : Nat) (cur : Array Value) (t : TypeId) (cs : List Value) (size m : Nat)
    (hu : P.underlying dT = some (.slice elem)) (hs : (P.info? elem).map (·.size) = some size)
    (hg : w.heap[g]? = some (.cells cur t (0, 0))) (hm : Nat.min sLen dLen = m) (hn : cs.length = m * size)
    (hsrc : ∀ j v, cs[j]? = some v → w.cell? (a.add j) = some v) (hfit : o + cs.length ≤ cur.size) (h1 : ∀ v ∈ cs, v.oneCell' = true) :
    (Builtin.copy_ #[dT, sT] ty #[.slice (some ⟨g, o, none⟩) dLen dCap, .slice (some a) sLen sCap]).run P w =
      .ok (goInt m) (w.setRow g (cur.toList.take o ++ cs ++ cur.toList.drop (o + cs.length)).toArray) := by
  have hl := run_loadCells_list (P := P) w a cs hsrc
  have hst := run_storeCells_at P g o t cs 0 cur w hg (by simpa using hfit) h1
  cases hq : P.info? elem with
  | none => simp [hq] at hs
  | some i =>
    have hi : i.size = size := by simpa [hq] using hs
    simp [Builtin.copy_, run_underlying hu, Builtin.lenOf, Builtin.firstCells, sizeOf, typeInfo, hq, hi, hm, ← hn, hl, hst]

/-- All of a list is copied into a row that was made for it; nil too. -/
theorem wpList_copy_all {P : Program} {w : World} {ops : Array Oper} {rest : List Oper} {o : Oper} {a : Act} {Q : Exit → Act → World → Prop} (hgd : o.guard = none) (d s : Operand) (dT sT : TypeId)
    (ho : o.op = .call { callee := .builtin .copy, args := #[d, s], argTypes := #[dT, sT] }) (elem : TypeId) (size : Nat) (hu : P.underlying dT = some (.slice elem)) (hsz : (P.info? elem).map (·.size) = some size)
    (g m dCap : Nat) (sp : Option Addr) (sCap : Nat) (hd : a.eval d = .slice (some ⟨g, 0, none⟩) m dCap) (hs : a.eval s = .slice sp m sCap)
    (cur : Array Value) (t : TypeId) (hg : w.heap[g]? = some (.cells cur t (0, 0))) (cs : List Value) (hn : cs.length = m * size) (hcur : cur.size = m * size)
    (hsrc : (sp = none ∧ m = 0 ∧ sCap = 0) ∨ ∃ ad, sp = some ad ∧ ∀ j v, cs[j]? = some v → w.cell? (ad.add j) = some v) (h1 : ∀ v ∈ cs, v.oneCell' = true)
    (h : ∀ w', w'.heap[g]? = some (.cells cs.toArray t (0, 0)) → w'.heap.size = w.heap.size → (∀ k, k ≠ g → w'.heap[k]? = w.heap[k]?) → (∀ B, B ≤ g → Below B w w') → wpList P ops Q rest (a.put o.dst (goInt m)) w') :
    wpList P ops Q (o :: rest) a w := by
  refine wpList_plain hgd fun K hK => ?_
  rcases hsrc with ⟨rfl, rfl, rfl⟩ | ⟨ad, rfl, hsrc⟩
  · have hrun := run_copy_nil P w dT sT o.type elem ⟨g, 0, none⟩ 0 dCap hu (by rw [hsz]; rfl)
    obtain rfl : cs = [] := List.eq_nil_of_length_eq_zero (by simpa using hn)
    have hc0 : cur = #[] := Array.eq_empty_of_size_eq_zero (by simpa using hcur)
    subst hc0
    unfold Oper.wp
    simp [execOp, ho, resolve, invoke, builtin, hd, hs, hrun, Result.andThen]
    exact hK _ _ (h w hg rfl (fun _ _ => rfl) (fun B _ => Below.refl _ _))
  · have hrun := run_copy_many (P := P) w dT sT o.type elem g 0 m dCap ad m sCap cur t cs size m hu hsz hg (Nat.min_self m) hn hsrc (by omega) h1
    have e : (cur.toList.take 0 ++ cs ++ cur.toList.drop (0 + cs.length)) = cs := by
      rw [List.take_zero, List.nil_append, List.drop_eq_nil_of_le (by simp; omega), List.append_nil]
    rw [e] at hrun
    unfold Oper.wp
    simp [execOp, ho, resolve, invoke, builtin, hd, hs, hrun, Result.andThen]
    refine hK _ _ (h _ ?_ ?_ ?_ ?_)
    · exact setRow_heap w g cur _ t _ hg
    · simp [World.setRow]
    · intro k hk
      exact setRow_other w g k _ hk
    · intro B hB
      exact below_setRow (Below.refl _ _) hB _

/-- The cells of marks, as a copy takes them. -/
theorem ims_src {w : World} {k o : Nat} {fs : List Im} (h : Ims w (some ⟨k, o, none⟩) fs) : ∀ j v, (imCells fs)[j]? = some v → w.cell? ((⟨k, o, none⟩ : Addr).add j) = some v := by
  intro j v hj
  have hadd : (⟨k, o, none⟩ : Addr).add j = ⟨k, o + j, none⟩ := by unfold Addr.add; split <;> simp_all
  rw [hadd]
  have hlen : ∀ xs : List Im, (imCells xs).length = xs.length * 2 := fun xs => by
    induction xs with
    | nil => rfl
    | cons x r ih => simp [imCells, ih]; omega
  have hlt := (List.getElem?_eq_some_iff.1 hj).1
  rw [hlen] at hlt
  obtain ⟨f, hf⟩ := getIm (fs := fs) (k := j / 2) (by omega)
  obtain ⟨k', o', e, h0, h1⟩ := h (j / 2) f hf
  simp only [Option.some.injEq, Addr.mk.injEq, and_true] at e
  obtain ⟨rfl, rfl⟩ := e
  obtain ⟨g0, g1⟩ := imCells_get fs (j / 2) f hf
  rcases Nat.mod_two_eq_zero_or_one j with hm | hm
  · have e : j = j / 2 * 2 := by omega
    rw [e] at hj ⊢
    rw [g0] at hj
    rw [h0, hj]
  · have e : j = j / 2 * 2 + 1 := by omega
    rw [show o + j = o + j / 2 * 2 + 1 by omega, h1]
    rw [e, g1] at hj
    exact hj

end Go.Proofs.YtomigekigcklfaaDoor

namespace Go.Proofs.YtomigekigcklfaaDoor
open Go.RowKit

/-- The marks ahead of a place. -/
def aheadOf (ms : List Im) (at_ : Int) : List Im := ms.takeWhile fun m => decide (m.at_ < at_)

theorem aheadOf_le (ms : List Im) (at_ : Int) : (aheadOf ms at_).length ≤ ms.length := (List.takeWhile_sublist _).length_le

theorem aheadOf_take (ms : List Im) (at_ : Int) : aheadOf ms at_ = ms.take (aheadOf ms at_).length := by
  have h := List.takeWhile_append_dropWhile (p := fun m : Im => decide (m.at_ < at_)) (l := ms)
  have h2 := congrArg (List.take (aheadOf ms at_).length) h
  rw [← h2]
  exact (List.take_left' rfl).symm

/-- So many marks stand ahead, and no more. -/
theorem ahead_stop : ∀ {ms : List Im} {at_ : Int} {k : Nat}, (∀ i m, i < k → ms[i]? = some m → m.at_ < at_) → (∀ m, ms[k]? = some m → ¬ m.at_ < at_) → k ≤ ms.length → (aheadOf ms at_).length = k
  | [], at_, k, _, _, hk => by simp at hk; subst hk; rfl
  | m :: r, at_, 0, _, h2, _ => by
    have := h2 m rfl
    simp [aheadOf, this]
  | m :: r, at_, k + 1, h1, h2, hk => by
    have h0 := h1 0 m (by omega) rfl
    have := ahead_stop (ms := r) (at_ := at_) (k := k) (fun i x hi hx => h1 (i + 1) x (by omega) (by simpa using hx)) (fun x hx => h2 x (by simpa using hx)) (by simpa using hk)
    simp only [aheadOf] at this ⊢
    rw [List.takeWhile_cons, if_pos (by simpa using h0), List.length_cons, this]

set_option maxRecDepth 100000 in
set_option maxHeartbeats 1000000 in
theorem marksAhead_any (a : Option Addr) (c : Nat) (ms : List Im) (at_ : Int) (w : World) (hs : Ims w a ms) (hl : ms.length ≤ maxLen) (hc : ms.length ≤ c) :
    Calls Tryd.prog 59 #[.slice a ms.length c, .int .i64 at_] w fun r w' => r = .returned (.slice a (aheadOf ms at_).length (aheadOf ms at_).length) ∧ w' = w := by
  unfold maxLen at hl
  have HS : Hid (Ims w a ms) := hs
  clear hs
  go_enter Tryd.func59, Tryd.ntmps59
  go_wp2_with fail
  go_loopw [5] (fun i wr => ∃ k : Nat, k ≤ ms.length ∧ i = .int .i64 k ∧ Hid (∀ i m, i < k → ms[i]? = some m → m.at_ < at_) ∧ w = wr) (fun i _ => ms.length - (intOf i).toNat)
  case atStart => exact ⟨0, Nat.zero_le _, rfl, (fun i m hi => absurd hi (Nat.not_lt_zero _)), rfl⟩
  case round =>
    obtain ⟨k, hk, rfl, HA, rfl⟩ := hrel
    have hk0 : (0 : Int) ≤ (k : Int) := by omega
    have hkl : (k : Int) ≤ (ms.length : Int) := by omega
    have hkc : (k : Int) ≤ (c : Int) := by omega
    by_cases hlt : k < ms.length
    · obtain ⟨m, hm⟩ := getIm hlt
      obtain ⟨kb, ob, hav, c0, c1⟩ := HS.out k m hm
      subst hav
      have hkI : (k : Int) < (ms.length : Int) := by omega
      by_cases hat : m.at_ < at_
      · have HA2 : Hid (∀ i m, i < k + 1 → ms[i]? = some m → m.at_ < at_) := fun i x hi hx => by
          by_cases e : i = k
          · subst e
            have := hm.symm.trans hx
            simp only [Option.some.injEq] at this
            subst this
            exact hat
          · exact HA.out i x (by omega) hx
        clear hm HA
        go_wp2
        go_roundw
        case rel => exact ⟨k + 1, by omega, by go_num, HA2, by first | rfl | trivial⟩
        case measure => simp [intOf]; omega
      · have HE : Hid ((aheadOf ms at_).length = k) := ahead_stop HA.out (fun x hx => by have := hm.symm.trans hx; simp only [Option.some.injEq] at this; subst this; exact hat) hk
        clear hm HA
        go_wp2
        go_ret
        exact ⟨by rw [HE.out]; rfl, rfl⟩
    · have hkI : ¬ (k : Int) < (ms.length : Int) := by omega
      have HE : Hid ((aheadOf ms at_).length = k) := ahead_stop HA.out (fun x hx => by have := (List.getElem?_eq_some_iff.1 hx).1; omega) hk
      clear HA
      go_wp2
      go_ret
      exact ⟨by rw [HE.out]; rfl, rfl⟩

theorem imCells_len (xs : List Im) : (imCells xs).length = xs.length * 2 := by
  induction xs with
  | nil => rfl
  | cons x r ih => simp [imCells, ih]; omega

theorem imCells_one (xs : List Im) : ∀ u ∈ imCells xs, u.oneCell' = true := by
  induction xs with
  | nil => intro u hu; cases hu
  | cons x r ih =>
    intro u hu
    simp only [imCells, List.mem_cons] at hu
    rcases hu with rfl | rfl | hu
    · rfl
    · rfl
    · exact ih u hu

/-- A row of marks' cells reads as these marks. -/
theorem ims_row {w : World} {N : Nat} {t : TypeId} {fs : List Im} (h : w.heap[N]? = some (.cells (imCells fs).toArray t (0, 0))) : Ims w (some ⟨N, 0, none⟩) fs := fun i f hi => by
  obtain ⟨g0, g1⟩ := imCells_get fs i f hi
  have c : ∀ j v, (imCells fs)[j]? = some v → w.cell? ⟨N, j, none⟩ = some v := fun j v hj => by
    rw [cell_of_row w N j (imCells fs).toArray t (0, 0) h]
    simpa using hj
  exact ⟨N, 0, rfl, by rw [Nat.zero_add]; exact c _ _ g0, by rw [Nat.zero_add]; exact c _ _ g1⟩

theorem Ims.take {w : World} {a : Option Addr} {fs : List Im} (h : Ims w a fs) (n : Nat) : Ims w a (fs.take n) := fun i f hi => by
  rw [List.getElem?_take] at hi
  split at hi
  · exact h i f hi
  · cases hi

theorem rowIm_row {w : World} {B N : Nat} {fs : List Im} (h : w.heap[N]? = some (.cells (imCells fs).toArray 96 (0, 0))) (hB : B ≤ N) : RowIm w B (some ⟨N, 0, none⟩) fs.length :=
  .inr ⟨N, fs.length * 2, fun j => (imCells fs).toArray.getD j undef, rfl, hB, Nat.le_refl _, (imCells fs).toArray, h, by simp [imCells_len], fun i hi => by
    have hlt : i < (imCells fs).toArray.size := by simp [imCells_len]; omega
    rw [Array.getElem?_eq_getElem hlt]
    simp only [Array.getD, hlt, dif_pos]
    rfl⟩

theorem Tryd.sizeMark : (Tryd.prog.info? 96).map (·.size) = some 2 := by kernel_rfl

/-- A segment up to a place. -/
def sgUpTo (g : Sg) (p : Nat) : Sg := ⟨g.base, g.bytes.extract 0 p, aheadOf g.idx p⟩

set_option maxRecDepth 100000 in
set_option maxHeartbeats 4000000 in
theorem segmentUpTo_any (g : Sg) (p : Nat) (a : Option Addr) (c : Nat) (w : World) (hs : Ims w a g.idx) (hl : g.idx.length ≤ 1048576) (hc : g.idx.length ≤ c) (hnil : a = none → c = 0) (hp : p ≤ g.bytes.size) (hz : g.bytes.size ≤ 100000) :
    Calls Tryd.prog 38 #[.agg #[.int .i64 g.base, .string g.bytes, .slice a g.idx.length c], .int .i64 (p : Int)] w fun r w' =>
      ∃ N : Nat, r = .returned (.agg #[.int .i64 g.base, .string (g.bytes.extract 0 p), .slice (some ⟨N, 0, none⟩) (aheadOf g.idx p).length (aheadOf g.idx p).length]) ∧ Ims w' (some ⟨N, 0, none⟩) (aheadOf g.idx p) ∧ RowIm w' w.heap.size (some ⟨N, 0, none⟩) (aheadOf g.idx p).length ∧ Below w.heap.size w w' := by
  have hb2 : ∀ x y, Below w.heap.size w ((w.alloc x).alloc y) := fun _ _ => ((Below.refl _ _).alloc (Nat.le_refl _) _).alloc (by simp) _
  have hle := aheadOf_le g.idx p
  have hsrc0 : Ims w a (aheadOf g.idx p) := by rw [aheadOf_take]; exact hs.take _
  obtain ⟨m, hm⟩ : ∃ m, (aheadOf g.idx p).length = m := ⟨_, rfl⟩
  have HM : Hid ((aheadOf g.idx p).length = m) := hm
  have hma := fun u h => marksAhead_any a c g.idx (p : Int) u h (by unfold maxLen; omega) hc
  rw [hm] at hma
  have HMA : Hid (∀ u, Ims u a g.idx → Calls Tryd.prog 59 #[.slice a g.idx.length c, .int .i64 (p : Int)] u fun r w' => r = .returned (.slice a m m) ∧ w' = u) := hma
  have hm1 : m ≤ 1048576 := by omega
  have hmk := run_make_manyIm (P := Tryd.prog) 50 96 _ 2 16 Tryd.underlying50 Tryd.infoIm .i64 .i64 m (by omega) (by omega)
  have HS2 := fun x y => hs.below (hb2 x y)
  have hp0 : (0 : Int) ≤ (p : Int) := by omega
  have hp1 : (p : Int) ≤ (g.bytes.size : Int) := by omega
  rw [hm]
  clear hma hm hs
  go_enter Tryd.func38, Tryd.ntmps38
  go_wp2_with fail
  refine (HMA.out _ (HS2 _ _)).mono ?_
  rintro r w1 ⟨rfl, hw1⟩
  subst hw1
  have hcs : (imCells (aheadOf g.idx p)).length = m * 2 := by rw [imCells_len, HM.out]
  have hsrc : ∀ u, Below w.heap.size w u → (a = none ∧ m = 0 ∧ m = 0) ∨ ∃ ad, a = some ad ∧ ∀ j v, (imCells (aheadOf g.idx p))[j]? = some v → u.cell? (ad.add j) = some v := fun u hu => by
    by_cases h0 : m = 0
    · have e0 : aheadOf g.idx p = [] := List.eq_nil_of_length_eq_zero (HM.out.trans h0)
      cases a with
      | none => exact .inl ⟨rfl, h0, h0⟩
      | some ad => exact .inr ⟨ad, rfl, fun j v hj => by rw [e0] at hj; simp [imCells] at hj⟩
    · obtain ⟨f, hf⟩ := getIm (fs := aheadOf g.idx p) (k := 0) (by rw [HM.out]; omega)
      obtain ⟨kb, ob, hav, -⟩ := hsrc0 0 f hf
      subst hav
      exact .inr ⟨_, rfl, ims_src (hsrc0.below hu)⟩
  go_wp2_with (refine wpList_copy_all rfl _ _ 50 50 rfl 96 2 Tryd.underlying50 Tryd.sizeMark (w.heap.size + 1 + 1) m m a m rfl rfl (madeCells (Value.agg #[Value.int IntKind.i64 0, Value.int IntKind.i64 0]).cells (m * 2)) 96 ?k1 (imCells (aheadOf g.idx p)) hcs ?k2 ?k3 (imCells_one _) ?_)
  case k1 =>
    have h := heap_alloc_new ((w.alloc (.cells #[.int .i64 g.base, .string g.bytes, .slice a g.idx.length c] 52)).alloc (.cells #[.int .i64 0, .string ⟨#[]⟩, .slice none 0 0] 52)) (.cells (madeCells (Value.agg #[Value.int IntKind.i64 0, Value.int IntKind.i64 0]).cells (m * 2)) 96)
    simp only [World.size_alloc] at h
    exact h
  case k2 => simp [size_madeCells]
  case k3 => exact hsrc _ ((hb2 _ _).trans (((Below.refl _ _).alloc (Nat.le_refl _) _).mono (hb2 _ _).size))
  intro w3 hrow hsz3 hoth hbel
  have B3 : Below w.heap.size w w3 := ((hb2 _ _).trans (((Below.refl _ _).alloc (Nat.le_refl _) _).mono (hb2 _ _).size)).trans (hbel _ (by omega))
  have e0 := hoth w.heap.size (by omega)
  have e1 := hoth (w.heap.size + 1) (by omega)
  have x0 : w3.cell? ⟨w.heap.size, 0, none⟩ = some (.int .i64 g.base) := (World.cell?_of_block (a := ⟨w.heap.size, 0, none⟩) e0).trans (by simp [go_sem])
  have x1 : w3.cell? ⟨w.heap.size, 1, none⟩ = some (.string g.bytes) := (World.cell?_of_block (a := ⟨w.heap.size, 1, none⟩) e0).trans (by simp [go_sem])
  have y0 : w3.cell? ⟨w.heap.size + 1, 0, none⟩ = some (.int .i64 0) := (World.cell?_of_block (a := ⟨w.heap.size + 1, 0, none⟩) e1).trans (by simp [go_sem])
  have y1 : w3.cell? ⟨w.heap.size + 1, 1, none⟩ = some (.string ⟨#[]⟩) := (World.cell?_of_block (a := ⟨w.heap.size + 1, 1, none⟩) e1).trans (by simp [go_sem])
  have y2 : w3.cell? ⟨w.heap.size + 1, 2, none⟩ = some (.slice none 0 0) := (World.cell?_of_block (a := ⟨w.heap.size + 1, 2, none⟩) e1).trans (by simp [go_sem])
  have yf : ∀ o, w3.frozen? ⟨w.heap.size + 1, o, none⟩ = false := fun o => (World.frozen?_of_block (a := ⟨w.heap.size + 1, o, none⟩) e1).trans (by simp [go_sem])
  have hsz : w.heap.size + 1 + 1 < w3.heap.size := (Array.getElem?_eq_some_iff.1 hrow).1
  have HROW : Hid (w3.heap[w.heap.size + 1 + 1]? = some (.cells (imCells (aheadOf g.idx p)).toArray 96 (0, 0))) := hrow
  have hex : (g.bytes.extract 0 p).size ≤ 100000 := by rw [ByteArray.size_extract]; omega
  clear hrow hsz3 hoth hbel e0 e1 hmk hsrc hcs HS2
  go_wp2_with fail
  have kk : w3.drew.cell? ⟨w.heap.size, 0, none⟩ = some (.int .i64 g.base) ∧ w3.drew.cell? ⟨w.heap.size, 1, none⟩ = some (.string g.bytes) := ⟨x0, x1⟩
  go_region_held3 (fun w' => w'.cell? ⟨w.heap.size, 0, none⟩ = some (.int .i64 g.base) ∧ w'.cell? ⟨w.heap.size, 1, none⟩ = some (.string g.bytes))
    (first | exact kk | go_keep)
    (first
      | (go_at_call 60; refine (clone_any _ _ hex).mono ?_; rintro r w4 ⟨rfl, hB4⟩; have l4 := hB4.size; have hc4 := (bcell hB4).1; have hf4 := (bcell hB4).2; have kk : w4.cell? ⟨w.heap.size, 0, none⟩ = some (.int .i64 g.base) ∧ w4.cell? ⟨w.heap.size, 1, none⟩ = some (.string g.bytes) := ⟨(hc4 _ _ (by simp; omega)).trans kk.1, (hc4 _ _ (by simp; omega)).trans kk.2⟩; have z0 : w4.cell? ⟨w.heap.size + 1, 0, none⟩ = some (.int .i64 0) := (hc4 _ _ (by simp; omega)).trans y0; have z1 : w4.cell? ⟨w.heap.size + 1, 1, none⟩ = some (.string ⟨#[]⟩) := (hc4 _ _ (by simp; omega)).trans y1; have z2 : w4.cell? ⟨w.heap.size + 1, 2, none⟩ = some (.slice none 0 0) := (hc4 _ _ (by simp; omega)).trans y2; have zf : ∀ o, w4.frozen? ⟨w.heap.size + 1, o, none⟩ = false := fun o => (hf4 _ _ (by simp; omega)).trans (yf o)))
  all_goals
    have B4 : Below w3.heap.size w3 w4 := ((Below.refl w3.heap.size w3).drew).trans (hB4.mono (by simp))
    have BE := B3.trans (B4.mono B3.size)
    have HR4 : Hid (w4.heap[w.heap.size + 1 + 1]? = some (.cells (imCells (aheadOf g.idx p)).toArray 96 (0, 0))) := (B4.block _ hsz).trans HROW.out
    clear hB4 B4 B3 hc4 hf4 x0 x1 y0 y1 y2 yf HROW
    go_wp2
    have hk : (((w4.setCell ⟨w.heap.size + 1, 0, none⟩ (.int .i64 g.base)).setCell ⟨w.heap.size + 1, 1, none⟩ (.string (g.bytes.extract 0 p))).setCell ⟨w.heap.size + 1, 2, none⟩ (.slice (some ⟨w.heap.size + 1 + 1, 0, none⟩) m m)).heap[w.heap.size + 1 + 1]? = w4.heap[w.heap.size + 1 + 1]? := by
      rw [Below.heap_setCell _ ⟨_, _, none⟩ _ _ (by simp), Below.heap_setCell _ ⟨_, _, none⟩ _ _ (by simp), Below.heap_setCell _ ⟨_, _, none⟩ _ _ (by simp)]
    refine bodyPost_ret (v := .agg #[.int .i64 g.base, .string (g.bytes.extract 0 p), .slice (some ⟨w.heap.size + 1 + 1, 0, none⟩) m m]) (by simp [results, Tryd.results38, go_sem, z0, z1, z2]) rfl ⟨w.heap.size + 1 + 1, rfl, ims_row (hk.trans HR4.out), ?_, ?_⟩
    · have := rowIm_row (B := w.heap.size) (hk.trans HR4.out) (by omega)
      rwa [HM.out] at this
    · exact ((BE.setCell (by simp) _).setCell (by simp) _).setCell (by simp) _

end Go.Proofs.YtomigekigcklfaaDoor

namespace Go.Proofs.YtomigekigcklfaaDoor
open Go.RowKit

/-- Each segment's marks have room enough, and nil has none. -/
def SgsN (w : World) (a : Option Addr) (gs : List Sg) : Prop :=
  ∀ (i : Nat) (g : Sg), gs[i]? = some g → ∀ (k o : Nat) (ra : Option Addr) (rc : Nat), a = some ⟨k, o, none⟩ → w.cell? ⟨k, o + i * 3 + 2, none⟩ = some (.slice ra g.idx.length rc) → g.idx.length ≤ rc ∧ (ra = none → rc = 0)

theorem ahead_all {g : Sg} (h : ∀ m, m ∈ g.idx → m.at_ < (g.bytes.size : Int)) : aheadOf g.idx (g.bytes.size : Int) = g.idx := by
  have key : ∀ ms : List Im, (∀ m, m ∈ ms → m.at_ < (g.bytes.size : Int)) → aheadOf ms (g.bytes.size : Int) = ms := fun ms => by
    induction ms with
    | nil => intro _; rfl
    | cons m r ih =>
      intro h
      have h1 := h m List.mem_cons_self
      have h2 := ih (fun x hx => h x (List.mem_cons_of_mem _ hx))
      unfold aheadOf at h2 ⊢
      rw [List.takeWhile_cons, if_pos (by simpa using h1), h2]
  exact key g.idx h

theorem extract_all (s : ByteArray) : s.extract 0 s.size = s := by
  apply ByteArray.ext
  rw [ByteArray.data_extract]
  exact Array.extract_size

theorem Tryd.infoSg : (Tryd.prog.info? 52).map (fun i => (i.zero, i.size, i.bytes)) = some (some (.agg #[.int .i64 0, .string ⟨#[]⟩, .slice none 0 0]), 3, 48) := by kernel_rfl

set_option maxRecDepth 100000 in
set_option maxHeartbeats 4000000 in
theorem copySegments_any (a : Option Addr) (c : Nat) (gs : List Sg) (w : World) (hs : Sgs w a gs) (hN : SgsN w a gs) (h8 : gs.length ≤ 1000) (hg : ∀ g, g ∈ gs → (∀ m, m ∈ g.idx → m.at_ < (g.bytes.size : Int)) ∧ g.idx.length ≤ 1048576 ∧ g.bytes.size ≤ 100000) :
    Calls Tryd.prog 31 #[.slice a gs.length c] w fun r w' => ∃ qs v, r = .returned v ∧ sqG qs = gs ∧ SgSt w.heap.size w w' v qs := by
  have ha : ∀ (u : World) o, Below u.heap.size u (u.alloc o) := fun u o => (Below.refl _ _).alloc (Nat.le_refl _) o
  obtain ⟨i0, hi, hz0, hz1, hz2⟩ := info_parts Tryd.infoSg
  have HS : Hid (∀ u, Below w.heap.size w u → Sgs u a gs) := fun u hu => hs.below hu
  have HN : Hid (SgsN w a gs) := hN
  have HG : Hid (∀ g, g ∈ gs → (∀ m, m ∈ g.idx → m.at_ < (g.bytes.size : Int)) ∧ g.idx.length ≤ 1048576 ∧ g.bytes.size ≤ 100000) := hg
  clear hs hN hg
  go_enter Tryd.func31, Tryd.ntmps31
  go_wp2_with (at_make; refine wpList_make_own _ rfl _ _ 28 rfl w.heap.size 52 i0 (.agg #[.int .i64 0, .string ⟨#[]⟩, .slice none 0 0]) 3 Tryd.underlying28 hi hz0 hz1 .i64 .i64 (gs.length : Int) gs.length rfl rfl rfl ?k1 ?k2 ?k3 ?_)
  case k1 => rw [hz2]; omega
  case k2 => unfold maxLen; omega
  case k3 => exact Nat.le_refl _
  intro w0 hown0 hgrow0
  have B0 : Below w.heap.size w w0 := (Below.refl _ _).grown hgrow0 (Nat.le_refl _) (fun k hk => by cases hk)
  have st0 : SgSt w.heap.size w w0 (.slice (some ⟨w.heap.size, 0, none⟩) 0 gs.length) [] := ⟨hown0, (fun q h => by simp at h), List.Pairwise.nil, B0, ⟨Nat.le_refl _, B0.size⟩, (fun q h => by simp at h)⟩
  clear hown0 hgrow0
  go_wp2_with fail
  go_loopw [3, 11] (fun v i wr => ∃ (k : Nat) (qs : List SgQ), k ≤ gs.length ∧ i = .int .i64 k ∧ qs.length = k ∧ Hid (sqG qs = gs.take k) ∧ SgSt w.heap.size w wr v qs) (fun _ i _ => gs.length - (intOf i).toNat)
  case atStart => exact ⟨0, [], Nat.zero_le _, rfl, rfl, rfl, st0⟩
  case round =>
    clear st0
    obtain ⟨k, qs, hk, rfl, hql, HQ, hst⟩ := hrel
    obtain ⟨av, cv, rfl⟩ := ownsIm_form hst.own
    have HST : Hid (SgSt w.heap.size w wr (.slice av qs.length cv) qs) := hst
    have HQL : Hid (qs.length = k) := hql
    have hqm : qs.length ≤ 1000 := by omega
    clear hql
    by_cases hlt : k < gs.length
    · obtain ⟨g, hkg⟩ := getSg hlt
      obtain ⟨kb, ob, hav, ra, rc, c0, c1, c2, hix, hil, hbz⟩ := HS.out _ hst.bel k g hkg
      subst hav
      have c2w : w.cell? ⟨kb, ob + k * 3 + 2, none⟩ = some (.slice ra g.idx.length rc) := by
        obtain ⟨kb', ob', e, ra', rc', -, -, d2, -⟩ := HS.out w (Below.refl _ _) k g hkg
        simp only [Option.some.injEq, Addr.mk.injEq, and_true] at e
        obtain ⟨rfl, rfl⟩ := e
        have := (hst.bel.cell (p := ⟨kb, ob + k * 3 + 2, none⟩) (lt_of_cell d2)).symm.trans c2
        exact this
      obtain ⟨hrc, hnil⟩ := HN.out k g hkg kb ob ra rc rfl c2w
      obtain ⟨hat, hi1, hb1⟩ := HG.out g (List.mem_of_getElem? hkg)
      have hup := fun o => segmentUpTo_any g g.bytes.size ra rc (wr.alloc o) (hix.below (ha wr o)) hi1 hrc hnil (Nat.le_refl _) hb1
      rw [ahead_all hat, extract_all] at hup
      have HK : Hid (gs.take (k + 1) = gs.take k ++ [g]) := by show _ = _; rw [List.take_add_one, hkg]; rfl
      clear hkg hst hix c2w hrc hnil hat
      go_wp2_with fail
      refine (hup _).mono ?_
      rintro r w1 ⟨M, rfl, hI, hR, hB1⟩
      have hB1' : Below wr.heap.size wr w1 := (ha wr _).trans (hB1.mono (ha wr _).size)
      simp only [World.size_alloc] at hR
      have HO := ownsIm_below HST.out.own hB1'
      have hbs := HST.out.hB.2
      have hs1 := hB1'.size
      have HQ2 : Hid (sqG (qs ++ [⟨g, some ⟨M, 0, none⟩, g.idx.length⟩]) = gs.take (k + 1)) := by show _ = _; rw [HK.out, ← HQ.out]; simp [sqG]
      clear hup hB1 c0 c1 c2
      go_wp2_with (at_builtin; refine append_anyB _ rfl _ _ 28 rfl w.heap.size 52 i0 (.agg #[.int .i64 0, .string ⟨#[]⟩, .slice none 0 0]) 3 48 Tryd.underlying28 hi hz0 hz1 hz2 rfl (by decide) (.slice av qs.length cv) qs.length (sqsCells qs) rfl (HO.alloc _) (some ⟨w1.heap.size, 0, none⟩) 1 1 (sqCells ⟨g, some ⟨M, 0, none⟩, g.idx.length⟩) rfl ?c1 ?c2 ?c3 ?c4 ?c5 ?_)
      case c1 => exact .inr ⟨_, rfl, rfl, World.news_of_block (cs := #[.int .i64 g.base, .string g.bytes, .slice (some ⟨M, 0, none⟩) g.idx.length g.idx.length]) (t := 52) (fr := (0, 0)) (heap_alloc_new w1 _)⟩
      case c2 => simp [sqCells, Value.oneCell']
      case c3 => unfold maxLen; omega
      case c4 => omega
      case c5 => simp; omega
      intro v4 w4 hown4 hgrow4
      have hst4 := sg_push (q := ⟨g, some ⟨M, 0, none⟩, g.idx.length⟩) HST.out (hB1'.trans ((ha w1 _).mono hB1'.size)) (hI.below (ha w1 _)) ((hR.mono (by omega)).below (ha w1 _)) hil hbz ⟨Nat.le_refl _, fun h => by cases h⟩ hgrow4 hown4
      have HS4 : Hid (SgSt w.heap.size w w4 v4 (qs ++ [⟨g, some ⟨M, 0, none⟩, g.idx.length⟩])) := hst4
      clear hst4 hown4 hgrow4 HO hI hR hB1' HST
      go_wp2
      go_roundw
      case rel => exact ⟨k + 1, qs ++ [⟨g, some ⟨M, 0, none⟩, g.idx.length⟩], by omega, by go_num, by rw [List.length_append, List.length_singleton, HQL.out], HQ2, HS4.out⟩
      case measure => simp [intOf]; omega
    · obtain rfl : k = gs.length := by omega
      have HE : Hid (sqG qs = gs) := by show _ = _; rw [HQ.out, List.take_length]
      clear hst HQ
      go_wp2
      go_ret
      exact ⟨qs, _, rfl, HE.out, HST.out⟩

end Go.Proofs.YtomigekigcklfaaDoor

namespace Go.Proofs.YtomigekigcklfaaDoor
open Go.RowKit

/-- The variables of l2Own: what is gathered (block N + 1 + 1), and the result (block N + 1). -/
structure OwBox (N : Nat) (wr : World) (v : Value) (x : Int) : Prop where
  o0 : wr.cell? ⟨N + 1 + 1, 0, none⟩ = some v
  o1 : wr.cell? ⟨N + 1 + 1, 1, none⟩ = some (.int .i64 x)
  f2 : ∀ i, wr.frozen? ⟨N + 1 + 1, i, none⟩ = false
  r0 : wr.cell? ⟨N + 1, 0, none⟩ = some (.slice none 0 0)
  r1 : wr.cell? ⟨N + 1, 1, none⟩ = some (.int .i64 0)
  f1 : ∀ i, wr.frozen? ⟨N + 1, i, none⟩ = false

theorem OwBox.blocks {N : Nat} {wr u : World} {v : Value} {x : Int} (h : OwBox N wr v x) (h1 : u.heap[N + 1]? = wr.heap[N + 1]?) (h2 : u.heap[N + 1 + 1]? = wr.heap[N + 1 + 1]?) : OwBox N u v x :=
  ⟨(World.cell?_of_block (a := ⟨N + 1 + 1, 0, none⟩) h2).trans h.o0, (World.cell?_of_block (a := ⟨N + 1 + 1, 1, none⟩) h2).trans h.o1, fun i => (World.frozen?_of_block (a := ⟨N + 1 + 1, i, none⟩) h2).trans (h.f2 i), (World.cell?_of_block (a := ⟨N + 1, 0, none⟩) h1).trans h.r0, (World.cell?_of_block (a := ⟨N + 1, 1, none⟩) h1).trans h.r1, fun i => (World.frozen?_of_block (a := ⟨N + 1, i, none⟩) h1).trans (h.f1 i)⟩

theorem OwBox.below {N : Nat} {wr u : World} {v : Value} {x : Int} (h : OwBox N wr v x) (hb : Below wr.heap.size wr u) : OwBox N u v x :=
  h.blocks (hb.block _ (lt_of_cell h.r0)) (hb.block _ (lt_of_cell h.o0))

theorem OwBox.set {N : Nat} {wr : World} {v v' : Value} {x : Int} (h : OwBox N wr v x) : OwBox N (wr.setCell ⟨N + 1 + 1, 0, none⟩ v') v' x := by
  have hc := h.o0
  refine ⟨by simp [go_sem, hc], ?_, fun i => ?_, ?_, ?_, fun i => ?_⟩
  · rw [World.cell?_setCell_other _ _ _ _ (by simp)]; exact h.o1
  · rw [World.frozen?_setCell]; exact h.f2 i
  · rw [World.cell?_setCell_other _ _ _ _ (by simp)]; exact h.r0
  · rw [World.cell?_setCell_other _ _ _ _ (by simp)]; exact h.r1
  · rw [World.frozen?_setCell]; exact h.f1 i

set_option maxRecDepth 100000 in
set_option maxHeartbeats 8000000 in
theorem l2Own_any (a : Option Addr) (c : Nat) (gs : List Sg) (x : Int) (w : World) (hs : Sgs w a gs) (hN : SgsN w a gs) (h8 : gs.length ≤ 1000) (hg : ∀ g, g ∈ gs → g.idx.length ≤ 1048576) :
    Calls Tryd.prog 24 #[.agg #[.slice a gs.length c, .int .i64 x]] w fun r w' => ∃ qs v, r = .returned (.agg #[v, .int .i64 x]) ∧ sqG qs = gs ∧ SgSt (w.heap.size + 3) w w' v qs := by
  have ha : ∀ (u : World) o, Below u.heap.size u (u.alloc o) := fun u o => (Below.refl _ _).alloc (Nat.le_refl _) o
  obtain ⟨i0, hi, hz0, hz1, hz2⟩ := info_parts Tryd.infoSg
  obtain ⟨j0, hj, hy0, hy1, hy2⟩ := info_parts Tryd.infoIm
  have HS : Hid (∀ u, Below w.heap.size w u → Sgs u a gs) := fun u hu => hs.below hu
  have HN : Hid (SgsN w a gs) := hN
  have HG : Hid (∀ g, g ∈ gs → g.idx.length ≤ 1048576) := hg
  have hb3 : ∀ x y z, Below w.heap.size w (((w.alloc x).alloc y).alloc z) := fun _ _ _ => (((Below.refl _ _).alloc (Nat.le_refl _) _).alloc (by simp) _).alloc (by simp; omega) _
  clear hs hN hg
  go_enter Tryd.func24, Tryd.ntmps24
  go_wp2_with fail
  generalize hW0 : ((w.alloc (Obj.cells #[Value.slice a gs.length c, Value.int IntKind.i64 x] 30)).alloc (Obj.cells #[Value.slice none 0 0, Value.int IntKind.i64 0] 30)).alloc (Obj.cells #[Value.slice none 0 0, Value.int IntKind.i64 x] 30) = W0 at *
  have B0 : Below w.heap.size w W0 := by rw [← hW0]; exact hb3 _ _ _
  have z0 : W0.heap.size = w.heap.size + 3 := by rw [← hW0]; simp
  have ow0 : OwBox w.heap.size W0 (.slice none 0 0) x := by
    rw [← hW0]
    refine ⟨by simp [go_sem], by simp [go_sem], fun i => by simp [go_sem], by simp [go_sem], by simp [go_sem], fun i => by simp [go_sem]⟩
  have st0 : SgSt (w.heap.size + 3) w W0 (.slice none 0 0) [] := by rw [← z0]; exact sg_start B0
  clear hW0 hb3
  go_loopw [12] (fun i wr => ∃ (k : Nat) (qs : List SgQ) (v : Value), k ≤ gs.length ∧ i = .int .i64 k ∧ Hid (qs.length = k) ∧ Hid (sqG qs = gs.take k) ∧ OwBox w.heap.size wr v x ∧ SgSt (w.heap.size + 3) w wr v qs) (fun i _ => gs.length - (intOf i).toNat)
  case atStart => exact ⟨0, [], _, Nat.zero_le _, rfl, rfl, rfl, ow0, st0⟩
  case round =>
    clear st0 ow0
    obtain ⟨k, qs, v, hk, rfl, HQL, HQ, how, hst⟩ := hrel
    obtain ⟨av, cv, rfl⟩ := ownsIm_form hst.own
    have HST : Hid (SgSt (w.heap.size + 3) w wr (.slice av qs.length cv) qs) := hst
    have HOW : Hid (OwBox w.heap.size wr (.slice av qs.length cv) x) := how
    have hqm : qs.length ≤ 1000 := by rw [HQL.out]; omega
    have hwr := hst.hB.2
    by_cases hlt : k < gs.length
    · obtain ⟨g, hkg⟩ := getSg hlt
      obtain ⟨kb, ob, hav, ra, rc, c0, c1, c2, hix, hil, hbz⟩ := HS.out _ hst.bel k g hkg
      subst hav
      have c2w : w.cell? ⟨kb, ob + k * 3 + 2, none⟩ = some (.slice ra g.idx.length rc) := by
        obtain ⟨kb', ob', e, ra', rc', -, -, d2, -⟩ := HS.out w (Below.refl _ _) k g hkg
        simp only [Option.some.injEq, Addr.mk.injEq, and_true] at e
        obtain ⟨rfl, rfl⟩ := e
        exact (hst.bel.cell (p := ⟨kb, ob + k * 3 + 2, none⟩) (lt_of_cell d2)).symm.trans c2
      obtain ⟨hrc, hnil⟩ := HN.out k g hkg kb ob ra rc rfl c2w
      have hi1 := HG.out g (List.mem_of_getElem? hkg)
      have HK : Hid (gs.take (k + 1) = gs.take k ++ [g]) := by show _ = _; rw [List.take_add_one, hkg]; rfl
      have hsrc : ∀ u, Below wr.heap.size wr u → (ra = none ∧ g.idx.length = 0 ∧ (rc = 0 ∧ imCells g.idx = [])) ∨ ∃ ad, ra = some ad ∧ (imCells g.idx).length = g.idx.length * 2 ∧ ∀ j v, (imCells g.idx)[j]? = some v → u.cell? (ad.add j) = some v := fun u hu => by
        by_cases h0 : g.idx.length = 0
        · have e0 : g.idx = [] := List.eq_nil_of_length_eq_zero h0
          cases ra with
          | none => exact .inl ⟨rfl, h0, hnil rfl, by rw [e0]; rfl⟩
          | some ad => exact .inr ⟨ad, rfl, imCells_len _, fun j v hj => by rw [e0] at hj; simp [imCells] at hj⟩
        · obtain ⟨f, hf⟩ := getIm (fs := g.idx) (k := 0) (by omega)
          obtain ⟨mb, mo, hav, -⟩ := hix 0 f hf
          subst hav
          exact .inr ⟨_, rfl, imCells_len _, ims_src (hix.below hu)⟩
      clear hkg hst hix c2w hnil hrc
      go_wp2_with (at_builtin; refine append_anyB _ rfl _ _ 50 rfl (wr.heap.size + 1) 96 j0 (.agg #[.int .i64 0, .int .i64 0]) 2 16 Tryd.underlying50 hj hy0 hy1 hy2 rfl (by decide) (.slice (some ⟨wr.heap.size + 1, 0, none⟩) 0 0) 0 [] rfl ?d0 ra g.idx.length rc (imCells g.idx) rfl ?d1 (imCells_one _) ?d3 ?d4 ?d5 ?_)
      case d0 =>
        have h := World.ownsRow_made (base := wr.heap.size + 1) (e := 96) (size := 2) (wr.alloc (.cells #[.int .i64 g.base, .string g.bytes, .slice ra g.idx.length rc] 52)) #[] 0 (by simp) (by unfold maxLen; omega) rfl
        simpa using h
      case d1 => exact hsrc _ (Below.trans (ha wr _) ((ha _ _).mono (by simp)))
      case d3 => unfold maxLen; omega
      case d4 => omega
      case d5 => simp
      intro v5 w5 hown5 hgrow5
      obtain ⟨a5, c5, rfl⟩ := ownsIm_form hown5
      have hB2 : ∀ o o', Below wr.heap.size wr ((wr.alloc o).alloc o') := fun o o' => (ha wr o).trans ((ha (wr.alloc o) o').mono (by simp))
      have B5 : Below wr.heap.size wr w5 := (hB2 _ _).grown hgrow5 (by simp; omega) (fun k hk => by simp [Value.ownBlock] at hk; omega)
      have e5 := hgrow5.block wr.heap.size (by simp; omega) (by simp [Value.ownBlock])
      have x0 : w5.cell? ⟨wr.heap.size, 0, none⟩ = some (.int .i64 g.base) := (World.cell?_of_block (a := ⟨wr.heap.size, 0, none⟩) e5).trans (by simp [go_sem])
      have x1 : w5.cell? ⟨wr.heap.size, 1, none⟩ = some (.string g.bytes) := (World.cell?_of_block (a := ⟨wr.heap.size, 1, none⟩) e5).trans (by simp [go_sem])
      have x2 : w5.cell? ⟨wr.heap.size, 2, none⟩ = some (.slice ra g.idx.length rc) := (World.cell?_of_block (a := ⟨wr.heap.size, 2, none⟩) e5).trans (by simp [go_sem])
      have xf : ∀ o, w5.frozen? ⟨wr.heap.size, o, none⟩ = false := fun o => (World.frozen?_of_block (a := ⟨wr.heap.size, o, none⟩) e5).trans (by simp [go_sem])
      obtain ⟨hI5, hR5⟩ := ims_of_owns hown5
      have hcap5 : g.idx.length ≤ c5 ∧ (a5 = none → c5 = 0) := by
        obtain ⟨-, ⟨hv, h0⟩ | ⟨g', cap', cur', hv, -, -, hnc, -⟩⟩ := hown5
        · simp only [Value.slice.injEq] at hv
          exact ⟨by omega, fun _ => hv.2.2⟩
        · simp only [Value.slice.injEq] at hv
          obtain ⟨rfl, -, rfl⟩ := hv
          exact ⟨hnc, fun h => by cases h⟩
      have hblk : ∀ b, InBlock a5 g.idx.length b → wr.heap.size + 1 ≤ b := fun b hb => (hR5.lt hb).1
      have how5 := HOW.out.below B5
      have y0 := how5.o0
      have yf := how5.f2
      have B7 : ∀ v o, Below wr.heap.size wr ((w5.setCell ⟨wr.heap.size, 2, none⟩ v).alloc o) := fun v o => (B5.setCell (Nat.le_refl _) v).alloc (by have := B5.size; simpa using this) o
      have hkeep : ∀ v o b, InBlock a5 g.idx.length b → ((w5.setCell ⟨wr.heap.size, 2, none⟩ v).alloc o).heap[b]? = w5.heap[b]? := fun v o b hb => by
        have h1 := hblk b hb
        have h2 := (hR5.lt hb).2
        rw [(ha (w5.setCell ⟨wr.heap.size, 2, none⟩ v) o).block b (by simpa using h2), Below.heap_setCell _ ⟨_, _, none⟩ _ b (by simp; omega)]
      have HQ2 : Hid (sqG (qs ++ [⟨g, a5, c5⟩]) = gs.take (k + 1)) := by show _ = _; rw [HK.out, ← HQ.out]; simp [sqG]
      have hs5 := B5.size
      clear hown5 hgrow5 e5 c0 c1 c2 hsrc hB2
      go_wp2_with (at_builtin; refine append_anyB _ rfl _ _ 28 rfl (w.heap.size + 3) 52 i0 (.agg #[.int .i64 0, .string ⟨#[]⟩, .slice none 0 0]) 3 48 Tryd.underlying28 hi hz0 hz1 hz2 rfl (by decide) (.slice av qs.length cv) qs.length (sqsCells qs) rfl ?e0 (some ⟨w5.heap.size, 0, none⟩) 1 1 (sqCells ⟨g, a5, c5⟩) rfl ?e1 ?e2 ?e3 ?e4 ?e5 ?_)
      case e0 => exact (sg_below HST.out (B7 _ _)).own
      case e1 =>
        refine .inr ⟨_, rfl, rfl, World.news_of_block (cs := #[.int .i64 g.base, .string g.bytes, .slice a5 g.idx.length c5]) (t := 52) (fr := (0, 0)) ?_⟩
        have h := heap_alloc_new (w5.setCell ⟨wr.heap.size, 2, none⟩ (.slice a5 g.idx.length c5)) (.cells #[.int .i64 g.base, .string g.bytes, .slice a5 g.idx.length c5] 52)
        simp only [World.size_setCell] at h
        exact h
      case e2 => simp [sqCells, Value.oneCell']
      case e3 => unfold maxLen; omega
      case e4 => omega
      case e5 => simp; omega
      intro v8 w8 hown8 hgrow8
      obtain ⟨a8, c8, rfl⟩ := ownsIm_form hown8
      obtain ⟨v8, hv8⟩ : ∃ v8, v8 = Value.slice a8 (qs.length + 1) c8 := ⟨_, rfl⟩
      rw [← hv8] at hown8
      have hst8 := sg_push (q := ⟨g, a5, c5⟩) HST.out (B7 _ _) (hI5.of_block (fun b hb => hkeep _ _ b hb)) ((hR5.of_block (fun b hb => hkeep _ _ b hb)).mono (by omega)) hil hbz hcap5 hgrow8 hown8
      have how8 : OwBox w.heap.size w8 (.slice av qs.length cv) x := by
        have h7 := fun v o => HOW.out.below (B7 v o)
        refine (h7 _ _).blocks (hgrow8.block _ (lt_of_cell (h7 _ _).r0) (fun e => ?_)) (hgrow8.block _ (lt_of_cell (h7 _ _).o0) (fun e => ?_))
        · have := (own_lt HST.out.own _ e.symm).1; omega
        · have := (own_lt HST.out.own _ e.symm).1; omega
      have z0' := how8.o0
      have zf := how8.f2
      have how9 := how8.set (v' := v8)
      have hst9 := sg_set hst8 (N := w.heap.size + 1 + 1) (by omega) (by omega) 0 v8
      have HOW9 : Hid (OwBox w.heap.size (w8.setCell ⟨w.heap.size + 1 + 1, 0, none⟩ v8) v8 x) := how9
      have HST9 : Hid (SgSt (w.heap.size + 3) w (w8.setCell ⟨w.heap.size + 1 + 1, 0, none⟩ v8) v8 (qs ++ [⟨g, a5, c5⟩])) := hst9
      have HQL2 : Hid ((qs ++ [(⟨g, a5, c5⟩ : SgQ)]).length = k + 1) := by show _ = _; rw [List.length_append, List.length_singleton, HQL.out]
      rw [hv8] at HOW9 HST9
      clear hv8 hown8 hgrow8 hst8 how8 how9 hst9 hI5 hR5 how5 hkeep hblk B5 B7 x0 x1 x2 xf y0 yf HST HOW how
      go_wp2
      go_roundw
      case rel => exact ⟨k + 1, qs ++ [⟨g, a5, c5⟩], _, by omega, by go_num, HQL2, HQ2, HOW9.out, HST9.out⟩
      case measure => simp [intOf]; omega
    · obtain rfl : k = gs.length := by omega
      have HE : Hid (sqG qs = gs) := by show _ = _; rw [HQ.out, List.take_length]
      have y0 := how.o0
      have y1 := how.o1
      have r0 := how.r0
      have r1 := how.r1
      have f1 := how.f1
      clear hst HQ how HOW
      go_wp2
      refine bodyPost_ret (v := .agg #[.slice av qs.length cv, .int .i64 x]) (by simp [results, Tryd.results24, go_sem, r0, r1]) rfl ⟨qs, _, rfl, HE.out, ?_⟩
      exact sg_set (sg_set HST.out (N := w.heap.size + 1) (by omega) (by omega) _ _) (N := w.heap.size + 1) (by omega) (by omega) _ _

end Go.Proofs.YtomigekigcklfaaDoor

namespace Go.Proofs.YtomigekigcklfaaDoor
open Go.RowKit

/-- The segments from the last one on whose base is at most the offset. -/
def dropN : List Sg → Int → List Sg
  | g :: h :: r, off => if h.base ≤ off then dropN (h :: r) off else g :: h :: r
  | l, _ => l

theorem dropN_step {gs : List Sg} {j : Nat} {h : Sg} {off : Int} (hj : gs[j + 1]? = some h) (hb : h.base ≤ off) : dropN (gs.drop j) off = dropN (gs.drop (j + 1)) off := by
  obtain ⟨hlt, e⟩ := List.getElem?_eq_some_iff.1 hj
  rw [List.drop_eq_getElem_cons (show j < gs.length by omega), List.drop_eq_getElem_cons hlt, e, dropN, if_pos hb]

theorem dropN_stop {gs : List Sg} {j : Nat} {off : Int} (h : ∀ x, gs[j + 1]? = some x → ¬ x.base ≤ off) : dropN (gs.drop j) off = gs.drop j := by
  by_cases hj : j + 1 < gs.length
  · have hx := h _ (List.getElem?_eq_getElem hj)
    rw [List.drop_eq_getElem_cons (show j < gs.length by omega), List.drop_eq_getElem_cons hj, dropN, if_neg hx]
  · cases hd : gs.drop j with
    | nil => rfl
    | cons x r =>
      have := congrArg List.length hd
      rw [List.length_drop, List.length_cons] at this
      obtain rfl : r = [] := List.eq_nil_of_length_eq_zero (by omega)
      rfl

theorem Sgs.drop {w : World} {k o : Nat} {gs : List Sg} (h : Sgs w (some ⟨k, o, none⟩) gs) (j : Nat) : Sgs w (some ⟨k, o + j * 3, none⟩) (gs.drop j) := fun i g hi => by
  rw [List.getElem?_drop] at hi
  obtain ⟨k', o', e, hA⟩ := h (j + i) g hi
  simp only [Option.some.injEq, Addr.mk.injEq, and_true] at e
  obtain ⟨rfl, rfl⟩ := e
  exact ⟨k, o + j * 3, rfl, by rwa [show o + j * 3 + i * 3 = o + (j + i) * 3 by omega]⟩

theorem SgsN.drop {w : World} {k o : Nat} {gs : List Sg} (h : SgsN w (some ⟨k, o, none⟩) gs) (j : Nat) : SgsN w (some ⟨k, o + j * 3, none⟩) (gs.drop j) := fun i g hi k' o' ra rc e hc => by
  rw [List.getElem?_drop] at hi
  simp only [Option.some.injEq, Addr.mk.injEq, and_true] at e
  obtain ⟨rfl, rfl⟩ := e
  exact h (j + i) g hi k o ra rc rfl (by rwa [show o + (j + i) * 3 = o + j * 3 + i * 3 by omega])

theorem SgsN.back {w w' : World} {a : Option Addr} {gs : List Sg} (h : SgsN w a gs) (hs : Sgs w a gs) (hb : Below w.heap.size w w') : SgsN w' a gs := fun i g hi k o ra rc e hc => by
  obtain ⟨k', o', e', ra', rc', -, -, d2, -⟩ := hs i g hi
  rw [e'] at e
  simp only [Option.some.injEq, Addr.mk.injEq, and_true] at e
  obtain ⟨rfl, rfl⟩ := e
  exact h i g hi _ _ ra rc e' ((hb.cell (p := ⟨_, _, none⟩) (lt_of_cell d2)).symm.trans hc)

theorem lenB_take {l : List Bt} : ∀ {j : Nat}, j < l.length → lenB (l.take j) < lenB l := fun {j} hj => by
  have e := List.take_append_drop j l
  have happ : ∀ xs ys : List Bt, lenB (xs ++ ys) = lenB xs + lenB ys := fun xs ys => by simp [lenB]
  have : lenB l = lenB (l.take j) + lenB (l.drop j) := by rw [← happ, e]
  rw [this, List.drop_eq_getElem_cons hj]
  simp only [lenB, List.map_cons, List.sum_cons]
  omega

/-- A good segment's marks lie within its bytes. -/
theorem Sg.marks_in {g : Sg} (h : g.fine = true) : ∀ m, m ∈ g.idx → m.at_ < (g.bytes.size : Int) := fun m hm => by
  have hr := (Sg.reads h).end_eq
  rw [size_len] at hr
  have hidx : g.idx = imL g.l := by
    simp only [Sg.fine, Sg.rs, Bool.and_eq_true, decide_eq_true_eq] at h
    exact h.1.2
  rw [hidx] at hm
  obtain ⟨j, hj, e⟩ := imL_mark hm
  have := lenB_take hj
  omega

theorem stG_fine1 {gs : List Sg} {x : Int} (h : stG gs x = true) : ∀ g, g ∈ gs → g.fine = true := by
  cases gs with
  | nil => cases h
  | cons g0 r =>
    simp only [stG, Bool.and_eq_true, decide_eq_true_eq] at h
    have h2 := h.2.2
    unfold imGood at h2
    split at h2
    · cases h2
    · rename_i nx all hm
      exact imF_fine0 hm

theorem imL_len (bs : List Bt) : (imL bs).length ≤ bs.length := by
  have key : ∀ (r : List Bt) (s : List Im × Nat), (r.foldl imS s).1.length ≤ s.1.length + r.length := fun r => by
    induction r with
    | nil => intro s; simp
    | cons b r ih =>
      intro s
      have h1 := ih (imS s b)
      have h2 : (imS s b).1.length ≤ s.1.length + 1 := by
        simp only [imS]
        split
        · simp
        · omega
      rw [List.foldl_cons, List.length_cons]
      omega
  unfold imL imTo
  rw [List.take_length]
  have := key bs ([], 0)
  simpa using this

/-- What DropBefore and others answer: a store, and whether. -/
def DsAns (w : World) (gs : List Sg) (x : Int) (ok : Bool) (r : Ending) (w' : World) : Prop :=
  ∃ qs a c B, r = .returned (.tuple #[.agg #[.slice a qs.length c, .int .i64 x], .bool ok]) ∧ sqG qs = gs ∧ SgSt B w w' (.slice a qs.length c) qs

theorem DsAns.no {w w' : World} (hb : Below w.heap.size w w') : DsAns w [] 0 false (.returned (.tuple #[.agg #[.slice none 0 0, .int .i64 0], .bool false])) w' :=
  ⟨[], none, 0, w'.heap.size, rfl, rfl, sg_start hb⟩

set_option maxRecDepth 100000 in
set_option maxHeartbeats 2000000 in
theorem implDrop_no (gs : List Sg) (a : Option Addr) (c : Nat) (x off : Int) (w : World) (hs : Sgs w a gs) (hl : gs.length ≤ maxLen) (hTab : TabAt w) (hg : stG gs x = false) :
    Calls Tryd.prog 20 #[.agg #[.slice a gs.length c, .int .i64 x], .int .i64 off] w fun r w' => DsAns w [] 0 false r w' := by
  have hw0 : 0 < w.heap.size := lt_of_cell (hTab 0 (by omega))
  have hb2 : ∀ o o', Below w.heap.size w ((w.alloc o).alloc o') := fun _ _ => ((Below.refl _ _).alloc (Nat.le_refl _) _).alloc (by simp) _
  have hT0 := fun o o' => hTab.below (hb2 o o') hw0
  have HS0 := fun o o' => hs.below (hb2 o o')
  have HG : Hid (stG gs x = false) := hg
  clear hg hs
  go_enter Tryd.func20, Tryd.ntmps20
  go_wp2_with fail
  refine (implGoodStore_any gs _ _ _ _ (HS0 _ _) hl (hT0 _ _)).mono ?_
  rintro r w1 ⟨hr, hB1⟩
  rw [HG.out] at hr
  subst hr
  have BB := (hb2 _ _).trans (hB1.mono (hb2 _ _).size)
  obtain ⟨hcel, hfr⟩ := bcell hB1
  have hsz1 := hB1.size
  simp only [World.size_alloc] at hcel hfr hsz1
  have n0 : w1.cell? ⟨w.heap.size + 1, 0, none⟩ = some (.slice none 0 0) := (hcel _ _ (by omega)).trans (by simp [go_sem])
  have n1 : w1.cell? ⟨w.heap.size + 1, 1, none⟩ = some (.int .i64 0) := (hcel _ _ (by omega)).trans (by simp [go_sem])
  have nf : ∀ o, w1.frozen? ⟨w.heap.size + 1, o, none⟩ = false := fun o => (hfr (w.heap.size + 1) o (by omega)).trans (by simp [go_sem])
  clear hB1 hcel hfr HS0 hT0
  go_wp2
  refine bodyPost_ret (v := .tuple #[.agg #[.slice none 0 0, .int .i64 0], .bool false]) (by simp [results, Tryd.results20, go_sem, n0, n1]) rfl (DsAns.no ?_)
  exact (BB.setCell (by simp) _).setCell (by simp) _

set_option maxRecDepth 100000 in
set_option maxHeartbeats 4000000 in
theorem implDrop_yes (gs : List Sg) (a : Option Addr) (c : Nat) (x off : Int) (w : World) (hs : Sgs w a gs) (hN : SgsN w a gs) (hl : gs.length ≤ maxLen) (hc : gs.length ≤ c) (hTab : TabAt w) (hg : stG gs x = true) :
    Calls Tryd.prog 20 #[.agg #[.slice a gs.length c, .int .i64 x], .int .i64 off] w fun r w' => DsAns w (dropN gs off) x true r w' := by
  have hw0 : 0 < w.heap.size := lt_of_cell (hTab 0 (by omega))
  have hb2 : ∀ o o', Below w.heap.size w ((w.alloc o).alloc o') := fun _ _ => ((Below.refl _ _).alloc (Nat.le_refl _) _).alloc (by simp) _
  have hT0 := fun o o' => hTab.below (hb2 o o') hw0
  have HS0 := fun o o' => hs.below (hb2 o o')
  have HG : Hid (stG gs x = true) := hg
  have hpos : 0 < gs.length := by
    cases gs with
    | nil => cases hg
    | cons g r => simp
  have h8 : gs.length ≤ 8 := by
    cases gs with
    | nil => simp
    | cons g r => simp only [stG, Bool.and_eq_true, decide_eq_true_eq] at hg; exact hg.1
  have HS : Hid (∀ u, Below w.heap.size w u → Sgs u a gs) := fun u hu => hs.below hu
  have HN : Hid (∀ u, Below w.heap.size w u → SgsN u a gs) := fun u hu => hN.back hs hu
  obtain ⟨g0, hg0⟩ := getSg hpos
  obtain ⟨kb, ob, hav, -⟩ := hs 0 g0 hg0
  subst hav
  clear hg hs hN hg0
  go_enter Tryd.func20, Tryd.ntmps20
  go_wp2_with fail
  refine (implGoodStore_any gs _ _ _ _ (HS0 _ _) hl (hT0 _ _)).mono ?_
  rintro r w1 ⟨hr, hB1⟩
  rw [HG.out] at hr
  subst hr
  have BB := (hb2 _ _).trans (hB1.mono (hb2 _ _).size)
  obtain ⟨hcel, hfr⟩ := bcell hB1
  have hsz1 := hB1.size
  simp only [World.size_alloc] at hcel hfr hsz1
  have b0 : w1.cell? ⟨w.heap.size, 0, none⟩ = some (.slice (some ⟨kb, ob, none⟩) gs.length c) := (hcel _ _ (by omega)).trans (by simp [go_sem])
  have b1 : w1.cell? ⟨w.heap.size, 1, none⟩ = some (.int .i64 x) := (hcel _ _ (by omega)).trans (by simp [go_sem])
  have n0 : w1.cell? ⟨w.heap.size + 1, 0, none⟩ = some (.slice none 0 0) := (hcel _ _ (by omega)).trans (by simp [go_sem])
  have n1 : w1.cell? ⟨w.heap.size + 1, 1, none⟩ = some (.int .i64 0) := (hcel _ _ (by omega)).trans (by simp [go_sem])
  have nf : ∀ o, w1.frozen? ⟨w.heap.size + 1, o, none⟩ = false := fun o => (hfr (w.heap.size + 1) o (by omega)).trans (by simp [go_sem])
  clear hB1 hcel hfr HS0 hT0
  go_wp2_with fail
  go_loopw [6] (fun lv wr => ∃ (j m cc : Nat), Hid (gs.length = j + (m + 1)) ∧ m + 1 ≤ cc ∧ lv = .slice (some ⟨kb, ob + j * 3, none⟩) (m + 1) cc ∧ Hid (dropN (gs.drop j) off = dropN gs off) ∧ w1 = wr) (fun lv _ => match lv with | .slice _ n _ => n | _ => 0)
  case atStart =>
    refine ⟨0, gs.length - 1, c, (show _ = _ by omega), by omega, ?_, rfl, rfl⟩
    rw [Nat.zero_mul, Nat.add_zero, show gs.length - 1 + 1 = gs.length by omega]
  case round =>
    obtain ⟨j, m, cc, HJ, hmc, rfl, HD, rfl⟩ := hrel
    have hj8 := HJ.out
    have hm8 : m + 1 ≤ 8 := by omega
    clear hj8
    by_cases hgo : ∃ y, gs[j + 1]? = some y ∧ y.base ≤ off
    · obtain ⟨y, hy, hyb⟩ := hgo
      obtain ⟨q, rfl⟩ : ∃ q, m = q + 1 := ⟨m - 1, by have := (List.getElem?_eq_some_iff.1 hy).1; have := HJ.out; omega⟩
      obtain ⟨kb', ob', e, ra, rc, d0, -⟩ := HS.out _ BB (j + 1) y hy
      simp only [Option.some.injEq, Addr.mk.injEq, and_true] at e
      obtain ⟨rfl, rfl⟩ := e
      have d0' : w1.cell? ⟨kb, ob + j * 3 + 3, none⟩ = some (.int .i64 y.base) := by rwa [show ob + j * 3 + 3 = ob + (j + 1) * 3 by omega]
      have l1 : (1 : Int) < ((q + 1 + 1 : Nat) : Int) := by omega
      have l2 : (1 : Int) ≤ ((q + 1 + 1 : Nat) : Int) := by omega
      have l3 : ((q + 1 + 1 : Nat) : Int) ≤ (cc : Int) := by omega
      have l4 : (1 : Int) ≤ (cc : Int) := by omega
      have HD2 : Hid (dropN (gs.drop (j + 1)) off = dropN gs off) := by show _ = _; rw [← HD.out]; exact (dropN_step hy hyb).symm
      have HJ2 : Hid (gs.length = j + 1 + (q + 1)) := by show _ = _; have := HJ.out; omega
      clear d0 hy
      go_wp2
      go_roundw
      case rel => exact ⟨j + 1, q, cc - 1, HJ2, by omega, by rw [show ob + j * 3 + 3 = ob + (j + 1) * 3 by omega], HD2, by first | rfl | trivial⟩
      case measure => simp
    · have HE : Hid (dropN gs off = gs.drop j) := by show _ = _; rw [← HD.out]; exact dropN_stop (fun y hy h => hgo ⟨y, hy, h⟩)
      have hlen : (gs.drop j).length = m + 1 := by rw [List.length_drop]; have := HJ.out; omega
      have hfine := fun g (hg : g ∈ gs) => (stG_fine1 HG.out) g hg
      have HC : Hid (∀ u, Below w.heap.size w u → Calls Tryd.prog 31 #[.slice (some ⟨kb, ob + j * 3, none⟩) (m + 1) cc] u fun r w' => ∃ qs v, r = .returned v ∧ sqG qs = gs.drop j ∧ SgSt u.heap.size u w' v qs) := fun u hu => by
        have h := copySegments_any (some ⟨kb, ob + j * 3, none⟩) cc (gs.drop j) u ((HS.out u hu).drop j) ((HN.out u hu).drop j) (by omega) (fun g hg => by
          have hf := hfine g (List.mem_of_mem_drop hg)
          have h6 := Sg.small hf
          refine ⟨Sg.marks_in hf, ?_, by omega⟩
          have hidx : g.idx = imL g.l := by
            simp only [Sg.fine, Sg.rs, Bool.and_eq_true, decide_eq_true_eq] at hf
            exact hf.1.2
          have h1 := Sg.short hf
          have h2 := imL_len g.l
          rw [hidx]
          omega)
        rwa [hlen] at h
      have hguard : ((1 : Int) < ((m + 1 : Nat) : Int) ∧ ∃ z : Int, ¬ z ≤ off ∧ w1.cell? ⟨kb, ob + j * 3 + 3, none⟩ = some (.int .i64 z)) ∨ ¬ (1 : Int) < ((m + 1 : Nat) : Int) := by
        by_cases hm1 : 1 < m + 1
        · obtain ⟨y, hy⟩ := getSg (gs := gs) (k := j + 1) (by have := HJ.out; omega)
          obtain ⟨kb', ob', e, ra, rc, d0, -⟩ := HS.out _ BB (j + 1) y hy
          simp only [Option.some.injEq, Addr.mk.injEq, and_true] at e
          obtain ⟨rfl, rfl⟩ := e
          exact .inl ⟨by omega, y.base, fun h => hgo ⟨y, hy, h⟩, by rwa [show ob + j * 3 + 3 = ob + (j + 1) * 3 by omega]⟩
        · exact .inr (by omega)
      clear hgo hlen hfine
      rcases hguard with ⟨l1, z, hz, t0⟩ | l1
      all_goals
        go_wp2_with fail
        have kk : w1.drew.cell? ⟨w.heap.size, 1, none⟩ = some (.int .i64 x) := b1
        go_region_held3 (fun w' => w'.cell? ⟨w.heap.size, 1, none⟩ = some (.int .i64 x))
          (first | exact kk | go_keep)
          (first
            | (go_at_call 31; refine (HC.out _ ?_).mono ?_; exact BB.drew; rintro r w2 ⟨qs, v, rfl, hq, hst⟩; obtain ⟨a2, c2, rfl⟩ := ownsIm_form hst.own; have hc4 := (bcell hst.bel).1; have hf4 := (bcell hst.bel).2; have kk : w2.cell? ⟨w.heap.size, 1, none⟩ = some (.int .i64 x) := (hc4 _ _ (by simp; omega)).trans kk; have z0 : w2.cell? ⟨w.heap.size + 1, 0, none⟩ = some (.slice none 0 0) := (hc4 _ _ (by simp; omega)).trans n0; have z1 : w2.cell? ⟨w.heap.size + 1, 1, none⟩ = some (.int .i64 0) := (hc4 _ _ (by simp; omega)).trans n1; have zf : ∀ o, w2.frozen? ⟨w.heap.size + 1, o, none⟩ = false := fun o => (hf4 _ _ (by simp; omega)).trans (nf o)))
        all_goals
          have HST : Hid (SgSt w1.heap.size w w2 (.slice a2 qs.length c2) qs) := by
            have := sg_mono hst (BB.drew)
            show SgSt w1.heap.size w w2 (.slice a2 qs.length c2) qs
            simpa using this
          have HQ : Hid (sqG qs = gs.drop j) := hq
          clear hst hq hc4 hf4 kk b0 b1 n0 n1 nf
          go_wp2
          refine bodyPost_ret (v := .tuple #[.agg #[.slice a2 qs.length c2, .int .i64 x], .bool true]) (by simp [results, Tryd.results20, go_sem, z0, z1]) rfl ⟨qs, a2, c2, w1.heap.size, rfl, by rw [HE.out]; exact HQ.out, ?_⟩
          exact sg_set (sg_set HST.out (N := w.heap.size + 1) (by omega) (by omega) _ _) (N := w.heap.size + 1) (by omega) (by omega) _ _

end Go.Proofs.YtomigekigcklfaaDoor

namespace Go.Proofs.YtomigekigcklfaaDoor
open Go.RowKit

/-- A store that was gathered: its marks have room enough, and none is nil but empty. -/
theorem sgN_of {B : Nat} {w wr : World} {N c : Nat} {qs : List SgQ} {gs : List Sg} (h : SgSt B w wr (.slice (some ⟨N, 0, none⟩) qs.length c) qs) (hq : sqG qs = gs) : SgsN wr (some ⟨N, 0, none⟩) gs := fun i g hi k o ra rc e hc => by
  simp only [Option.some.injEq, Addr.mk.injEq, and_true] at e
  obtain ⟨rfl, rfl⟩ := e
  have hlt := (List.getElem?_eq_some_iff.1 hi).1
  rw [← hq, sqG_len] at hlt
  obtain ⟨q, hqi⟩ : ∃ q, qs[i]? = some q := ⟨_, List.getElem?_eq_getElem hlt⟩
  have hm := List.mem_of_getElem? hqi
  obtain ⟨M, cap, f, hv, -, hn, hR, hx⟩ := row_of_ownsIm h.own (by omega)
  simp only [Value.slice.injEq, Option.some.injEq, Addr.mk.injEq, and_true, true_and] at hv
  obtain ⟨rfl, rfl⟩ := hv
  have e2 := hx (i * 3 + 2) (by omega)
  rw [sqsCells_get qs i q hqi 2 (by omega)] at e2
  rw [Nat.zero_add, hR.cell (by omega)] at hc
  simp only [sqCells, List.getElem?_cons_succ, List.getElem?_cons_zero, Option.some.injEq] at e2 hc
  rw [← e2] at hc
  simp only [Value.slice.injEq] at hc
  obtain ⟨rfl, hl, rfl⟩ := hc
  have := h.caps q hm
  rw [← hl]
  exact this

set_option maxRecDepth 100000 in
set_option maxHeartbeats 2000000 in
theorem specDrop_no (gs : List Sg) (a : Option Addr) (c : Nat) (x off : Int) (w : World) (hs : Sgs w a gs) (hl : gs.length ≤ 1048576) (hbytes : ∀ g, g ∈ gs → g.bytes.size ≤ 1048576) (hg : stG gs x = false) :
    Calls Tryd.prog 19 #[.agg #[.slice a gs.length c, .int .i64 x], .int .i64 off] w fun r w' => DsAns w [] 0 false r w' := by
  have hb2 : ∀ o o', Below w.heap.size w ((w.alloc o).alloc o') := fun _ _ => ((Below.refl _ _).alloc (Nat.le_refl _) _).alloc (by simp) _
  have HBY : Hid (∀ g, g ∈ gs → g.bytes.size ≤ 1048576) := hbytes
  clear hbytes
  have HS0 := fun o o' => hs.below (hb2 o o')
  have HG : Hid (stG gs x = false) := hg
  clear hg hs
  go_enter Tryd.func19, Tryd.ntmps19
  go_wp2_with fail
  refine (specGoodStore_any gs _ _ _ _ (HS0 _ _) hl HBY.out).mono ?_
  rintro r w1 ⟨hr, hB1⟩
  rw [st_same, HG.out] at hr
  subst hr
  have BB := (hb2 _ _).trans (hB1.mono (hb2 _ _).size)
  obtain ⟨hcel, hfr⟩ := bcell hB1
  have hsz1 := hB1.size
  simp only [World.size_alloc] at hcel hfr hsz1
  have n0 : w1.cell? ⟨w.heap.size + 1, 0, none⟩ = some (.slice none 0 0) := (hcel _ _ (by omega)).trans (by simp [go_sem])
  have n1 : w1.cell? ⟨w.heap.size + 1, 1, none⟩ = some (.int .i64 0) := (hcel _ _ (by omega)).trans (by simp [go_sem])
  have nf : ∀ o, w1.frozen? ⟨w.heap.size + 1, o, none⟩ = false := fun o => (hfr (w.heap.size + 1) o (by omega)).trans (by simp [go_sem])
  clear hB1 hcel hfr HS0
  go_wp2
  refine bodyPost_ret (v := .tuple #[.agg #[.slice none 0 0, .int .i64 0], .bool false]) (by simp [results, Tryd.results19, go_sem, n0, n1]) rfl (DsAns.no ?_)
  exact (BB.setCell (by simp) _).setCell (by simp) _

set_option maxRecDepth 100000 in
set_option maxHeartbeats 8000000 in
theorem specDrop_yes (gs : List Sg) (a : Option Addr) (c : Nat) (x off : Int) (w : World) (hs : Sgs w a gs) (hN : SgsN w a gs) (hl : gs.length ≤ 1048576) (hbytes : ∀ g, g ∈ gs → g.bytes.size ≤ 1048576) (hg : stG gs x = true) :
    Calls Tryd.prog 19 #[.agg #[.slice a gs.length c, .int .i64 x], .int .i64 off] w fun r w' => DsAns w (dropN gs off) x true r w' := by
  have hb2 : ∀ o o', Below w.heap.size w ((w.alloc o).alloc o') := fun _ _ => ((Below.refl _ _).alloc (Nat.le_refl _) _).alloc (by simp) _
  have ha : ∀ (u : World) o, Below u.heap.size u (u.alloc o) := fun u o => (Below.refl _ _).alloc (Nat.le_refl _) o
  have HS0 := fun o o' => hs.below (hb2 o o')
  have HBY : Hid (∀ g, g ∈ gs → g.bytes.size ≤ 1048576) := hbytes
  have HG : Hid (stG gs x = true) := hg
  have hpos : 0 < gs.length := by
    cases gs with
    | nil => cases hg
    | cons g r => simp
  have h8 : gs.length ≤ 8 := by
    cases gs with
    | nil => simp
    | cons g r => simp only [stG, Bool.and_eq_true, decide_eq_true_eq] at hg; exact hg.1
  have hidx : ∀ g, g ∈ gs → g.idx.length ≤ 1048576 := fun g hgm => by
    have hf := stG_fine1 hg g hgm
    have h1 := Sg.short hf
    have h2 := imL_len g.l
    have e : g.idx = imL g.l := by
      simp only [Sg.fine, Sg.rs, Bool.and_eq_true, decide_eq_true_eq] at hf
      exact hf.1.2
    rw [e]
    omega
  have HIX : Hid (∀ g, g ∈ gs → g.idx.length ≤ 1048576) := hidx
  have HS : Hid (∀ u, Below w.heap.size w u → Sgs u a gs) := fun u hu => hs.below hu
  have HN : Hid (∀ u, Below w.heap.size w u → SgsN u a gs) := fun u hu => hN.back hs hu
  clear hg hs hN hbytes hidx
  go_enter Tryd.func19, Tryd.ntmps19
  go_wp2_with fail
  refine (specGoodStore_any gs _ _ _ _ (HS0 _ _) hl HBY.out).mono ?_
  rintro r w1 ⟨hr, hB1⟩
  rw [st_same, HG.out] at hr
  subst hr
  have BB := (hb2 _ _).trans (hB1.mono (hb2 _ _).size)
  obtain ⟨hcel, hfr⟩ := bcell hB1
  have hsz1 := hB1.size
  simp only [World.size_alloc] at hcel hfr hsz1
  have b0 : w1.cell? ⟨w.heap.size, 0, none⟩ = some (.slice a gs.length c) := (hcel _ _ (by omega)).trans (by simp [go_sem])
  have b1 : w1.cell? ⟨w.heap.size, 1, none⟩ = some (.int .i64 x) := (hcel _ _ (by omega)).trans (by simp [go_sem])
  have n0 : w1.cell? ⟨w.heap.size + 1, 0, none⟩ = some (.slice none 0 0) := (hcel _ _ (by omega)).trans (by simp [go_sem])
  have n1 : w1.cell? ⟨w.heap.size + 1, 1, none⟩ = some (.int .i64 0) := (hcel _ _ (by omega)).trans (by simp [go_sem])
  have nf : ∀ o, w1.frozen? ⟨w.heap.size + 1, o, none⟩ = false := fun o => (hfr (w.heap.size + 1) o (by omega)).trans (by simp [go_sem])
  clear hB1 hcel hfr HS0
  go_wp2_with fail
  refine (l2Own_any a c gs x _ (HS.out _ BB) (HN.out _ BB) (by omega) HIX.out).mono ?_
  rintro r w2 ⟨qs, v, rfl, hq, hst⟩
  obtain ⟨a2, c2, rfl⟩ := ownsIm_form hst.own
  have hql : qs.length = gs.length := by rw [← sqG_len qs, hq]
  obtain ⟨M, cap, f, hv, hMg, hMc, hMR, -⟩ := row_of_ownsIm hst.own (by omega)
  simp only [Value.slice.injEq] at hv
  obtain ⟨rfl, -, rfl⟩ := hv
  have hS2 := sg_sgs hst
  rw [hq] at hS2
  have hN2 : SgsN w2 (some ⟨M, 0, none⟩) gs := sgN_of hst hq
  have B2 : Below w.heap.size w w2 := BB.trans (hst.bel.mono BB.size)
  obtain ⟨hcel, hfr⟩ := bcell hst.bel
  have hsz2 := hst.bel.size
  replace n0 := (hcel _ _ (by omega)).trans n0
  replace n1 := (hcel _ _ (by omega)).trans n1
  replace nf : ∀ o, w2.frozen? ⟨w.heap.size + 1, o, none⟩ = false := fun o => (hfr (w.heap.size + 1) o (by omega)).trans (nf o)
  rw [hql]
  have hMc2 : gs.length ≤ c2 := by omega
  have hMw : w1.heap.size + 3 ≤ M := hMg
  clear hst hq hcel hfr b0 b1 hql hMR hMc hMg
  go_wp2_with fail
  generalize hW3 : w2.alloc (Obj.cells #[Value.slice (some ⟨M, 0, none⟩) gs.length c2, Value.int IntKind.i64 x] 30) = W3 at *
  have T3 : Below w2.heap.size w2 W3 := by rw [← hW3]; exact ha _ _
  have o0 : W3.cell? ⟨w2.heap.size, 0, none⟩ = some (.slice (some ⟨M, 0, none⟩) gs.length c2) := by rw [← hW3]; simp
  have o1 : W3.cell? ⟨w2.heap.size, 1, none⟩ = some (.int .i64 x) := by rw [← hW3]; simp
  have of : ∀ i, W3.frozen? ⟨w2.heap.size, i, none⟩ = false := fun i => by rw [← hW3]; simp [go_sem]
  clear hW3
  have HS3 : Hid (∀ u, Below w2.heap.size w2 u → Sgs u (some ⟨M, 0, none⟩) gs ∧ SgsN u (some ⟨M, 0, none⟩) gs) := fun u hu => ⟨hS2.below hu, hN2.back hS2 hu⟩
  clear hS2 hN2
  go_loopw [] (fun wr => ∃ (j m cc : Nat), Hid (gs.length = j + (m + 1)) ∧ m + 1 ≤ cc ∧ wr.cell? ⟨w2.heap.size, 0, none⟩ = some (.slice (some ⟨M, j * 3, none⟩) (m + 1) cc) ∧ wr.cell? ⟨w2.heap.size, 1, none⟩ = some (.int .i64 x) ∧ (∀ i, wr.frozen? ⟨w2.heap.size, i, none⟩ = false) ∧ Hid (dropN (gs.drop j) off = dropN gs off) ∧ Below w2.heap.size w2 wr) (fun wr => match wr.cell? ⟨w2.heap.size, 0, none⟩ with | some (.slice _ n _) => n | _ => 0)
  case atStart =>
    refine ⟨0, gs.length - 1, c2, (show _ = _ by omega), by omega, ?_, o1, of, rfl, T3⟩
    rw [Nat.zero_mul, show gs.length - 1 + 1 = gs.length by omega]
    exact o0
  case round =>
    clear o0 o1 of T3
    obtain ⟨j, m, cc, HJ, hmc, o0, o1, of, HD, hBr⟩ := hrel
    have hj8 := HJ.out
    have hm8 : m + 1 ≤ 8 := by omega
    have lN := lt_of_cell o0
    clear hj8
    have HB2 : Hid (Below w.heap.size w wr) := B2.trans (hBr.mono B2.size)
    obtain ⟨hS4, hN4⟩ := HS3.out wr hBr
    by_cases hgo : ∃ y, gs[j + 1]? = some y ∧ y.base ≤ off
    · obtain ⟨y, hy, hyb⟩ := hgo
      obtain ⟨q, rfl⟩ : ∃ q, m = q + 1 := ⟨m - 1, by have := (List.getElem?_eq_some_iff.1 hy).1; have := HJ.out; omega⟩
      obtain ⟨kb', ob', e, ra, rc, d0, -⟩ := hS4 (j + 1) y hy
      simp only [Option.some.injEq, Addr.mk.injEq, and_true] at e
      obtain ⟨rfl, rfl⟩ := e
      have d0' : wr.cell? ⟨M, j * 3 + 3, none⟩ = some (.int .i64 y.base) := by rwa [show j * 3 + 3 = 0 + (j + 1) * 3 by omega]
      have l1 : (1 : Int) < ((q + 1 + 1 : Nat) : Int) := by omega
      have l2 : (1 : Int) ≤ ((q + 1 + 1 : Nat) : Int) := by omega
      have l3 : ((q + 1 + 1 : Nat) : Int) ≤ (cc : Int) := by omega
      have l4 : (1 : Int) ≤ (cc : Int) := by omega
      have HD2 : Hid (dropN (gs.drop (j + 1)) off = dropN gs off) := by show _ = _; rw [← HD.out]; exact (dropN_step hy hyb).symm
      have HJ2 : Hid (gs.length = j + 1 + (q + 1)) := by show _ = _; have := HJ.out; omega
      have HBn : Hid (∀ v, Below w2.heap.size w2 (wr.setCell ⟨w2.heap.size, 0, none⟩ v)) := fun v => hBr.setCell (Nat.le_refl _) v
      clear d0 hy hS4 hN4
      go_wp2
      go_roundw
      case rel =>
        refine ⟨j + 1, q, cc - 1, HJ2, by omega, ?_, ?_, fun i => ?_, HD2, HBn.out _⟩
        · rw [show (j + 1) * 3 = j * 3 + 3 by omega]; simp [go_sem, o0]
        · rw [World.cell?_setCell_other _ _ _ _ (by simp)]; exact o1
        · rw [World.frozen?_setCell]; exact of i
      case measure => simp [go_sem, o0]
    · have HE : Hid (dropN gs off = gs.drop j) := by show _ = _; rw [← HD.out]; exact dropN_stop (fun y hy h => hgo ⟨y, hy, h⟩)
      have hlen : (gs.drop j).length = m + 1 := by rw [List.length_drop]; have := HJ.out; omega
      have hS5 := hS4.drop j
      have hN5 := hN4.drop j
      rw [Nat.zero_add] at hS5 hN5
      have HC := l2Own_any (some ⟨M, j * 3, none⟩) cc (gs.drop j) x wr hS5 hN5 (by omega) (fun g hg => HIX.out g (List.mem_of_mem_drop hg))
      rw [hlen] at HC
      have hguard : ((1 : Int) < ((m + 1 : Nat) : Int) ∧ ∃ z : Int, ¬ z ≤ off ∧ wr.cell? ⟨M, j * 3 + 3, none⟩ = some (.int .i64 z)) ∨ ¬ (1 : Int) < ((m + 1 : Nat) : Int) := by
        by_cases hm1 : 1 < m + 1
        · obtain ⟨y, hy⟩ := getSg (gs := gs) (k := j + 1) (by have := HJ.out; omega)
          obtain ⟨kb', ob', e, ra, rc, d0, -⟩ := hS4 (j + 1) y hy
          simp only [Option.some.injEq, Addr.mk.injEq, and_true] at e
          obtain ⟨rfl, rfl⟩ := e
          exact .inl ⟨by omega, y.base, fun h => hgo ⟨y, hy, h⟩, by rwa [show j * 3 + 3 = 0 + (j + 1) * 3 by omega]⟩
        · exact .inr (by omega)
      clear hgo hlen hS4 hN4 hS5 hN5
      have n0r := (hBr.cell (p := ⟨w.heap.size + 1, 0, none⟩) (by simp; omega)).trans n0
      have n1r := (hBr.cell (p := ⟨w.heap.size + 1, 1, none⟩) (by simp; omega)).trans n1
      have nfr : ∀ o, wr.frozen? ⟨w.heap.size + 1, o, none⟩ = false := fun o => (hBr.frozen (p := ⟨w.heap.size + 1, o, none⟩) (by simp; omega)).trans (nf o)
      rcases hguard with ⟨l1, z, hz, t0⟩ | l1
      all_goals
        go_wp2_with fail
        refine HC.mono ?_
        rintro r w5 ⟨qs5, v5, rfl, hq5, hst5⟩
        obtain ⟨a5, c5, rfl⟩ := ownsIm_form hst5.own
        obtain ⟨hcel5, hfr5⟩ := bcell hst5.bel
        have z0 := (hcel5 (w.heap.size + 1) 0 (by omega)).trans n0r
        have z1 := (hcel5 (w.heap.size + 1) 1 (by omega)).trans n1r
        have zf : ∀ o, w5.frozen? ⟨w.heap.size + 1, o, none⟩ = false := fun o => (hfr5 _ _ (by omega)).trans (nfr o)
        have HST : Hid (SgSt (wr.heap.size + 3) w w5 (.slice a5 qs5.length c5) qs5) := sg_mono hst5 HB2.out
        have HQ : Hid (sqG qs5 = gs.drop j) := hq5
        clear hst5 hq5 hcel5 hfr5 o0 o1 of n0 n1 nf n0r n1r nfr
        go_wp2
        refine bodyPost_ret (v := .tuple #[.agg #[.slice a5 qs5.length c5, .int .i64 x], .bool true]) (by simp [results, Tryd.results19, go_sem, z0, z1]) rfl ⟨qs5, a5, c5, wr.heap.size + 3, rfl, by rw [HE.out]; exact HQ.out, ?_⟩
        exact sg_set (sg_set HST.out (N := w.heap.size + 1) (by omega) (by omega) _ _) (N := w.heap.size + 1) (by omega) (by omega) _ _

end Go.Proofs.YtomigekigcklfaaDoor

namespace Go.Proofs.YtomigekigcklfaaDoor
open Go.RowKit

theorem celD {w w' : World} {b o : Nat} {v : Value} (hb : Below w.heap.size w w') (h : w.cell? ⟨b, o, none⟩ = some v) : w'.cell? ⟨b, o, none⟩ = some v := (hb.cell (p := ⟨b, o, none⟩) (lt_of_cell h)).trans h

theorem twoD {W w1 : World} {N : Nat} {v0 v1 : Value} (hB : Below W.heap.size W w1) (h : W.cell? ⟨N, 0, none⟩ = some v0 ∧ W.cell? ⟨N, 1, none⟩ = some v1) : w1.cell? ⟨N, 0, none⟩ = some v0 ∧ w1.cell? ⟨N, 1, none⟩ = some v1 :=
  ⟨celD hB h.1, celD hB h.2⟩

theorem twoB {w w' : World} {N : Nat} {v0 v1 : Value} (e : w'.heap[N]? = w.heap[N]?) (h : w.cell? ⟨N, 0, none⟩ = some v0 ∧ w.cell? ⟨N, 1, none⟩ = some v1) : w'.cell? ⟨N, 0, none⟩ = some v0 ∧ w'.cell? ⟨N, 1, none⟩ = some v1 :=
  ⟨(World.cell?_of_block (a := ⟨N, 0, none⟩) e).trans h.1, (World.cell?_of_block (a := ⟨N, 1, none⟩) e).trans h.2⟩

theorem fourD {W w1 : World} {N M : Nat} {v0 v1 v2 v3 : Value} (hB : Below W.heap.size W w1) (h : W.cell? ⟨N, 0, none⟩ = some v0 ∧ W.cell? ⟨N, 1, none⟩ = some v1 ∧ W.cell? ⟨M, 0, none⟩ = some v2 ∧ W.cell? ⟨M, 1, none⟩ = some v3) : w1.cell? ⟨N, 0, none⟩ = some v0 ∧ w1.cell? ⟨N, 1, none⟩ = some v1 ∧ w1.cell? ⟨M, 0, none⟩ = some v2 ∧ w1.cell? ⟨M, 1, none⟩ = some v3 :=
  ⟨celD hB h.1, celD hB h.2.1, celD hB h.2.2.1, celD hB h.2.2.2⟩

/-- A store, and whether, as the walk spells it. -/
def PsAns (w : World) (gr : List Sg) (xr : Int) (ok : Bool) (r : Ending) (w' : World) : Prop :=
  ∃ qs a c B, r = .returned (.tuple #[.agg #[.slice a gr.length c, .int .i64 xr], .bool ok]) ∧ qs.length = gr.length ∧ sqG qs = gr ∧ SgSt B w w' (.slice a qs.length c) qs

theorem DsAns.ps {w w' : World} {gr : List Sg} {xr : Int} {ok : Bool} {r : Ending} (h : DsAns w gr xr ok r w') : PsAns w gr xr ok r w' := by
  obtain ⟨qs, a, c, B, rfl, hq, hst⟩ := h
  exact ⟨qs, a, c, B, by rw [← hq, sqG_len], by rw [← hq, sqG_len], hq, hst⟩

/-- A store that was copied for the call has room enough for its marks. -/
theorem StRow.n {w : World} {B : Nat} {a : Option Addr} {gs : List Sg} (h : StRow w B a gs) : SgsN w a gs := by
  obtain ⟨N, f, rfl, -, hR, hO⟩ := h
  intro i g hi k o ra rc e hc
  simp only [Option.some.injEq, Addr.mk.injEq, and_true] at e
  obtain ⟨rfl, rfl⟩ := e
  have hlt := (List.getElem?_eq_some_iff.1 hi).1
  obtain ⟨ra', rc', -, -, h2, -, -, -, hF, hrc⟩ := hO i g hlt hi
  rw [Nat.zero_add, hR.cell (by omega), h2] at hc
  simp only [Option.some.injEq, Value.slice.injEq] at hc
  obtain ⟨rfl, -, rfl⟩ := hc
  refine ⟨by omega, fun h => ?_⟩
  rcases hF with h0 | ⟨g', m', f', e', -⟩
  · omega
  · rw [h] at e'; cases e'

set_option maxRecDepth 100000 in
set_option maxHeartbeats 8000000 in
theorem lawDropBefore_walk (gs gr : List Sg) (xr : Int) (ok : Bool) (x off : Int) (a : Option Addr) (c : Nat) (w : World) (hs : Sgs w a gs) (hl : gs.length ≤ maxLen) (hgl : gr.length ≤ maxLen) (hkr : kSg gr 1 ≤ 1000000000) (hTab : TabAt w)
    (HS0 : gs.length ≤ 1048576 → (∀ g, g ∈ gs → g.bytes.size ≤ 1048576) → ∀ (w : World) (a : Option Addr) (c : Nat), Sgs w a gs → SgsN w a gs → Calls Tryd.prog 19 #[.agg #[.slice a gs.length c, .int .i64 x], .int .i64 off] w fun r w' => PsAns w gr xr ok r w')
    (HI0 : ∀ (w : World) (a : Option Addr) (c : Nat), gs.length ≤ c → TabAt w → Sgs w a gs → SgsN w a gs → Calls Tryd.prog 20 #[.agg #[.slice a gs.length c, .int .i64 x], .int .i64 off] w fun r w' => PsAns w gr xr ok r w') :
    Calls Tryd.prog 5 #[.agg #[.slice a gs.length c, .int .i64 x], .int .i64 off] w fun r w' => r = .returned (.bool true) ∧ Below w.heap.size w w' := by
  have hw0 : 0 < w.heap.size := lt_of_cell (hTab 0 (by omega))
  have ha : ∀ (u : World) o, Below u.heap.size u (u.alloc o) := fun u o => (Below.refl _ _).alloc (Nat.le_refl _) o
  have hT : (ok != ok) = false := by cases ok <;> rfl
  have HI : Hid (∀ (w : World) (a : Option Addr) (c : Nat), gs.length ≤ c → TabAt w → Sgs w a gs → SgsN w a gs → Calls Tryd.prog 20 #[.agg #[.slice a gs.length c, .int .i64 x], .int .i64 off] w fun r w' => PsAns w gr xr ok r w') := HI0
  clear HI0
  have hb0 : Below w.heap.size w (w.alloc (.cells #[.slice a gs.length c, .int .i64 x] 24)) := (Below.refl _ _).alloc (Nat.le_refl _) _
  have hs0 := hs.below hb0
  by_cases hn : szSt gs 1048576 < 0
  · clear HS0
    go_enter Tryd.func5, Tryd.ntmps5
    go_wp2_with fail
    refine (szStore_any _ _ _ _ _ _ hs0 hl (by omega) (by omega)).mono ?_
    rintro r w1 ⟨z, rfl, hz, hB1⟩
    have hzn : z < 0 := by omega
    go_wp2
    go_ret
    exact ⟨rfl, Below.stepS hb0 hB1⟩
  have hbd := szSt_bound (gs := gs) (left := 1048576) (by omega)
  have hlen : gs.length ≤ 1048576 := by omega
  have HID : Hid (∀ g, g ∈ gs → g.idx.length ≤ 1048576) := fun g hg => by have := (hbd.2 g hg).2; omega
  have HS : Hid (∀ (w : World) (a : Option Addr) (c : Nat), Sgs w a gs → SgsN w a gs → Calls Tryd.prog 19 #[.agg #[.slice a gs.length c, .int .i64 x], .int .i64 off] w fun r w' => PsAns w gr xr ok r w') := HS0 hlen (fun g hg => by have := (hbd.2 g hg).1; omega)
  have hkS := kSt_bound (gs := gs) (by omega)
  have HAW : Hid (∀ u, Below w.heap.size w u → Sgs u a gs) := fun u hu => hs.below hu
  clear HS0 hbd hs
  go_enter Tryd.func5, Tryd.ntmps5
  go_wp2_with fail
  refine (szStore_any _ _ _ _ _ _ hs0 hl (by omega) (by omega)).mono ?_
  rintro r w1 ⟨z, rfl, hz, hB1⟩
  have hzn : ¬ z < 0 := by omega
  have kA : w1.cell? ⟨w.heap.size, 0, none⟩ = some (.slice a gs.length c) ∧ w1.cell? ⟨w.heap.size, 1, none⟩ = some (.int .i64 x) := ⟨celD hB1 (by simp), celD hB1 (by simp)⟩
  have BB := Below.stepS hb0 hB1
  clear hB1 hs0 hb0 hz
  go_wp2_with fail
  refine (toStore_any _ _ _ _ _ (HAW.out _ BB) hlen HID.out).mono ?_
  rintro r w2 ⟨a2, rfl, hB2, H2, R2⟩
  replace kA := twoD hB2 kA
  replace BB := Below.stepS BB hB2
  clear hB2
  go_wp2_with fail
  refine (HS.out _ _ _ H2 R2.n).mono ?_
  intro r w3 hr
  obtain ⟨qw, aw, cw, Bw, rfl, hlw, hqw, hsw⟩ := hr
  have hB3 := hsw.bel
  have HW0 : Sgs w3 aw gr := by have := sg_sgs hsw; rwa [hqw] at this
  have HW := fun o => HW0.below (ha w3 o)
  replace kA := fun o => twoD (ha w3 o) (twoD hB3 kA)
  have BB3 := Below.stepS BB hB3
  have HB3 : Hid (Below w.heap.size w w3) := BB3
  have HA3 := fun o => HAW.out _ (Below.stepS BB3 (ha w3 o))
  have HWk : Hid (∀ u, Below w3.heap.size w3 u → Sgs u aw gr) := fun u hu => HW0.below hu
  clear hB3 H2 R2 HS HW0 BB BB3 hsw hqw hlw
  go_wp2_with fail
  refine (toStore_any _ _ _ _ _ (HA3 _) hlen HID.out).mono ?_
  rintro r w4 ⟨a4, rfl, hB4, HX, RX⟩
  have kW := twoD (N := w3.heap.size) (v0 := .slice aw gr.length cw) (v1 := .int .i64 xr) hB4 (by simp)
  have l3 : w3.heap.size + 1 ≤ w4.heap.size := by have := hB4.size; simpa using this
  have T4 : Below w3.heap.size w3 w4 := Below.stepS (ha _ _) hB4
  have kA4 := twoD hB4 (kA _)
  replace kA := fun o => twoD (ha w4 o) kA4
  have hXN := RX.n
  obtain ⟨N, rfl, hN, SW⟩ := RX.toW
  simp only [World.size_alloc] at hN
  have hNl := SW.lt
  have hTb : ∀ o, TabAt (w4.alloc o) := fun o => hTab.below (HB3.out.trans ((T4.trans ((ha w4 o).mono T4.size)).mono HB3.out.size)) hw0
  clear hB4 kA4 RX HA3 HW
  go_wp2_with fail
  refine (HI.out _ _ _ (Nat.le_refl _) (hTb _) (HX.below (ha _ _)) (hXN.back HX (ha _ _))).mono ?_
  intro r w5 hr
  obtain ⟨qg, ag, cg, Bg, rfl, hlg, hqg, hsg⟩ := hr
  have hB5 := hsg.bel
  have hBg : w4.heap.size + 1 ≤ Bg := by have := hsg.hB.1; simpa using this
  replace kW := twoD hB5 (twoD (ha w4 _) kW)
  replace kA := twoD hB5 (kA _)
  have kX : w5.cell? ⟨w4.heap.size, 0, none⟩ = some (.slice (some ⟨N, 0, none⟩) gs.length gs.length) ∧ w5.cell? ⟨w4.heap.size, 1, none⟩ = some (.int .i64 x) := ⟨celD hB5 (by simp), celD hB5 (by simp)⟩
  replace HX := (HX.below (ha _ _)).below hB5
  replace SW := (SW.below (ha _ _)).below hB5
  have T5 := Below.stepS (Below.stepS T4 (ha _ _)) hB5
  have l4 : w4.heap.size < w5.heap.size := lt_of_cell kX.1
  have hsg' : SgSt Bg w3 w5 (.slice ag qg.length cg) qg := sg_mono hsg (Below.stepS T4 (ha _ _))
  have HR5 : Hid (∀ k, (Value.slice ag qg.length cg).ownBlock = some k → k < w5.heap.size) := fun k hk => (own_lt hsg'.own k hk).2
  have HM5 : Hid (∀ q, q ∈ qg → ∀ b, InBlock q.a q.g.idx.length b → b < w5.heap.size) := fun q hq b hb => ((hsg'.mks q hq).2.1.lt hb).2
  replace kW := fun o => twoD (ha w5 o) kW
  replace kA := fun o => twoD (ha w5 o) kA
  replace kX := fun o => twoD (ha w5 o) kX
  have hsg5 := fun o => sg_below hsg' (ha w5 o)
  have HG5 : ∀ o, Sgs (w5.alloc o) ag gr := fun o => by have := sg_sgs (hsg5 o); rwa [hqg] at this
  have HW5 := fun o => HWk.out _ (Below.stepS T5 (ha w5 o))
  have T5' := fun o => Below.stepS T5 (ha w5 o)
  clear hB5 T4 hsg hXN T5
  go_wp2_with fail
  refine (eqStore_same _ _ _ _ gr xr _ (HG5 _) (HW5 _) hgl).mono ?_
  rintro r w6 ⟨rfl, hB6⟩
  have kG := twoD (N := w5.heap.size) (v0 := .slice ag gr.length cg) (v1 := .int .i64 xr) hB6 (by simp)
  replace kW := twoD hB6 (kW _)
  replace kA := twoD hB6 (kA _)
  replace kX := twoD hB6 (kX _)
  replace HX := (HX.below (ha _ _)).below hB6
  replace SW := (SW.below (ha _ _)).below hB6
  have hsg6 := sg_below (hsg5 _) hB6
  have T6 := Below.stepS (T5' _) hB6
  have l5 : w5.heap.size < w6.heap.size := lt_of_cell kG.1
  have HA6 := HAW.out _ (HB3.out.trans (T6.mono HB3.out.size))
  clear hB6 HG5 HW5 T5' hsg5 hsg'
  go_wp2_with fail
  have kk : w6.drew.cell? ⟨w4.heap.size, 0, none⟩ = some (.slice (some ⟨N, 0, none⟩) gs.length gs.length) ∧ w6.drew.cell? ⟨w4.heap.size, 1, none⟩ = some (.int .i64 x) ∧ w6.drew.cell? ⟨w.heap.size, 0, none⟩ = some (.slice a gs.length c) ∧ w6.drew.cell? ⟨w.heap.size, 1, none⟩ = some (.int .i64 x) := ⟨kX.1, kX.2, kA.1, kA.2⟩
  go_region_held3 (fun w' => w'.cell? ⟨w4.heap.size, 0, none⟩ = some (.slice (some ⟨N, 0, none⟩) gs.length gs.length) ∧ w'.cell? ⟨w4.heap.size, 1, none⟩ = some (.int .i64 x) ∧ w'.cell? ⟨w.heap.size, 0, none⟩ = some (.slice a gs.length c) ∧ w'.cell? ⟨w.heap.size, 1, none⟩ = some (.int .i64 x))
    (first | exact kk | go_keep)
    (first
      | (go_at_call 9; refine (toStore_any _ _ _ _ _ ?_ hlen HID.out).mono ?_; exact HA6.below (Below.refl _ _).drew; rintro r w7 ⟨a7, rfl, hB7, H7, -⟩; have kk := fourD hB7 kk)
      | (go_at_call 12; refine (eqStore_same _ _ _ _ gs _ _ ?_ ?_ hl).mono ?_; exact (HX.below (Below.refl _ _).drew).below hB7; exact H7; rintro r w8 ⟨rfl, hB8⟩; have kk := fourD hB8 kk))
  have D8 : Below w6.heap.size w6 w8 := (((Below.refl w6.heap.size w6).drew).trans (hB7.mono (by simp))).trans (hB8.mono (by have := hB7.size; simpa using this))
  replace kA := twoD D8 kA
  replace kX := twoD D8 kX
  replace SW := SW.below D8
  replace kW := twoD D8 kW
  replace kG := twoD D8 kG
  have hsg8 := sg_below hsg6 D8
  have T8 := Below.stepS T6 D8
  have l8 := D8.size
  obtain ⟨kX0, kX1⟩ := kX
  clear D8 hB7 hB8 H7 kk HX T6 HA6 hsg6
  go_wp2_with fail
  refine (markStore_keep N w4.heap.size _ _ gs _ SW (by omega) (by omega)).mono ?_
  rintro r w9 ⟨rfl, hWi⟩
  have hfar : ∀ b, w4.heap.size + 1 ≤ b → b < w8.heap.size → w9.heap[b]? = w8.heap[b]? := fun b h1 h2 => hWi.out b (by omega) h2
  have hB9 : Below (w3.heap.size + 1) w8 w9 := hWi.bel.mono hN
  replace kW := twoB (hB9.block _ (Nat.lt_succ_self _)) kW
  replace kG := twoB (hfar w5.heap.size (by omega) (by omega)) kG
  have l0 : w.heap.size < w3.heap.size + 1 := by have := HB3.out.size; omega
  replace kA := twoB (hB9.block _ l0) kA
  have T9 := T8.trans (hB9.mono (by omega))
  have l9 := hB9.size
  have hsg9 := sg_blocks hsg8 (fun b h1 h2 => hfar b (by omega) h2) T9 l9
  have HG9 : Sgs w9 ag gr := by have := sg_sgs hsg9; rwa [hqg] at this
  have hk : ¬ (((kSg gs 1 : Nat) : Int) < 0) := by omega
  clear hB9 hWi SW kX0 kX1 hfar T8 hkS hsg8
  go_wp2_with fail
  refine (eqStore_same _ _ _ _ gr xr _ HG9 (HWk.out _ T9) hgl).mono ?_
  rintro r w10 ⟨rfl, hB10⟩
  replace kA := twoD hB10 kA
  replace kW := twoD hB10 kW
  replace kG := twoD hB10 kG
  have hsg10 := sg_below hsg9 hB10
  have T10 := Below.stepS T9 hB10
  have l10 := hB10.size
  have hmk := markStore_ans ag cg xr qg Bg w3 w10 hsg10 (by rw [hqg]; exact hkr)
  rw [hlg, hqg] at hmk
  clear hB10 HG9 hk T9 hsg9
  go_wp2_with fail
  refine hmk.mono ?_
  rintro r w11 ⟨rfl, HM, hB11, hU11⟩
  replace kG := twoB (hU11 w5.heap.size (by omega) (fun e => by have := HR5.out _ (by rw [hlg]; exact e); omega) (fun q hq hb => by have := HM5.out q hq _ hb; omega)) kG
  replace kW := twoB (hB11.block _ (by omega)) kW
  replace kA := twoB (hB11.block _ (by omega)) kA
  have T11 : Below w3.heap.size w3 w11 := T10.trans (hB11.mono (by omega))
  obtain ⟨K, hK⟩ : ∃ K, kSg gr 1 = K := ⟨_, rfl⟩
  have hm : ((K : Int) != (K : Int)) = false := by simp
  have hp : ¬ ((K : Int) < 0) := by omega
  have hh := fun (u : World) (hu : Sgs u ag (markSg gr 1)) => heldStore_any ag cg xr gr u hu hkr
  rw [hK] at hh
  have HH : Hid (∀ (u : World), Sgs u ag (markSg gr 1) → Calls Tryd.prog 16 #[.agg #[.slice ag gr.length cg, .int .i64 xr], .int .i64 1] u fun r w' => r = .returned (.int .i64 (K : Int)) ∧ Below u.heap.size u w') := hh
  rw [hK]
  clear hB11 hU11 hmk hh hK T10 hsg10 hkr
  go_wp2_with fail
  refine (HH.out _ HM).mono ?_
  rintro r w12 ⟨rfl, hB12⟩
  replace kA := twoD hB12 kA
  replace kW := twoD hB12 kW
  replace kG := twoD hB12 kG
  replace HM := HM.below hB12
  have T12 := Below.stepS T11 hB12
  have HA12 := HAW.out _ (HB3.out.trans (T12.mono HB3.out.size))
  clear hB12 T11
  go_wp2_with fail
  refine (toStore_any _ _ _ _ _ HA12 hlen HID.out).mono ?_
  rintro r w13 ⟨a13, rfl, hB13, H13, R13⟩
  replace kW := twoD hB13 kW
  replace kG := twoD hB13 kG
  replace HM := HM.below hB13
  have T13 := Below.stepS T12 hB13
  have hTb13 : TabAt w13 := hTab.below (HB3.out.trans (T13.mono HB3.out.size)) hw0
  clear hB13 HA12 kA T12
  go_wp2_with fail
  refine (HI.out _ _ _ (Nat.le_refl _) hTb13 H13 R13.n).mono ?_
  intro r w14 hr
  obtain ⟨qh, ah, ch, Bh, rfl, -, hqh, hsh⟩ := hr
  have hB14 := hsh.bel
  have HHs : Sgs w14 ah gr := by have := sg_sgs hsh; rwa [hqh] at this
  replace kG := fun o => twoD (ha w14 o) (twoD hB14 kG)
  replace kW := fun o => twoD (ha w14 o) (twoD hB14 kW)
  replace HM := HM.below hB14
  have T14 := Below.stepS T13 hB14
  have HW14 := fun o => HWk.out _ (Below.stepS T14 (ha w14 o))
  clear hB14 HI hTb13 H13 R13 T13 hsh hqh
  go_wp2_with fail
  refine (eqStore_same _ _ _ _ gr xr _ (HHs.below (ha _ _)) (HW14 _) hgl).mono ?_
  rintro r w15 ⟨rfl, hB15⟩
  replace kG := twoD hB15 (kG _)
  replace HM := (HM.below (ha _ _)).below hB15
  have T15 := Below.stepS (Below.stepS T14 (ha _ _)) hB15
  clear hB15 HHs HW14 kW T14
  go_wp2_with fail
  refine (HH.out _ HM).mono ?_
  rintro r w16 ⟨rfl, hB16⟩
  have T16 := Below.stepS T15 hB16
  have BE : Below w.heap.size w w16 := HB3.out.trans (T16.mono HB3.out.size)
  clear hB16 HM
  go_wp2
  go_ret
  exact ⟨rfl, BE⟩

theorem kSg_fine {gs : List Sg} (h8 : gs.length ≤ 8) (hf : ∀ g, g ∈ gs → g.fine = true) : kSg gs 1 ≤ 1000000 := by
  have key : ∀ (l : List Sg) (k : Nat), (∀ g, g ∈ l → g.fine = true) → kSg l k ≤ k + 2002 * l.length := fun l => by
    induction l with
    | nil => intro k _; simp [kSg]
    | cons g r ih =>
      intro k h
      have h1 := ih (k + 2 + 2 * g.idx.length) (fun x hx => h x (List.mem_cons_of_mem _ hx))
      have hg := h g List.mem_cons_self
      have h2 := Sg.short hg
      have h3 := imL_len g.l
      have e : g.idx = imL g.l := by
        simp only [Sg.fine, Sg.rs, Bool.and_eq_true, decide_eq_true_eq] at hg
        exact hg.1.2
      rw [← e] at h3
      simp only [kSg, List.length_cons]
      omega
  have := key gs 1 hf
  omega

theorem dropN_sub : ∀ (gs : List Sg) (off : Int), (dropN gs off).length ≤ gs.length ∧ ∀ g, g ∈ dropN gs off → g ∈ gs
  | [], _ => ⟨Nat.le_refl _, fun g h => h⟩
  | [g], _ => ⟨Nat.le_refl _, fun g h => h⟩
  | g :: h :: r, off => by
    rw [dropN]
    split
    · have := dropN_sub (h :: r) off
      exact ⟨Nat.le_trans this.1 (by simp), fun x hx => List.mem_cons_of_mem _ (this.2 x hx)⟩
    · exact ⟨Nat.le_refl _, fun g h => h⟩

theorem lawDrop_any (gs : List Sg) (x off : Int) (a : Option Addr) (c : Nat) (w : World) (hs : Sgs w a gs) (hl : gs.length ≤ maxLen) (hTab : TabAt w) :
    Calls Tryd.prog 5 #[.agg #[.slice a gs.length c, .int .i64 x], .int .i64 off] w fun r w' => r = .returned (.bool true) ∧ Below w.heap.size w w' := by
  cases hg : stG gs x with
  | false => exact lawDropBefore_walk gs [] 0 false x off a c w hs hl (by simp) (by simp [kSg]) hTab (fun h1 h2 w a c h _ => (specDrop_no gs a c x off w h h1 h2 hg).mono fun r w' h => h.ps) (fun w a c _ hT h _ => (implDrop_no gs a c x off w h hl hT hg).mono fun r w' h => h.ps)
  | true =>
    have h8 : gs.length ≤ 8 := by
      cases gs with
      | nil => simp
      | cons g r => simp only [stG, Bool.and_eq_true, decide_eq_true_eq] at hg; exact hg.1
    have hsub := dropN_sub gs off
    have hk := kSg_fine (gs := dropN gs off) (by omega) (fun g hm => stG_fine1 hg g (hsub.2 g hm))
    exact lawDropBefore_walk gs (dropN gs off) x true x off a c w hs hl (by unfold maxLen; omega) (by omega) hTab (fun h1 h2 w a c h n => (specDrop_yes gs a c x off w h n h1 h2 hg).mono fun r w' h => h.ps) (fun w a c hc hT h n => (implDrop_yes gs a c x off w h n hl hc hT hg).mono fun r w' h => h.ps)

end Go.Proofs.YtomigekigcklfaaDoor
