/-
  A file of a disk turned, the specification's side: the contracts of spec.l3File, spec.l3Own, spec.SyncFile, spec.AppendTo.
-/
import Derived.Test.YtopndglgbollfaaDoorDskGood
import Derived.Deep.AppendLies
namespace Go.Proofs.YtopndglgbollfaaDoor
open Go.RowKit

/-- Is there a file of that number in a good disk? -/
def inF (fs : List Fl) (k : Int) : Bool := goodD fs && decide (0 ≤ k ∧ k < fs.length)

/-- One file of a good disk turned. -/
def chg (fs : List Fl) (k : Int) (g : Fl → Option Fl) : Option (List Fl) :=
  if inF fs k = true then (fs[k.toNat]?.bind g).map (fun f => fs.set k.toNat f) else none

theorem inF_t {fs : List Fl} {k : Int} (h : inF fs k = true) : goodD fs = true ∧ 0 ≤ k ∧ k < fs.length := by
  simpa [inF] using h

theorem goodD_t {fs : List Fl} (h : goodD fs = true) : 1 ≤ fs.length ∧ fs.length ≤ 4 ∧ ∀ f, f ∈ fs → okF f = true := by
  simp only [goodD, Bool.and_eq_true, inB_t, List.all_eq_true] at h
  exact ⟨by omega, by omega, h.2⟩

theorem okF_parts {f : Fl} (h : okF f = true) : f.bytes.size ≤ 400 ∧ 0 ≤ f.syn ∧ f.syn ≤ f.bytes.size := by
  simpa [okF, inB_t] using h

theorem chg_none {fs : List Fl} {k : Int} {g : Fl → Option Fl} (h : inF fs k = false) : chg fs k g = none := by
  unfold chg; rw [h]; rfl

theorem chg_some {fs : List Fl} {k : Nat} {g : Fl → Option Fl} {f : Fl} (h : inF fs k = true) (hf : fs[k]? = some f) : chg fs k g = (g f).map (fun x => fs.set k x) := by
  unfold chg; rw [if_pos h]; simp [hf]

theorem specFile_any (a : Option Addr) (c : Nat) (fs : List Fl) (k : Int) (w : World) (hs : Fls w a fs) (hl : fs.length ≤ maxLen) :
    Calls Tryd.prog 18 #[.agg #[.slice a fs.length c], .int .i64 k] w fun r w' => r = .returned (.bool (inF fs k)) ∧ Below w.heap.size w w' := by
  have hl' := hl
  unfold maxLen at hl'
  have hb : ∀ o, Below w.heap.size w (w.alloc o) := fun o => (Below.refl _ _).alloc (Nat.le_refl _) o
  obtain ⟨gd, hgd⟩ : ∃ gd, goodD fs = gd := ⟨_, rfl⟩
  have HG : Hid (goodD fs = gd) := hgd
  clear hgd
  cases gd with
  | false =>
    go_enter Tryd.func18, Tryd.ntmps18
    go_wp2_with fail
    refine (specGoodDisk_any _ _ _ _ (hs.below (hb _)) hl).mono ?_
    rintro r w1 ⟨hr, hB1⟩
    rw [HG.out] at hr; subst hr
    have BB := (hb _).trans (hB1.mono (hb _).size)
    go_wp2
    go_ret
    exact ⟨ret_bool (by simp [inF, HG.out]), BB⟩
  | true =>
    by_cases h0 : 0 ≤ k
    · by_cases h1 : k < fs.length
      · go_enter Tryd.func18, Tryd.ntmps18
        go_wp2_with fail
        refine (specGoodDisk_any _ _ _ _ (hs.below (hb _)) hl).mono ?_
        rintro r w1 ⟨hr, hB1⟩
        rw [HG.out] at hr; subst hr
        have BB := (hb _).trans (hB1.mono (hb _).size)
        have cA : w1.cell? ⟨w.heap.size, 0, none⟩ = some (.slice a fs.length c) := (hB1.cell (p := ⟨w.heap.size, 0, none⟩) (by simp)).trans (by simp)
        go_wp2
        go_ret
        exact ⟨ret_bool (by simp [inF, HG.out, h0, h1]), BB⟩
      · go_enter Tryd.func18, Tryd.ntmps18
        go_wp2_with fail
        refine (specGoodDisk_any _ _ _ _ (hs.below (hb _)) hl).mono ?_
        rintro r w1 ⟨hr, hB1⟩
        rw [HG.out] at hr; subst hr
        have BB := (hb _).trans (hB1.mono (hb _).size)
        have cA : w1.cell? ⟨w.heap.size, 0, none⟩ = some (.slice a fs.length c) := (hB1.cell (p := ⟨w.heap.size, 0, none⟩) (by simp)).trans (by simp)
        go_wp2
        go_ret
        exact ⟨ret_bool (by simp [inF, HG.out]; omega), BB⟩
    · go_enter Tryd.func18, Tryd.ntmps18
      go_wp2_with fail
      refine (specGoodDisk_any _ _ _ _ (hs.below (hb _)) hl).mono ?_
      rintro r w1 ⟨hr, hB1⟩
      rw [HG.out] at hr; subst hr
      have BB := (hb _).trans (hB1.mono (hb _).size)
      go_wp2
      go_ret
      exact ⟨ret_bool (by simp [inF, HG.out]; omega), BB⟩

/-- Files as cells. -/
def flCells : List Fl → List Value
  | [] => []
  | f :: r => .string f.bytes :: .int .i64 f.syn :: flCells r

theorem flCells_length : ∀ fs : List Fl, (flCells fs).length = fs.length * 2
  | [] => rfl
  | f :: r => by simp [flCells, flCells_length r]; omega

theorem flCells_app : ∀ xs ys : List Fl, flCells (xs ++ ys) = flCells xs ++ flCells ys
  | [], ys => rfl
  | f :: r, ys => by simp [flCells, flCells_app r ys]

theorem flCells_get : ∀ (fs : List Fl) (i : Nat) (f : Fl), fs[i]? = some f → (flCells fs)[i * 2]? = some (.string f.bytes) ∧ (flCells fs)[i * 2 + 1]? = some (.int .i64 f.syn)
  | [], i, f, h => by simp at h
  | g :: r, 0, f, h => by simp at h; subst h; simp [flCells]
  | g :: r, i + 1, f, h => by
    have := flCells_get r i f (by simpa using h)
    have e1 : (i + 1) * 2 = i * 2 + 1 + 1 := by omega
    have e2 : (i + 1) * 2 + 1 = i * 2 + 1 + 1 + 1 := by omega
    rw [e2, e1]
    simpa [flCells] using this

theorem flCells_one {fs : List Fl} : ∀ u, u ∈ flCells fs → u.oneCell' = true := by
  induction fs with
  | nil => intro u h; simp [flCells] at h
  | cons f r ih =>
    intro u h
    simp only [flCells, List.mem_cons] at h
    rcases h with rfl | rfl | h
    · rfl
    · rfl
    · exact ih u h

theorem Fls.news {w : World} {k o : Nat} {fs : List Fl} (h : Fls w (some ⟨k, o, none⟩) fs) : ∀ j u, (flCells fs)[j]? = some u → w.cell? ((⟨k, o, none⟩ : Addr).add j) = some u := fun j u hj => by
  have hlt := (List.getElem?_eq_some_iff.1 hj).1
  rw [flCells_length] at hlt
  obtain ⟨f, hf⟩ := getFl (fs := fs) (k := j / 2) (by omega)
  obtain ⟨k', o', e, h0, h1, -⟩ := h _ f hf
  obtain ⟨g0, g1⟩ := flCells_get fs (j / 2) f hf
  simp only [Option.some.injEq, Addr.mk.injEq] at e
  obtain ⟨rfl, rfl, -⟩ := e
  rw [Go.WideShapes.add_plain]
  rcases (by omega : j = j / 2 * 2 ∨ j = j / 2 * 2 + 1) with e | e
  · have e2 : o + j = o + j / 2 * 2 := by omega
    rw [e] at hj; rw [g0] at hj
    rw [e2, h0]; exact hj
  · have e2 : o + j = o + j / 2 * 2 + 1 := by omega
    rw [e] at hj; rw [g1] at hj
    rw [e2, h1]; exact hj

theorem fls_of_owns {w : World} {B : Nat} {v : Value} {fs : List Fl} (h : w.ownsRow B 45 2 v fs.length (flCells fs)) (hz : ∀ f, f ∈ fs → f.bytes.size ≤ maxLen) :
    ∃ a c, v = .slice a fs.length c ∧ fs.length ≤ c ∧ Fls w a fs ∧ RowF w B a fs.length := by
  obtain ⟨h1, ⟨hv, h0⟩ | ⟨g, cap, cur, hv, hg, hh, hn, hcap, hcs, ht⟩⟩ := h
  · obtain rfl : fs = [] := List.eq_nil_of_length_eq_zero h0
    exact ⟨none, 0, hv, Nat.le_refl _, Fls.nil _ _, .inl rfl⟩
  · have hR : w.rowIs g 45 (cap * 2) (fun j => cur.getD j undef) := ⟨cur, hh, hcs, fun i hi => by simp [hcs, hi]⟩
    have hget : ∀ i : Nat, i < fs.length * 2 → cur[i]? = (flCells fs)[i]? := fun i hi => by
      rw [← ht, List.getElem?_take_of_lt hi]; simp
    refine ⟨_, cap, hv, hn, Fls.of_row hR (by omega) (fun i b hi hb => ?_) hz, .inr ⟨g, _, _, rfl, hg, by omega, hR⟩⟩
    obtain ⟨g0, g1⟩ := flCells_get fs i b hb
    have e0 := (hget (i * 2) (by omega)).trans g0
    have e1 := (hget (i * 2 + 1) (by omega)).trans g1
    constructor
    · show cur.getD (i * 2) undef = _
      simp [Array.getD_eq_getD_getElem?, e0]
    · show cur.getD (i * 2 + 1) undef = _
      simp [Array.getD_eq_getD_getElem?, e1]

set_option maxHeartbeats 1000000 in
theorem specOwn_any (a : Option Addr) (c : Nat) (fs : List Fl) (w : World) (hs : Fls w a fs) (h1 : 1 ≤ fs.length) (h4 : fs.length ≤ 4) :
    Calls Tryd.prog 36 #[.agg #[.slice a fs.length c]] w fun r w' => ∃ a' c', r = .returned (.agg #[.slice a' fs.length c']) ∧ Fls w' a' fs ∧ RowF w' w.heap.size a' fs.length ∧ Below w.heap.size w w' := by
  obtain ⟨f0, hf0⟩ := getFl (fs := fs) (k := 0) (by omega)
  obtain ⟨kb, ob, rfl, -⟩ := hs 0 f0 hf0
  have hz := hs.sizes
  obtain ⟨i0, hi, hz0, hz1, hz2⟩ := info_parts Tryd.infoFile
  go_enter Tryd.func36, Tryd.ntmps36
  have hb3 : ∀ x y z, Below w.heap.size w (((w.alloc x).alloc y).alloc z) := fun _ _ _ => (((Below.refl _ _).alloc (Nat.le_refl _) _).alloc (by simp) _).alloc (by simp; omega) _
  go_wp2_with (at_builtin; refine wpList_append_own _ rfl _ _ 26 rfl (w.heap.size + 1 + 1) 45 i0 _ 2 24 Tryd.underlying26 hi hz0 hz1 hz2 rfl (by decide) (.slice (some ⟨w.heap.size + 1 + 1, 0, none⟩) 0 0) 0 [] rfl ?c0 ⟨kb, ob, none⟩ fs.length c (flCells fs) rfl (flCells_length fs) ?c1 flCells_one ?c3 ?c4 ?c5 ?_)
  case c0 =>
    have := World.ownsRow_made (base := w.heap.size + 1 + 1) (e := 45) (size := 2) ((w.alloc (.cells #[.slice (some ⟨kb, ob, none⟩) fs.length c] 28)).alloc (.cells #[.slice none 0 0] 28)) #[] 0 (by simp) (by unfold maxLen; omega) rfl
    simpa only [World.size_alloc] using this
  case c1 => exact (hs.below (hb3 _ _ _)).news
  case c3 => unfold maxLen; omega
  case c4 => omega
  case c5 => simp
  intro v3 w3 hown3 hgrow _
  obtain ⟨a3, c3, rfl, -, hF, hR⟩ := fls_of_owns hown3 hz
  have hne : some (w.heap.size + 1) ≠ (Value.slice (some ⟨w.heap.size + 1 + 1, 0, none⟩) 0 0).ownBlock := by simp [Value.ownBlock]
  have c2 : w3.cell? ⟨w.heap.size + 1, 0, none⟩ = some (.slice none 0 0) := (hgrow.cell_far ⟨w.heap.size + 1, 0, none⟩ (by simp only [World.size_alloc]; omega) hne).trans (by simp [go_sem])
  have f2 : w3.frozen? ⟨w.heap.size + 1, 0, none⟩ = false := (hgrow.frozen_far ⟨w.heap.size + 1, 0, none⟩ (by simp only [World.size_alloc]; omega) hne).trans (by simp [go_sem])
  have BB : Below w.heap.size w w3 := (hb3 _ _ _).grown hgrow (by simp; omega) (fun q hq => by simp [Value.ownBlock] at hq; omega)
  have hset : ∀ x b, InB a3 fs.length b → (w3.setCell ⟨w.heap.size + 1, 0, none⟩ x).heap[b]? = w3.heap[b]? := fun x b hb => by
    have := (hR.lt hb).1
    exact Below.heap_setCell _ ⟨w.heap.size + 1, 0, none⟩ _ b (by simp; omega)
  clear hown3 hgrow hne
  go_wp2
  refine bodyPost_ret (v := .agg #[.slice a3 fs.length c3]) (by simp [results, Tryd.results36, go_sem, c2]) rfl ⟨a3, c3, rfl, hF.of_block (hset _), (hR.of_block (hset _)).mono (by omega), BB.setCell (by simp) _⟩

end Go.Proofs.YtopndglgbollfaaDoor
