/-
  A file of a disk turned, the program's side: the contracts of impl.fileOf and of the changes (allSynced, tail.behind, place.cut, spared.left).
-/
import Derived.Test.YtopndglgbollfaaDoorDskSpec
import Derived.Laws.Concat
namespace Go.Proofs.YtopndglgbollfaaDoor
open Go.RowKit

set_option maxHeartbeats 2000000 in
theorem fileOf_any (a : Option Addr) (c : Nat) (fs : List Fl) (k : Int) (w : World) (hs : Fls w a fs) (hl : fs.length ≤ maxLen) :
    Calls Tryd.prog 22 #[.agg #[.slice a fs.length c], .int .i64 k] w fun r w' => ∃ f : Fl, r = .returned (.tuple #[.agg #[.string f.bytes, .int .i64 f.syn], .bool (inF fs k)]) ∧ (inF fs k = true → fs[k.toNat]? = some f) ∧ Below w.heap.size w w' := by
  have hl' := hl
  unfold maxLen at hl'
  have hb2 : ∀ x y, Below w.heap.size w ((w.alloc x).alloc y) := fun _ _ => ((Below.refl _ _).alloc (Nat.le_refl _) _).alloc (by simp) _
  obtain ⟨gd, hgd⟩ : ∃ gd, goodD fs = gd := ⟨_, rfl⟩
  have HG : Hid (goodD fs = gd) := hgd
  clear hgd
  cases gd with
  | false =>
    have hin : inF fs k = false := by simp [inF, HG.out]
    rw [hin]
    go_enter Tryd.func22, Tryd.ntmps22
    go_wp2_with fail
    refine (implGoodDisk_any _ _ _ _ (hs.below (hb2 _ _)) hl).mono ?_
    rintro r w1 ⟨hr, hB1⟩
    rw [HG.out] at hr; subst hr
    have BB := (hb2 _ _).trans (hB1.mono (hb2 _ _).size)
    obtain ⟨hc1, hf1⟩ := fbcell hB1
    simp only [World.size_alloc] at hc1 hf1
    clear hB1
    go_wp2
    refine bodyPost_ret (v := .tuple #[.agg #[.string ⟨#[]⟩, .int .i64 0], .bool false]) (by simp [results, Tryd.results22, go_sem, hc1]) rfl ⟨⟨⟨#[]⟩, 0⟩, rfl, (fun h => by cases h), (BB.setCell (by simp) _).setCell (by simp) _⟩
  | true =>
    obtain ⟨l1, l4, hok⟩ := goodD_t HG.out
    obtain ⟨gi, hgi⟩ : ∃ gi, inB k 0 ((fs.length : Int) - 1) = gi := ⟨_, rfl⟩
    have HI : Hid (inB k 0 ((fs.length : Int) - 1) = gi) := hgi
    have hin : inF fs k = gi := by
      rw [← hgi]; unfold inF inB; rw [HG.out, Bool.true_and]
      exact decide_eq_decide.2 (by omega)
    rw [hin]
    clear hgi
    cases gi with
    | false =>
      clear hok
      go_enter Tryd.func22, Tryd.ntmps22
      go_wp2_with fail
      refine (implGoodDisk_any _ _ _ _ (hs.below (hb2 _ _)) hl).mono ?_
      rintro r w1 ⟨hr, hB1⟩
      rw [HG.out] at hr; subst hr
      have BB := (hb2 _ _).trans (hB1.mono (hb2 _ _).size)
      obtain ⟨hc1, hf1⟩ := fbcell hB1
      simp only [World.size_alloc] at hc1 hf1
      clear hB1
      go_wp2_with (go_at_call 39; refine (within_any _ _ _).mono ?_; rintro e w' ⟨he, rfl⟩; rw [HI.out] at he; subst he)
      refine bodyPost_ret (v := .tuple #[.agg #[.string ⟨#[]⟩, .int .i64 0], .bool false]) (by simp [results, Tryd.results22, go_sem, hc1]) rfl ⟨⟨⟨#[]⟩, 0⟩, rfl, (fun h => by cases h), (BB.setCell (by simp) _).setCell (by simp) _⟩
    | true =>
      obtain ⟨-, hk0, hk1⟩ := inF_t hin
      obtain ⟨i, rfl⟩ := Int.eq_ofNat_of_zero_le hk0
      obtain ⟨f, hf⟩ := getFl (fs := fs) (k := i) (by omega)
      have HF0 : Hid (fs[((i : Nat) : Int).toNat]? = some f) := by show _ = _; simpa using hf
      clear hok hin
      go_enter Tryd.func22, Tryd.ntmps22
      go_wp2_with fail
      refine (implGoodDisk_any _ _ _ _ (hs.below (hb2 _ _)) hl).mono ?_
      rintro r w1 ⟨hr, hB1⟩
      rw [HG.out] at hr; subst hr
      have BB := (hb2 _ _).trans (hB1.mono (hb2 _ _).size)
      obtain ⟨kb, ob, rfl, c0, c1, -⟩ := ((hs.below (hb2 _ _)).below hB1) i f hf
      obtain ⟨hc1, hf1⟩ := fbcell hB1
      simp only [World.size_alloc] at hc1 hf1
      clear hB1 hs hf
      go_wp2_with (go_at_call 39; refine (within_any _ _ _).mono ?_; rintro e w' ⟨he, rfl⟩; rw [HI.out] at he; subst he)
      refine bodyPost_ret (v := .tuple #[.agg #[.string f.bytes, .int .i64 f.syn], .bool true]) (by simp [results, Tryd.results22, go_sem, hc1]) rfl ⟨f, rfl, (fun _ => HF0.out), (BB.setCell (by simp) _).setCell (by simp) _⟩

theorem allSynced_any (f : Fl) (w : World) :
    Calls Tryd.prog 43 #[.agg #[.string f.bytes, .int .i64 f.syn]] w fun r w' => ∃ f' : Fl, r = .returned (.tuple #[.agg #[.string f'.bytes, .int .i64 f'.syn], .bool (syncF f).isSome]) ∧ (∀ x, syncF f = some x → x = f') ∧ Below w.heap.size w w' := by
  have hb2 : ∀ x y, Below w.heap.size w ((w.alloc x).alloc y) := fun _ _ => ((Below.refl _ _).alloc (Nat.le_refl _) _).alloc (by simp) _
  go_enter Tryd.func43, Tryd.ntmps43
  go_wp2
  refine bodyPost_ret (v := .tuple #[.agg #[.string f.bytes, .int .i64 f.bytes.size], .bool true]) (by simp [results, Tryd.results43, go_sem]) rfl ⟨⟨f.bytes, f.bytes.size⟩, rfl, (fun x h => by simpa [syncF] using h.symm), hb2 _ _⟩

end Go.Proofs.YtopndglgbollfaaDoor
