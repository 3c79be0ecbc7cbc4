/-
  A crash, plainly; the contract of (impl.spared).left.
-/
import Derived.Test.YtljocofhefpapaaDskImpl
import Derived.Test.YtljocofhefpapaaInts
namespace Go.Proofs.Ytljocofhefpapaa
open Go.RowKit

def crashF (m : Int) (f : Fl) : Option Fl := if inB m 0 ((f.bytes.size : Int) - f.syn) = true then some ⟨f.bytes.extract 0 (f.syn + m).toNat, f.syn + m⟩ else none

def crashL : List Fl → List Int → Option (List Fl)
  | [], [] => some []
  | f :: r, m :: ms => match crashF m f with
    | none => none
    | some x => (crashL r ms).map (x :: ·)
  | _, _ => none

def crashD (fs : List Fl) (ks : List Int) : Option (List Fl) := if goodD fs = true ∧ ks.length = fs.length then crashL fs ks else none

theorem crashD_none {fs : List Fl} {ks : List Int} (h : ¬ (goodD fs = true ∧ ks.length = fs.length)) : crashD fs ks = none := by unfold crashD; rw [if_neg h]

/-- What is left to be done, the first ones done. -/
def CrLeft (fs : List Fl) (ks : List Int) (i : Nat) (ds : List Fl) : Prop :=
  ds.length = i ∧ crashL fs ks = (crashL (fs.drop i) (ks.drop i)).map (ds ++ ·)

theorem cr_start (fs : List Fl) (ks : List Int) : CrLeft fs ks 0 [] := ⟨rfl, by simp⟩

theorem dropI {zs : List Int} {k : Nat} {z : Int} (h : zs[k]? = some z) : zs.drop k = z :: zs.drop (k + 1) := by
  obtain ⟨hlt, e⟩ := List.getElem?_eq_some_iff.1 h
  rw [List.drop_eq_getElem_cons hlt, e]

theorem cr_bad {fs : List Fl} {ks : List Int} {i : Nat} {ds : List Fl} {f : Fl} {m : Int} (h : CrLeft fs ks i ds) (hf : fs[i]? = some f) (hm : ks[i]? = some m) (hc : crashF m f = none) : crashL fs ks = none := by
  rw [h.2, dropFl hf, dropI hm, crashL, hc]; rfl

theorem cr_step {fs : List Fl} {ks : List Int} {i : Nat} {ds : List Fl} {f x : Fl} {m : Int} (h : CrLeft fs ks i ds) (hf : fs[i]? = some f) (hm : ks[i]? = some m) (hc : crashF m f = some x) : CrLeft fs ks (i + 1) (ds ++ [x]) := by
  refine ⟨by rw [List.length_append, List.length_singleton, h.1], ?_⟩
  rw [h.2, dropFl hf, dropI hm, crashL, hc]
  simp only [Option.map_map]
  congr 1
  funext y
  simp

theorem cr_done {fs : List Fl} {ks : List Int} {ds : List Fl} (hl : ks.length = fs.length) (h : CrLeft fs ks fs.length ds) : crashL fs ks = some ds := by
  rw [h.2, List.drop_length, List.drop_of_length_le (by omega), crashL]; simp

theorem crashF_ok {m : Int} {f x : Fl} (h : crashF m f = some x) (hf : okF f = true) : okF x = true ∧ x.bytes.size ≤ 400 := by
  unfold crashF at h
  split at h
  · rename_i hc
    obtain ⟨h1, h2, h3⟩ := okF_parts hf
    have hm := inB_t.1 hc
    simp only [Option.some.injEq] at h
    subst h
    have hz : (f.bytes.extract 0 (f.syn + m).toNat).size = (f.syn + m).toNat := by rw [ByteArray.size_extract]; omega
    exact ⟨okF_t (by simp only [hz]; omega) (by simp only; omega) (by simp only [hz]; omega), by simp only [hz]; omega⟩
  · cases h

theorem left_any (m : Int) (f : Fl) (w : World) (hf : okF f = true) :
    Calls Try.prog 41 #[.int .i64 m, .agg #[.string f.bytes, .int .i64 f.syn]] w fun r w' => ∃ f' : Fl, r = .returned (.tuple #[.agg #[.string f'.bytes, .int .i64 f'.syn], .bool (crashF m f).isSome]) ∧ (∀ x, crashF m f = some x → x = f') ∧ Below w.heap.size w w' := by
  have hb2 : ∀ x y, Below w.heap.size w ((w.alloc x).alloc y) := fun _ _ => ((Below.refl _ _).alloc (Nat.le_refl _) _).alloc (by simp) _
  obtain ⟨f4, f0, f1⟩ := okF_parts hf
  obtain ⟨gi, hgi⟩ : ∃ gi, inB m 0 ((f.bytes.size : Int) - f.syn) = gi := ⟨_, rfl⟩
  have HI : Hid (inB m 0 ((f.bytes.size : Int) - f.syn) = gi) := hgi
  cases gi with
  | false =>
    have e : crashF m f = none := by unfold crashF; rw [hgi]; rfl
    rw [e]
    clear hgi hf
    go_enter Try.func41, Try.ntmps41
    go_wp2_with (go_at_call 35; refine (within_any _ _ _).mono ?_; rintro e w' ⟨he, rfl⟩; rw [HI.out] at he; subst he)
    refine bodyPost_ret (v := .tuple #[.agg #[.string ⟨#[]⟩, .int .i64 0], .bool false]) (by simp [results, Try.results41, go_sem]) rfl ⟨⟨⟨#[]⟩, 0⟩, rfl, (fun x h => by cases h), hb2 _ _⟩
  | true =>
    obtain ⟨m0, m1⟩ := inB_t.1 hgi
    obtain ⟨n, hn⟩ := Int.eq_ofNat_of_zero_le (by omega : 0 ≤ f.syn + m)
    have e : crashF m f = some ⟨f.bytes.extract 0 n, (n : Int)⟩ := by unfold crashF; rw [hgi, hn]; rfl
    rw [e]
    have hnI : (n : Int) ≤ (f.bytes.size : Int) := by omega
    have h0n : (0 : Int) ≤ (n : Int) := by omega
    have hz : (f.bytes.extract 0 n).size = n := by rw [ByteArray.size_extract]; omega
    have HZ : Hid ((f.bytes.extract 0 n).size = n) := hz
    have hwr : IntKind.i64.wrap (n : Int) = (n : Int) := by rw [IntKind.wrap_i64]; omega
    have hwr2 : wrap64 (n : Int) = (n : Int) := by unfold wrap64; omega
    clear hgi hf hz
    go_enter Try.func41, Try.ntmps41
    go_wp2_with (go_at_call 35; refine (within_any _ _ _).mono ?_; rintro e w' ⟨he, rfl⟩; rw [HI.out] at he; subst he)
    refine (allSynced_any ⟨f.bytes.extract 0 n, 0⟩ _).mono ?_
    rintro r w1 ⟨f', hr, hf', hB1⟩
    obtain rfl := hf' _ rfl
    simp only [HZ.out, syncF, Option.isSome_some] at hr
    subst hr
    have BB := (hb2 _ _).trans (hB1.mono (hb2 _ _).size)
    obtain ⟨hc1, hf1⟩ := fbcell hB1
    simp only [World.size_alloc] at hc1 hf1
    clear hB1 hf'
    go_wp2
    refine bodyPost_ret (v := .tuple #[.agg #[.string (f.bytes.extract 0 n), .int .i64 (n : Int)], .bool true]) (by simp [results, Try.results41, go_sem, hc1]) rfl ⟨⟨f.bytes.extract 0 n, (n : Int)⟩, rfl, (fun x h => by simpa using h.symm), (BB.setCell (by simp) _).setCell (by simp) _⟩

end Go.Proofs.Ytljocofhefpapaa
