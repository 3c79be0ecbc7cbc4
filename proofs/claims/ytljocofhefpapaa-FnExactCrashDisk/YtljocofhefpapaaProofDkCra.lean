/-
  Proved: at every disk and every list of numbers, in whatever memory and on every schedule, the law FnExactCrashDisk returns true and its arguments read afterwards as they read before. No condition.
-/
import Derived.Test.YtljocofhefpapaaLawDkCra
import Derived.Test.YtljocofhefpapaaDskCrash2
import Derived.Test.YtljocofhefpapaaDskCrash3
import Derived.Test.YtljocofhefpapaaOpenDk
import Derived.ChangeSlices
namespace Go.Proofs.Ytljocofhefpapaa
open Go.ChangeShapes Go.WideShapes Go.ChangeAt Go.RowKit

theorem crashL_len : ∀ {fs : List Fl} {ks : List Int} {gs : List Fl}, crashL fs ks = some gs → gs.length = fs.length
  | [], [], gs, h => by simp [crashL] at h; subst h; rfl
  | [], _ :: _, gs, h => by simp [crashL] at h
  | _ :: _, [], gs, h => by simp [crashL] at h
  | f :: r, m :: ms, gs, h => by
    unfold crashL at h
    split at h
    · cases h
    · simp only [Option.map_eq_some_iff] at h
      obtain ⟨g, hg, rfl⟩ := h
      simp [crashL_len hg]

theorem crashD_len {fs : List Fl} {ks : List Int} : (filesOf (crashD fs ks)).length ≤ 4 := by
  unfold crashD
  split
  · rename_i h
    have := (goodD_t h.1).2.1
    cases e : crashL fs ks with
    | none => simp [filesOf]
    | some gs => simpa [filesOf, crashL_len e] using this
  · simp [filesOf]

section
variable {H : Type} {enc : TypeId × Value → H} {w : World} {base : Nat} {spare : Nat → Bool} {held : Bool}

set_option maxRecDepth 100000 in
theorem ints_of {fuel : Nat} {cs : List Value} {x : DataW H × List MemPlace} (h : DataW.trod enc Try.prog w base spare held fuel 41 cs = some x) :
    ∃ a c, ∃ zs : List Int, cs = [.slice a zs.length c] ∧ Ints w a zs ∧ zs.length ≤ maxLen := by
  rcases open_ints Try.underlying41 Try.underlying3 Try.cellsInt h with ⟨rfl, -⟩ | ⟨a, len, cap, zs, rfl, -, hl, hm, hlen, -, hx, -⟩
  · exact ⟨none, 0, [], rfl, fun i z hi => by simp at hi, by simp⟩
  · have hlm : len ≤ zs.length := by rw [hlen]; split <;> omega
    have hz : (zs.take len).length = len := by simp; omega
    refine ⟨some a, cap, zs.take len, by rw [hz], fun i z hi => ?_, by rw [hz]; omega⟩
    have hlt := (List.getElem?_eq_some_iff.1 hi).1
    rw [hz] at hlt
    rw [List.getElem?_take_of_lt hlt] at hi
    obtain ⟨b, off, spot⟩ := a
    have hspot : spot = none := by simpa [Addr.add] using World.cell?_spot (hx 0 (by omega))
    subst hspot
    refine ⟨b, off, rfl, ?_⟩
    rw [← add_plain]
    have := hx i (by omega)
    rw [List.getD_eq_getElem?_getD, hi] at this
    exact this
end

set_option maxRecDepth 100000 in
theorem lawCrashDisk_lifted (os : Os) (started : os.Started) (H : Type) (enc : TypeId × Value → H) :
    ReturnsInHanded {} Try.checked os 7 .any (Rows.fnExactCrashDiskSpec.pre6 enc Try.prog Try.f7 Rows.fnExactCrashDiskRow.domain false) (Rows.fnExactCrashDiskSpec.post enc Try.prog Try.f7 false true false false) := by
  refine returnsInHanded_of_change (C := Try.checked) Try.own started (by kernel_rfl) Try.func7
    (ChangeSpec.witness6 (enc := enc) (C := Try.checked) false ⟨#[], #[.agg #[.slice none 0 0], .slice none 0 0], []⟩ 8 (by kernel_rfl) (by kernel_rfl) (by kernel_rfl) (by kernel_rfl)) ?_
  intro W base args ds gs before hval0 hW hcnd _
  have hval : ∀ (j : Nat) t v, Try.f7.params[j]? = some t → args[j]? = some v → Value.okWide Try.prog W .any base t v := hval0
  have hW' := hW
  obtain ⟨p, q, hA0, hV, rfl, hfz, hnd⟩ := hW
  have hA : DataW.TrodAll enc Try.prog W 0 (fun _ => true) true Try.f7.params.toList args.toList ds p := hA0
  rw [Try.params7] at hA hval
  obtain ⟨v0, vs0, d0, ds0, p0, q0, hargs, rfl, rfl, h0, r0⟩ := trodAll_cons hA
  obtain ⟨v1, vs1, d1, ds1, p1, q1, rfl, rfl, rfl, h1, r1⟩ := trodAll_cons r0
  obtain ⟨rfl, rfl, rfl⟩ := trodAll_nil r1
  obtain rfl : args = #[v0, v1] := by cases args; simp_all
  obtain ⟨rfl, rfl⟩ := trodVars_none hV
  obtain ⟨cs, rfl, hcs⟩ := okWide_struct Try.underlying32 (hval 0 32 v0 rfl rfl)
  have k0 := h0
  have lt0 : ∀ x ∈ p0, x.block < W.heap.size := by obtain ⟨m, hm⟩ := k0; exact DataW.trod_lt m _ _ _ hm
  obtain ⟨fuel, hf⟩ := h0
  obtain ⟨a, c, fs, e, hs, hm⟩ := disk_of hf
  obtain rfl : cs = #[.slice a fs.length c] := Array.toList_inj.1 (by simpa [Value.cells] using e)
  have k1 := h1
  have lt1 : ∀ x ∈ p1, x.block < W.heap.size := by obtain ⟨m, hm⟩ := k1; exact DataW.trod_lt m _ _ _ hm
  obtain ⟨ak, len, ck, rfl⟩ := okWide_slice Try.underlying41 (hval 1 41 v1 rfl rfl)
  obtain ⟨fuel1, hf1⟩ := h1
  obtain ⟨ak', ck', ks, e1, hk, hkl⟩ := ints_of hf1
  simp only [Value.cells, List.cons.injEq, Value.slice.injEq, and_true] at e1
  obtain ⟨rfl, rfl, rfl⟩ := e1
  clear hA0 hval0
  refine (lawCrashDisk_any fs (filesOf (crashD fs ks)) (crashD fs ks).isSome ks a c ak ck W hs hm crashD_len hk hkl (fun w a c ak ck h1 h2 => specCrash_any a c fs ak ck ks w h1 hm h2) (fun w a c ak ck h1 h2 => implCrash_any a c fs ak ck ks w h1 hm h2)).mono fun e W' ⟨he, bel⟩ => ?_
  subst he
  exact ⟨_, rfl, _, _, _, [], _, [], hW', trodAll_mk1 (shut_bool Try.underlying4 _), (trodAll_cons_mk (Below.trod Try.laidOut (by kernel_rfl) (of_decide_eq_true (by kernel_rfl)) k0 bel lt0) (trodAll_cons_mk (Below.trod Try.laidOut (by kernel_rfl) (of_decide_eq_true (by kernel_rfl)) k1 bel lt1) trodAll_mk0)), rfl, bel.frame _, fun h => by cases h⟩

theorem fnExactCrashDisk_holds : Rows.FnExactCrashDiskSaid :=
  OpenClaim.holds_of_wide 7 Try.f7 rfl rfl rfl rfl rfl rfl rfl ⟨rfl, rfl, rfl, rfl, rfl⟩ rfl rfl rfl rfl rfl (by kernel_rfl) Try.func7 (by kernel_rfl)
    (of_decide_eq_true (by kernel_rfl)) (by unfold Func.isWrapper; first | (rw [if_pos (by decide +kernel)]; kernel_rfl) | (rw [if_neg (by decide +kernel)]; exact ⟨rfl, rfl⟩))
    (fun os started H enc _ => lawCrashDisk_lifted os started H enc)

end Go.Proofs.Ytljocofhefpapaa
