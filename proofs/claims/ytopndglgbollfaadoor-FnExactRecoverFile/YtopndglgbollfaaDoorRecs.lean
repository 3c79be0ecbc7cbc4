/-
  Records read by a goto: what impl.readRecords answers.
-/
import Derived.Test.YtopndglgbollfaaDoorClone
import Derived.Test.YtopndglgbollfaaDoorLawLogAid
import Derived.WalkMore
import Derived.ScopeJumps
namespace Go.Proofs.YtopndglgbollfaaDoor
open Go.RowKit

def strVals (ss : List ByteArray) : List Value := ss.map Value.string

/-- What holds at the label. -/
structure RecSt (w : World) (s : ByteArray) (n : Nat) (w' : World) (v : Value) (ss : List ByteArray) (at_ : Nat) : Prop where
  here : at_ ≤ s.size
  few : ss.length ≤ n
  left : takeRecs n s.data.toList = (takeRecs (n - ss.length) (s.data.toList.drop at_)).map (fun x => (ss ++ x.1, x.2))
  own : w'.ownsRow w.heap.size 9 1 v ss.length (strVals ss)
  bel : Below w.heap.size w w'

theorem size_len (s : ByteArray) : s.data.toList.length = s.size := rfl

theorem recs_done {s : ByteArray} {n at_ : Nat} {ss : List ByteArray} (h : takeRecs n s.data.toList = (takeRecs (n - ss.length) (s.data.toList.drop at_)).map (fun x => (ss ++ x.1, x.2))) (hf : ss.length = n) (he : at_ = s.size) : takeRecs n s.data.toList = some (ss, []) := by
  rw [h, hf, Nat.sub_self, List.drop_of_length_le (by rw [size_len]; omega)]
  simp [takeRecs]

theorem recs_over {s : ByteArray} {n at_ : Nat} {ss : List ByteArray} (h : takeRecs n s.data.toList = (takeRecs (n - ss.length) (s.data.toList.drop at_)).map (fun x => (ss ++ x.1, x.2))) (hf : ss.length = n) (hat : at_ ≤ s.size) (he : ¬ at_ = s.size) : ∀ rs, takeRecs n s.data.toList ≠ some (rs, []) := by
  intro rs hr
  rw [h, hf, Nat.sub_self] at hr
  simp only [takeRecs, Option.map_some, Option.some.injEq, Prod.mk.injEq] at hr
  have := congrArg List.length hr.2
  rw [List.length_drop, size_len] at this
  simp at this
  omega

theorem recs_short {s : ByteArray} {n at_ : Nat} {ss : List ByteArray} (h : takeRecs n s.data.toList = (takeRecs (n - ss.length) (s.data.toList.drop at_)).map (fun x => (ss ++ x.1, x.2))) (hf : ss.length < n) (he : at_ = s.size) : ∀ rs, takeRecs n s.data.toList ≠ some (rs, []) := by
  intro rs hr
  obtain ⟨k, hk⟩ : ∃ k, n - ss.length = k + 1 := ⟨n - ss.length - 1, by omega⟩
  rw [h, hk, List.drop_of_length_le (by rw [size_len]; omega), takeRecs] at hr
  simp at hr

theorem drop_byte (s : ByteArray) (k : Nat) (h : k < s.size) : s.data.toList.drop k = s[k] :: s.data.toList.drop (k + 1) := by
  rw [List.drop_eq_getElem_cons (by rw [size_len]; exact h)]; rfl

theorem recs_wide {s : ByteArray} {n at_ : Nat} {ss : List ByteArray} (h : takeRecs n s.data.toList = (takeRecs (n - ss.length) (s.data.toList.drop at_)).map (fun x => (ss ++ x.1, x.2))) (hf : ss.length < n) (hal : at_ < s.size) (hb : s.size < at_ + 1 + s[at_].toNat) : takeRecs n s.data.toList = none := by
  obtain ⟨k, hk⟩ : ∃ k, n - ss.length = k + 1 := ⟨n - ss.length - 1, by omega⟩
  rw [h, hk, drop_byte s at_ hal, takeRecs, if_neg (by rw [List.length_drop, size_len]; omega)]
  rfl

/-- One record more. -/
theorem recs_next {s : ByteArray} {n at_ : Nat} {ss : List ByteArray} (h : takeRecs n s.data.toList = (takeRecs (n - ss.length) (s.data.toList.drop at_)).map (fun x => (ss ++ x.1, x.2))) (hf : ss.length < n) (hal : at_ < s.size) (hb : at_ + 1 + s[at_].toNat ≤ s.size) :
    takeRecs n s.data.toList = (takeRecs (n - (ss ++ [(⟨((s.data.toList.drop (at_ + 1)).take s[at_].toNat).toArray⟩ : ByteArray)]).length) (s.data.toList.drop (at_ + 1 + s[at_].toNat))).map (fun x => ((ss ++ [(⟨((s.data.toList.drop (at_ + 1)).take s[at_].toNat).toArray⟩ : ByteArray)]) ++ x.1, x.2)) := by
  obtain ⟨k, hk⟩ : ∃ k, n - ss.length = k + 1 := ⟨n - ss.length - 1, by omega⟩
  have hk2 : n - (ss ++ [(⟨((s.data.toList.drop (at_ + 1)).take s[at_].toNat).toArray⟩ : ByteArray)]).length = k := by simp; omega
  rw [h, hk, hk2, drop_byte s at_ hal, takeRecs, if_pos (by rw [List.length_drop, size_len]; omega), List.drop_drop, Option.map_map]
  congr 1
  funext x
  simp

theorem extract_eq (s : ByteArray) (a b : Nat) : s.extract a b = ⟨((s.data.toList.drop a).take (b - a)).toArray⟩ := by
  apply Go.WideShapes.bytes_inj
  rw [ByteArray.data_extract, Array.toList_extract]

set_option maxRecDepth 100000 in
set_option maxHeartbeats 4000000 in
theorem readRecords_any (s : ByteArray) (n : Nat) (w : World) (hs : s.size ≤ 600) (hn : n ≤ 255) :
    Calls Tryd.prog 58 #[.string s, .int .i64 n] w fun r w' => ∃ v ok, r = .returned (.tuple #[v, .bool ok]) ∧
      ((ok = true ∧ ∃ ss, takeRecs n s.data.toList = some (ss, []) ∧ w'.ownsRow w.heap.size 9 1 v ss.length (strVals ss)) ∨ (ok = false ∧ ∀ rs, takeRecs n s.data.toList ≠ some (rs, []))) ∧ Below w.heap.size w w' := by
  obtain ⟨i0, hi, hz0, hz1, hz2⟩ := info_parts Tryd.infoString
  obtain ⟨w0, hmk, hown0, hgr0⟩ := run_make_own (P := Tryd.prog) w w.heap.size 58 9 i0 (.string ByteArray.empty) 1 Tryd.underlying58 hi hz0 hz1 .i64 .i64 n (by rw [hz2]; omega) (by unfold maxLen; omega) (Nat.le_refl _)
  have hB0 : Below w.heap.size w w0 := (Below.refl _ _).grown hgr0 (Nat.le_refl _) (fun k hk => by cases hk)
  clear hgr0 hi hz0 hz1 hz2
  go_enter Tryd.func58, Tryd.ntmps58
  go_wp2
  refine wp_scope_jumps 0 (fun a' w' => ∃ (v : Value) (ss : List ByteArray) (at_ : Nat) (u4 u5 u8 u9 u10 u11 u12 u13 u14 u15 u16 u17 u18 u19 u20 u21 u22 u23 u24 u25 u26 u27 u28 u29 u30 u31 u32 u33 u34 u35 u36 u37 u38 u39 u40 u41 u42 u43 u44 : Value), a' = { tmps := #[Value.string s, Value.int .i64 (n : Int), undef, undef, u4, u5, v, Value.int .i64 (at_ : Int), u8, u9, u10, u11, u12, u13, u14, u15, u16, u17, u18, u19, u20, u21, u22, u23, u24, u25, u26, u27, u28, u29, u30, u31, u32, u33, u34, u35, u36, u37, u38, u39, u40, u41, u42, u43, u44], defers := [] } ∧ RecSt w s n w' v ss at_) (fun a' _ => s.size + 1 - (intOf (a'.tmps.getD 7 undef)).toNat) rfl ?_ ?_
  · have hst0 : RecSt w s n w0 (.slice (some ⟨w.heap.size, 0, none⟩) 0 n) [] 0 := ⟨Nat.zero_le _, Nat.zero_le _, by simp, hown0, hB0⟩
    go_wp2
    go_step3
    obtain ⟨at_, ss, v, e1, e2, hst⟩ : ∃ (at_ : Nat) (ss : List ByteArray) (v : Value), Value.int IntKind.i64 0 = Value.int IntKind.i64 (at_ : Int) ∧ Value.slice (some ⟨w.heap.size, 0, none⟩) 0 n = v ∧ RecSt w s n w0 v ss at_ := ⟨0, [], _, rfl, rfl, hst0⟩
    rw [e1, e2]
    clear e1 e2 hst0 hmk hown0 hB0
    obtain ⟨hat, hlen, htk, hown, hB⟩ := hst
    have HTK : Hid (takeRecs n s.data.toList = (takeRecs (n - ss.length) (s.data.toList.drop at_)).map (fun x => (ss ++ x.1, x.2))) := htk
    obtain ⟨ao, cap, hv⟩ := owns_form hown
    subst hv
    clear htk
    by_cases hfull : ss.length = n
    · have hf : ((ss.length : Int) == (n : Int)) = true := by simp [hfull]
      have HF : Hid (ss.length = n) := hfull
      clear hfull
      by_cases hend : at_ = s.size
      · have he : ((at_ : Int) == (s.size : Int)) = true := by simp [hend]
        have HE : Hid (at_ = s.size) := hend
        clear hend
        go_wp2
        simp only [Exit.jump]
        go_ret2
        exact ⟨_, true, rfl, .inl ⟨rfl, ss, recs_done HTK.out HF.out HE.out, hown⟩, hB⟩
      · have he : ((at_ : Int) == (s.size : Int)) = false := by simp; omega
        have HE : Hid (¬ at_ = s.size) := hend
        clear hend
        go_wp2
        simp only [Exit.jump]
        go_ret2
        exact ⟨_, false, rfl, .inr ⟨rfl, recs_over HTK.out HF.out hat HE.out⟩, hB⟩
    · have hf : ((ss.length : Int) == (n : Int)) = false := by simp; omega
      have hlt : ss.length < n := by omega
      clear hfull
      by_cases hend : at_ = s.size
      · have he : ((at_ : Int) == (s.size : Int)) = true := by simp [hend]
        have HE : Hid (at_ = s.size) := hend
        clear hend
        go_wp2
        simp only [Exit.jump]
        go_ret2
        exact ⟨_, false, rfl, .inr ⟨rfl, recs_short HTK.out hlt HE.out⟩, hB⟩
      · have he : ((at_ : Int) == (s.size : Int)) = false := by simp; omega
        have hal : at_ < s.size := by omega
        clear hend
        have hb := s[at_].toNat_lt
        by_cases hbig : s.size < at_ + 1 + s[at_].toNat
        · have HW : Hid (takeRecs n s.data.toList = none) := recs_wide HTK.out hlt hal hbig
          go_wp2
          simp only [Exit.jump]
          go_ret2
          exact ⟨_, false, rfl, .inr ⟨rfl, by rw [HW.out]; intro rs h; cases h⟩, hB⟩
        · have HN := recs_next HTK.out hlt hal (by omega)
          obtain ⟨i0, hi, hz0, hz1, hz2⟩ := info_parts Tryd.infoString
          have hex := extract_eq s (at_ + 1) (at_ + 1 + s[at_].toNat)
          rw [show at_ + 1 + s[at_].toNat - (at_ + 1) = s[at_].toNat from by omega] at hex
          rw [← hex] at HN
          have HN2 : Hid (takeRecs n s.data.toList = (takeRecs (n - (ss ++ [s.extract (at_ + 1) (at_ + 1 + s[at_].toNat)]).length) (s.data.toList.drop (at_ + 1 + s[at_].toNat))).map (fun x => ((ss ++ [s.extract (at_ + 1) (at_ + 1 + s[at_].toNat)]) ++ x.1, x.2))) := HN
          have hxs : (s.extract (at_ + 1) (at_ + 1 + s[at_].toNat)).size ≤ 100000 := by rw [ByteArray.size_extract]; omega
          clear HN hex
          go_wp2_with fail
          refine (clone_any _ _ hxs).mono ?_
          rintro r w2 ⟨rfl, hB2⟩
          have hown2 := owns_below hown hB2
          have hB2' := hB.trans (hB2.mono hB.size)
          have hz' := hB2'.size
          generalize s.extract (at_ + 1) (at_ + 1 + s[at_].toNat) = y at *
          clear hown hB hB2
          go_wp2_with (at_builtin; refine wpList_append_own _ rfl _ _ 58 rfl w.heap.size 9 i0 (.string ByteArray.empty) 1 16 Tryd.underlying58 hi hz0 hz1 hz2 rfl (by decide) _ _ _ rfl (hown2.alloc _) ⟨w2.heap.size, 0, none⟩ 1 1 [.string y] rfl rfl ?c1 ?c2 ?c3 ?c4 ?c5 ?_)
          case c1 =>
            intro q u hq
            match q, hq with
            | 0, hq => simp at hq; subst hq; simp [Addr.add]
          case c2 => intro u hu; simp at hu; subst hu; rfl
          case c3 => unfold maxLen; omega
          case c4 => omega
          case c5 => simp; omega
          intro v3 w3 hown3 hgrow _
          have hB3 : Below w.heap.size w w3 := (hB2'.alloc hz' _).grown hgrow (by simp; omega) (fun q hq => ownBlock_ge hown2 hq)
          have hST : RecSt w s n w3 v3 (ss ++ [y]) (at_ + 1 + s[at_].toNat) := ⟨by omega, by simp; omega, HN2.out, by simpa [strVals] using hown3, hB3⟩
          clear hown2 hgrow hown3 hB2' hB3 HN2 HTK
          go_wp2
          go_step3
          exact ⟨rfl, v3, ss ++ [y], at_ + 1 + s[at_].toNat, _, _, _, _, _, _, _, _, _, _, _, _, _, _, _, _, _, _, _, _, _, _, _, _, _, _, _, _, _, _, _, _, _, _, _, _, _, _, _, rfl, hST⟩

  · rintro a' w' ⟨v, ss, at_, u4, u5, u8, u9, u10, u11, u12, u13, u14, u15, u16, u17, u18, u19, u20, u21, u22, u23, u24, u25, u26, u27, u28, u29, u30, u31, u32, u33, u34, u35, u36, u37, u38, u39, u40, u41, u42, u43, u44, rfl, hst⟩
    obtain ⟨hat, hlen, htk, hown, hB⟩ := hst
    have HTK : Hid (takeRecs n s.data.toList = (takeRecs (n - ss.length) (s.data.toList.drop at_)).map (fun x => (ss ++ x.1, x.2))) := htk
    obtain ⟨ao, cap, hv⟩ := owns_form hown
    subst hv
    clear htk
    by_cases hfull : ss.length = n
    · have hf : ((ss.length : Int) == (n : Int)) = true := by simp [hfull]
      have HF : Hid (ss.length = n) := hfull
      clear hfull
      by_cases hend : at_ = s.size
      · have he : ((at_ : Int) == (s.size : Int)) = true := by simp [hend]
        have HE : Hid (at_ = s.size) := hend
        clear hend
        go_wp2
        simp only [Exit.jump]
        go_ret2
        exact ⟨_, true, rfl, .inl ⟨rfl, ss, recs_done HTK.out HF.out HE.out, hown⟩, hB⟩
      · have he : ((at_ : Int) == (s.size : Int)) = false := by simp; omega
        have HE : Hid (¬ at_ = s.size) := hend
        clear hend
        go_wp2
        simp only [Exit.jump]
        go_ret2
        exact ⟨_, false, rfl, .inr ⟨rfl, recs_over HTK.out HF.out hat HE.out⟩, hB⟩
    · have hf : ((ss.length : Int) == (n : Int)) = false := by simp; omega
      have hlt : ss.length < n := by omega
      clear hfull
      by_cases hend : at_ = s.size
      · have he : ((at_ : Int) == (s.size : Int)) = true := by simp [hend]
        have HE : Hid (at_ = s.size) := hend
        clear hend
        go_wp2
        simp only [Exit.jump]
        go_ret2
        exact ⟨_, false, rfl, .inr ⟨rfl, recs_short HTK.out hlt HE.out⟩, hB⟩
      · have he : ((at_ : Int) == (s.size : Int)) = false := by simp; omega
        have hal : at_ < s.size := by omega
        clear hend
        have hb := s[at_].toNat_lt
        by_cases hbig : s.size < at_ + 1 + s[at_].toNat
        · have HW : Hid (takeRecs n s.data.toList = none) := recs_wide HTK.out hlt hal hbig
          go_wp2
          simp only [Exit.jump]
          go_ret2
          exact ⟨_, false, rfl, .inr ⟨rfl, by rw [HW.out]; intro rs h; cases h⟩, hB⟩
        · have HN := recs_next HTK.out hlt hal (by omega)
          obtain ⟨i0, hi, hz0, hz1, hz2⟩ := info_parts Tryd.infoString
          have hex := extract_eq s (at_ + 1) (at_ + 1 + s[at_].toNat)
          rw [show at_ + 1 + s[at_].toNat - (at_ + 1) = s[at_].toNat from by omega] at hex
          rw [← hex] at HN
          have HN2 : Hid (takeRecs n s.data.toList = (takeRecs (n - (ss ++ [s.extract (at_ + 1) (at_ + 1 + s[at_].toNat)]).length) (s.data.toList.drop (at_ + 1 + s[at_].toNat))).map (fun x => ((ss ++ [s.extract (at_ + 1) (at_ + 1 + s[at_].toNat)]) ++ x.1, x.2))) := HN
          have hxs : (s.extract (at_ + 1) (at_ + 1 + s[at_].toNat)).size ≤ 100000 := by rw [ByteArray.size_extract]; omega
          clear HN hex
          go_wp2_with fail
          refine (clone_any _ _ hxs).mono ?_
          rintro r w2 ⟨rfl, hB2⟩
          have hown2 := owns_below hown hB2
          have hB2' := hB.trans (hB2.mono hB.size)
          have hz' := hB2'.size
          generalize s.extract (at_ + 1) (at_ + 1 + s[at_].toNat) = y at *
          clear hown hB hB2
          go_wp2_with (at_builtin; refine wpList_append_own _ rfl _ _ 58 rfl w.heap.size 9 i0 (.string ByteArray.empty) 1 16 Tryd.underlying58 hi hz0 hz1 hz2 rfl (by decide) _ _ _ rfl (hown2.alloc _) ⟨w2.heap.size, 0, none⟩ 1 1 [.string y] rfl rfl ?c1 ?c2 ?c3 ?c4 ?c5 ?_)
          case c1 =>
            intro q u hq
            match q, hq with
            | 0, hq => simp at hq; subst hq; simp [Addr.add]
          case c2 => intro u hu; simp at hu; subst hu; rfl
          case c3 => unfold maxLen; omega
          case c4 => omega
          case c5 => simp; omega
          intro v3 w3 hown3 hgrow _
          have hB3 : Below w.heap.size w w3 := (hB2'.alloc hz' _).grown hgrow (by simp; omega) (fun q hq => ownBlock_ge hown2 hq)
          have hST : RecSt w s n w3 v3 (ss ++ [y]) (at_ + 1 + s[at_].toNat) := ⟨by omega, by simp; omega, HN2.out, by simpa [strVals] using hown3, hB3⟩
          clear hown2 hgrow hown3 hB2' hB3 HN2 HTK
          go_wp2
          go_step3
          refine ⟨rfl, ⟨v3, ss ++ [y], at_ + 1 + s[at_].toNat, _, _, _, _, _, _, _, _, _, _, _, _, _, _, _, _, _, _, _, _, _, _, _, _, _, _, _, _, _, _, _, _, _, _, _, _, _, _, _, rfl, hST⟩, ?_⟩
          simp [intOf]
          omega

end Go.Proofs.YtopndglgbollfaaDoor
