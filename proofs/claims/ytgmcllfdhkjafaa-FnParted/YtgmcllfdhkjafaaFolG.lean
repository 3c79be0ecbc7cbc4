/-
  Following at lists that may be nil and have room behind: spec.FollowBy and impl.FollowBy.
-/
import Derived.Test.YtgmcllfdhkjafaaFol
import Derived.Test.YtgmcllfdhkjafaaEpPartG
import Derived.Laws.AppendOwnNone
namespace Go.Proofs.Ytgmcllfdhkjafaa
open Go.RowKit

/-- append onto a row of the call's own, of nil or of cells that lie somewhere. -/
theorem append_any {P : Program} (w : World) {ops : Array Oper} {rest : List Oper} {o : Oper} {a : Act} {Q : Exit → Act → World → Prop} (hgd : o.guard = none) (s x : Operand) (t : TypeId)
    (ho : o.op = .call { callee := .builtin .append, args := #[s, x], argTypes := #[t, t] })
    (base : Nat) (e : TypeId) (i : TypeInfo) (z : Value) (size bytes : Nat) (ht : P.underlying t = some (.slice e)) (hi : P.info? e = some i) (hz : i.zero = some z)
    (hsize : i.size = size) (hby : i.bytes = bytes) (hzs : z.cells.size = size) (hsz : 0 < size)
    (v : Value) (n : Nat) (xs : List Value) (hs : a.eval s = v) (hown : w.ownsRow base e size v n xs)
    (sp : Option Addr) (m c : Nat) (news : List Value) (hx : a.eval x = .slice sp m c) (hsrc : (sp = none ∧ m = 0 ∧ (c = 0 ∧ news = []) ) ∨ ∃ ad, sp = some ad ∧ news.length = m * size ∧ ∀ j u, news[j]? = some u → w.cell? (ad.add j) = some u) (h1 : ∀ u ∈ news, u.oneCell' = true)
    (h63 : n + m ≤ maxLen) (hbytes : (n + m) * bytes ≤ 140737488355328) (hbase : base ≤ w.heap.size)
    (h : ∀ v' w', w'.ownsRow base e size v' (n + m) (xs ++ news) → w.grownBy w' v.ownBlock → wpList P ops Q rest (a.put o.dst v') w') : wpList P ops Q (o :: rest) a w := by
  rcases hsrc with ⟨rfl, rfl, rfl, rfl⟩ | ⟨ad, rfl, hl, hnews⟩
  · refine wpList_append_own_none hgd s x t ho base e i size ht hi v n xs hs hown hx (h v w (by simpa using hown) ⟨rfl, rfl, rfl, Nat.le_refl _, fun _ _ _ => rfl⟩)
  · exact wpList_append_own w hgd s x t ho base e i z size bytes ht hi hz hsize hby hzs hsz v n xs hs hown ad m c news hx hl hnews h1 h63 hbytes hbase (fun v' w' k1 k2 _ => h v' w' k1 k2)

set_option maxRecDepth 100000 in
set_option maxHeartbeats 2000000 in
theorem specFB_nn (w : World) (kL : goodE ([] : List Int) = true) (kF : goodE ([] : List Int) = true) :
    Calls Try.prog 11 #[.slice none 0 0, .slice none 0 0] w fun e w' => FoAns w (([] : List Int).take (matchL ([] : List Int) ([] : List Int)).1.toNat ++ ([] : List Int).drop (matchL ([] : List Int) ([] : List Int)).1.toNat) true e w' := by
  obtain ⟨i0, hi, hz0, hz1, hz2⟩ := info_parts Try.infoInt
  have hL : Ints w none [] := Ints.nil _ _
  have hF : Ints w none [] := Ints.nil _ _
  have nL := (goodE_t.1 kL).1
  have nF := (goodE_t.1 kF).1
  have hbd := matchL_bd kL kF
  obtain ⟨n, hn⟩ := Int.eq_ofNat_of_zero_le hbd.1
  rw [hn] at hbd
  have HN : Hid ((matchL ([] : List Int) ([] : List Int)).1 = (n : Int)) := hn
  have b1 : n ≤ ([] : List Int).length := by omega
  have b2 : n ≤ ([] : List Int).length := by omega
  rw [hn, Int.toNat_natCast]
  have GL : Hid (goodE ([] : List Int) = true) := kL
  have GF : Hid (goodE ([] : List Int) = true) := kF
  clear kL kF hn hbd
  obtain rfl : n = 0 := by simpa using b1
  go_enter Try.func11, Try.ntmps11
  go_wp2_with fail
  refine (specGoodE_any _ _ ([] : List Int) _ hL (by unfold maxLen; omega)).mono ?_
  rintro r w1 ⟨hr, hw1⟩
  rw [GL.out] at hr; subst hr
  rw [hw1]
  clear hw1 w1
  go_wp2_with fail
  refine (specGoodE_any _ _ ([] : List Int) _ hF (by unfold maxLen; omega)).mono ?_
  rintro r w2 ⟨hr, hw2⟩
  rw [GF.out] at hr; subst hr
  rw [hw2]
  clear hw2 w2
  go_wp2_with fail
  refine (l4Match_any _ _ _ _ ([] : List Int) ([] : List Int) _ hL hF GL.out GF.out).mono ?_
  rintro r w3 ⟨hr, hB3⟩
  rw [HN.out] at hr; subst hr
  have HL3 := hL.below hB3
  have HF3 := hF.below hB3
  clear hL hF
  have hl3 := hB3.size
  have ha : ∀ (u : World) o, Below u.heap.size u (u.alloc o) := fun u o => (Below.refl _ _).alloc (Nat.le_refl _) o
  go_wp2_with (at_builtin; refine append_any _ rfl _ _ 23 rfl w3.heap.size 3 i0 (.int .i64 0) 1 8 Try.underlying23 hi hz0 hz1 hz2 rfl (by decide) _ 0 [] rfl (World.ownsRow_made w3 #[] 0 (Nat.le_refl _) (by unfold maxLen; omega) rfl) none 0 0 [] rfl (.inl ⟨rfl, rfl, rfl, rfl⟩) (fun u h => by simp at h) ?d3 ?d4 ?d5 ?_)
  case d3 => unfold maxLen; omega
  case d4 => omega
  case d5 => simp
  intro v4 w4 hown4 hgrow4
  have B4 : Below w3.heap.size w3 w4 := (ha w3 _).grown hgrow4 (by simp) (fun k hk => by simp [Value.ownBlock] at hk; omega)
  have own4 : w4.ownsRow w3.heap.size 3 1 v4 0 (zCells (([] : List Int).take 0)) := by first | exact hown4 | simpa using hown4
  clear hown4
  obtain ⟨a4, c4, rfl⟩ := ownsM_form own4
  have HL4 := HL3.below B4
  have BB := hB3.trans (B4.mono hB3.size)
  have hl4 := B4.size
  clear hgrow4 B4 HF3 HL3 hB3
  go_wp2_with (at_builtin; refine append_any _ rfl _ _ 23 rfl w3.heap.size 3 i0 (.int .i64 0) 1 8 Try.underlying23 hi hz0 hz1 hz2 rfl (by decide) _ 0 (zCells (([] : List Int).take 0)) rfl own4 none 0 0 [] rfl (.inl ⟨rfl, rfl, rfl, rfl⟩) (fun u h => by simp at h) ?e3 ?e4 ?e5 ?_)
  case e3 => unfold maxLen; omega
  case e4 => omega
  case e5 => omega
  intro v5 w5 hown5 hgrow5
  have B5 := BB.grown hgrow5 (by have := BB.size; omega) (fun k hk => Nat.le_trans hl3 (own4.lt k hk).1)
  have HE : Hid (w5.ownsRow w.heap.size 3 1 v5 (([] : List Int).take 0 ++ ([] : List Int).drop 0).length (zCells (([] : List Int).take 0 ++ ([] : List Int).drop 0))) := by
    have e1 : ([] : List Int).drop 0 = [] := by simp
    have e2 : (([] : List Int).take 0 ++ ([] : List Int).drop 0).length = 0 + (0) := by rw [e1, List.length_append, List.length_take, Nat.min_eq_left (by omega)]; simp
    show w5.ownsRow _ _ _ _ _ _
    rw [e2, zCells_app, e1]
    refine ownsM_mono ?_ hl3
    first | exact hown5 | (rw [show 0 + (0) = ([] : List Int).length from by omega]; exact hown5) | simpa [zCells] using hown5
  clear hown5 hgrow5 own4 HL4
  go_wp2
  go_ret2
  exact ⟨_, rfl, HE.out, B5⟩

set_option maxRecDepth 100000 in
set_option maxHeartbeats 2000000 in
theorem specFB_ns (gF CF : Nat) (f : List Int) (w : World) (hF : Ints w (some ⟨gF, 0, none⟩) f) (_hCF : f.length ≤ CF) (kL : goodE ([] : List Int) = true) (kF : goodE f = true) :
    Calls Try.prog 11 #[.slice none 0 0, .slice (some ⟨gF, 0, none⟩) f.length CF] w fun e w' => FoAns w (f.take (matchL ([] : List Int) f).1.toNat ++ ([] : List Int).drop (matchL ([] : List Int) f).1.toNat) true e w' := by
  obtain ⟨i0, hi, hz0, hz1, hz2⟩ := info_parts Try.infoInt
  have hL : Ints w none [] := Ints.nil _ _
  have nL := (goodE_t.1 kL).1
  have nF := (goodE_t.1 kF).1
  have hbd := matchL_bd kL kF
  obtain ⟨n, hn⟩ := Int.eq_ofNat_of_zero_le hbd.1
  rw [hn] at hbd
  have HN : Hid ((matchL ([] : List Int) f).1 = (n : Int)) := hn
  have b1 : n ≤ ([] : List Int).length := by omega
  have b2 : n ≤ f.length := by omega
  rw [hn, Int.toNat_natCast]
  have GL : Hid (goodE ([] : List Int) = true) := kL
  have GF : Hid (goodE f = true) := kF
  clear kL kF hn hbd
  obtain rfl : n = 0 := by simpa using b1
  have c2 : (0 : Int) ≤ (CF : Int) := by omega
  go_enter Try.func11, Try.ntmps11
  go_wp2_with fail
  refine (specGoodE_any _ _ ([] : List Int) _ hL (by unfold maxLen; omega)).mono ?_
  rintro r w1 ⟨hr, hw1⟩
  rw [GL.out] at hr; subst hr
  rw [hw1]
  clear hw1 w1
  go_wp2_with fail
  refine (specGoodE_any _ _ f _ hF (by unfold maxLen; omega)).mono ?_
  rintro r w2 ⟨hr, hw2⟩
  rw [GF.out] at hr; subst hr
  rw [hw2]
  clear hw2 w2
  go_wp2_with fail
  refine (l4Match_any _ _ _ _ ([] : List Int) f _ hL hF GL.out GF.out).mono ?_
  rintro r w3 ⟨hr, hB3⟩
  rw [HN.out] at hr; subst hr
  have HL3 := hL.below hB3
  have HF3 := hF.below hB3
  clear hL hF
  have hl3 := hB3.size
  have ha : ∀ (u : World) o, Below u.heap.size u (u.alloc o) := fun u o => (Below.refl _ _).alloc (Nat.le_refl _) o
  go_wp2_with (at_builtin; refine append_any _ rfl _ _ 23 rfl w3.heap.size 3 i0 (.int .i64 0) 1 8 Try.underlying23 hi hz0 hz1 hz2 rfl (by decide) _ 0 [] rfl (World.ownsRow_made w3 #[] 0 (Nat.le_refl _) (by unfold maxLen; omega) rfl) (some ⟨gF, 0, none⟩) 0 CF (zCells (f.take 0)) rfl (.inr ⟨_, rfl, by rw [zCells_len, List.length_take, Nat.min_eq_left (by omega)], news_take (HF3.below (ha _ _))⟩) (zCells_one _) ?d3 ?d4 ?d5 ?_)
  case d3 => unfold maxLen; omega
  case d4 => omega
  case d5 => simp
  intro v4 w4 hown4 hgrow4
  have B4 : Below w3.heap.size w3 w4 := (ha w3 _).grown hgrow4 (by simp) (fun k hk => by simp [Value.ownBlock] at hk; omega)
  have own4 : w4.ownsRow w3.heap.size 3 1 v4 0 (zCells (f.take 0)) := by first | exact hown4 | simpa using hown4
  clear hown4
  obtain ⟨a4, c4, rfl⟩ := ownsM_form own4
  have HL4 := HL3.below B4
  have BB := hB3.trans (B4.mono hB3.size)
  have hl4 := B4.size
  clear hgrow4 B4 HF3 HL3 hB3
  go_wp2_with (at_builtin; refine append_any _ rfl _ _ 23 rfl w3.heap.size 3 i0 (.int .i64 0) 1 8 Try.underlying23 hi hz0 hz1 hz2 rfl (by decide) _ 0 (zCells (f.take 0)) rfl own4 none 0 0 [] rfl (.inl ⟨rfl, rfl, rfl, rfl⟩) (fun u h => by simp at h) ?e3 ?e4 ?e5 ?_)
  case e3 => unfold maxLen; omega
  case e4 => omega
  case e5 => omega
  intro v5 w5 hown5 hgrow5
  have B5 := BB.grown hgrow5 (by have := BB.size; omega) (fun k hk => Nat.le_trans hl3 (own4.lt k hk).1)
  have HE : Hid (w5.ownsRow w.heap.size 3 1 v5 (f.take 0 ++ ([] : List Int).drop 0).length (zCells (f.take 0 ++ ([] : List Int).drop 0))) := by
    have e1 : ([] : List Int).drop 0 = [] := by simp
    have e2 : (f.take 0 ++ ([] : List Int).drop 0).length = 0 + (0) := by rw [e1, List.length_append, List.length_take, Nat.min_eq_left (by omega)]; simp
    show w5.ownsRow _ _ _ _ _ _
    rw [e2, zCells_app, e1]
    refine ownsM_mono ?_ hl3
    first | exact hown5 | (rw [show 0 + (0) = ([] : List Int).length from by omega]; exact hown5) | simpa [zCells] using hown5
  clear hown5 hgrow5 own4 HL4
  go_wp2
  go_ret2
  exact ⟨_, rfl, HE.out, B5⟩

set_option maxRecDepth 100000 in
set_option maxHeartbeats 2000000 in
theorem specFB_sn (gL CL : Nat) (L : List Int) (w : World) (hL : Ints w (some ⟨gL, 0, none⟩) L) (_hCL : L.length ≤ CL) (kL : goodE L = true) (kF : goodE ([] : List Int) = true) :
    Calls Try.prog 11 #[.slice (some ⟨gL, 0, none⟩) L.length CL, .slice none 0 0] w fun e w' => FoAns w (([] : List Int).take (matchL L ([] : List Int)).1.toNat ++ L.drop (matchL L ([] : List Int)).1.toNat) true e w' := by
  obtain ⟨i0, hi, hz0, hz1, hz2⟩ := info_parts Try.infoInt
  have hF : Ints w none [] := Ints.nil _ _
  have nL := (goodE_t.1 kL).1
  have nF := (goodE_t.1 kF).1
  have hbd := matchL_bd kL kF
  obtain ⟨n, hn⟩ := Int.eq_ofNat_of_zero_le hbd.1
  rw [hn] at hbd
  have HN : Hid ((matchL L ([] : List Int)).1 = (n : Int)) := hn
  have b1 : n ≤ L.length := by omega
  have b2 : n ≤ ([] : List Int).length := by omega
  rw [hn, Int.toNat_natCast]
  have GL : Hid (goodE L = true) := kL
  have GF : Hid (goodE ([] : List Int) = true) := kF
  clear kL kF hn hbd
  obtain rfl : n = 0 := by simpa using b2
  have c1 : (0 : Int) ≤ (CL : Int) := by omega
  have c1' : (0 : Int) ≤ (L.length : Int) := by omega
  go_enter Try.func11, Try.ntmps11
  go_wp2_with fail
  refine (specGoodE_any _ _ L _ hL (by unfold maxLen; omega)).mono ?_
  rintro r w1 ⟨hr, hw1⟩
  rw [GL.out] at hr; subst hr
  rw [hw1]
  clear hw1 w1
  go_wp2_with fail
  refine (specGoodE_any _ _ ([] : List Int) _ hF (by unfold maxLen; omega)).mono ?_
  rintro r w2 ⟨hr, hw2⟩
  rw [GF.out] at hr; subst hr
  rw [hw2]
  clear hw2 w2
  go_wp2_with fail
  refine (l4Match_any _ _ _ _ L ([] : List Int) _ hL hF GL.out GF.out).mono ?_
  rintro r w3 ⟨hr, hB3⟩
  rw [HN.out] at hr; subst hr
  have HL3 := hL.below hB3
  have HF3 := hF.below hB3
  clear hL hF
  have hl3 := hB3.size
  have ha : ∀ (u : World) o, Below u.heap.size u (u.alloc o) := fun u o => (Below.refl _ _).alloc (Nat.le_refl _) o
  go_wp2_with (at_builtin; refine append_any _ rfl _ _ 23 rfl w3.heap.size 3 i0 (.int .i64 0) 1 8 Try.underlying23 hi hz0 hz1 hz2 rfl (by decide) _ 0 [] rfl (World.ownsRow_made w3 #[] 0 (Nat.le_refl _) (by unfold maxLen; omega) rfl) none 0 0 [] rfl (.inl ⟨rfl, rfl, rfl, rfl⟩) (fun u h => by simp at h) ?d3 ?d4 ?d5 ?_)
  case d3 => unfold maxLen; omega
  case d4 => omega
  case d5 => simp
  intro v4 w4 hown4 hgrow4
  have B4 : Below w3.heap.size w3 w4 := (ha w3 _).grown hgrow4 (by simp) (fun k hk => by simp [Value.ownBlock] at hk; omega)
  have own4 : w4.ownsRow w3.heap.size 3 1 v4 0 (zCells (([] : List Int).take 0)) := by first | exact hown4 | simpa using hown4
  clear hown4
  obtain ⟨a4, c4, rfl⟩ := ownsM_form own4
  have HL4 := HL3.below B4
  have BB := hB3.trans (B4.mono hB3.size)
  have hl4 := B4.size
  clear hgrow4 B4 HF3 HL3 hB3
  by_cases hlast : CL = 0
  · subst hlast
    have hLn : L.length = 0 := by omega
    go_wp2_with (at_builtin; refine append_any _ rfl _ _ 23 rfl w3.heap.size 3 i0 (.int .i64 0) 1 8 Try.underlying23 hi hz0 hz1 hz2 rfl (by decide) _ 0 (zCells (([] : List Int).take 0)) rfl own4 (some ⟨gL, 0, none⟩) 0 0 [] rfl (.inr ⟨_, rfl, rfl, fun j u h => by simp at h⟩) (fun u h => by simp at h) ?e3 ?e4 ?e5 ?_)
    case e3 => unfold maxLen; omega
    case e4 => omega
    case e5 => omega
    intro v5 w5 hown5 hgrow5
    have B5 := BB.grown hgrow5 (by have := BB.size; omega) (fun k hk => Nat.le_trans hl3 (own4.lt k hk).1)
    have HE : Hid (w5.ownsRow w.heap.size 3 1 v5 (([] : List Int).take 0 ++ L.drop 0).length (zCells (([] : List Int).take 0 ++ L.drop 0))) := by
      have e1 : L.drop 0 = [] := by exact List.drop_eq_nil_of_le (by omega)
      have e2 : (([] : List Int).take 0 ++ L.drop 0).length = 0 + (0) := by rw [e1, List.length_append, List.length_take, Nat.min_eq_left (by omega)]; simp
      show w5.ownsRow _ _ _ _ _ _
      rw [e2, zCells_app, e1]
      refine ownsM_mono ?_ hl3
      first | exact hown5 | (rw [show 0 + (0) = L.length from by omega]; exact hown5) | simpa [zCells] using hown5
    clear hown5 hgrow5 own4 HL4
    go_wp2
    go_ret2
    exact ⟨_, rfl, HE.out, B5⟩
  · have hlt : 0 < CL := by omega
    have c3 : (0 : Int) < (CL : Int) := by omega
    have hne : ¬ (CL = 0) := hlast
    have hne2 : ¬ (CL - 0 = 0) := by omega
    go_wp2_with (at_builtin; refine append_any _ rfl _ _ 23 rfl w3.heap.size 3 i0 (.int .i64 0) 1 8 Try.underlying23 hi hz0 hz1 hz2 rfl (by decide) _ 0 (zCells (([] : List Int).take 0)) rfl own4 (some ⟨gL, 0, none⟩) (L.length - 0) (CL - 0) (zCells (L.drop 0)) rfl (.inr ⟨_, rfl, by rw [zCells_len, List.length_drop], news_drop HL4⟩) (zCells_one _) ?e3 ?e4 ?e5 ?_)
    case e3 => unfold maxLen; omega
    case e4 => omega
    case e5 => omega
    intro v5 w5 hown5 hgrow5
    have B5 := BB.grown hgrow5 (by have := BB.size; omega) (fun k hk => Nat.le_trans hl3 (own4.lt k hk).1)
    have HE : Hid (w5.ownsRow w.heap.size 3 1 v5 (([] : List Int).take 0 ++ L.drop 0).length (zCells (([] : List Int).take 0 ++ L.drop 0))) := by
      have e1 : L.drop 0 = L.drop 0 := by rfl
      have e2 : (([] : List Int).take 0 ++ L.drop 0).length = 0 + (L.length - 0) := by rw [e1, List.length_append, List.length_take, Nat.min_eq_left (by omega)]; rw [List.length_drop]
      show w5.ownsRow _ _ _ _ _ _
      rw [e2, zCells_app, e1]
      refine ownsM_mono ?_ hl3
      first | exact hown5 | (rw [show 0 + (L.length - 0) = L.length from by omega]; exact hown5) | simpa [zCells] using hown5
    clear hown5 hgrow5 own4 HL4
    go_wp2
    go_ret2
    exact ⟨_, rfl, HE.out, B5⟩

set_option maxRecDepth 100000 in
set_option maxHeartbeats 2000000 in
theorem specFB_ss (gL CL : Nat) (L : List Int) (gF CF : Nat) (f : List Int) (w : World) (hL : Ints w (some ⟨gL, 0, none⟩) L) (_hCL : L.length ≤ CL) (hF : Ints w (some ⟨gF, 0, none⟩) f) (_hCF : f.length ≤ CF) (kL : goodE L = true) (kF : goodE f = true) :
    Calls Try.prog 11 #[.slice (some ⟨gL, 0, none⟩) L.length CL, .slice (some ⟨gF, 0, none⟩) f.length CF] w fun e w' => FoAns w (f.take (matchL L f).1.toNat ++ L.drop (matchL L f).1.toNat) true e w' := by
  obtain ⟨i0, hi, hz0, hz1, hz2⟩ := info_parts Try.infoInt
  have nL := (goodE_t.1 kL).1
  have nF := (goodE_t.1 kF).1
  have hbd := matchL_bd kL kF
  obtain ⟨n, hn⟩ := Int.eq_ofNat_of_zero_le hbd.1
  rw [hn] at hbd
  have HN : Hid ((matchL L f).1 = (n : Int)) := hn
  have b1 : n ≤ L.length := by omega
  have b2 : n ≤ f.length := by omega
  rw [hn, Int.toNat_natCast]
  have GL : Hid (goodE L = true) := kL
  have GF : Hid (goodE f = true) := kF
  clear kL kF hn hbd
  have c1 : (n : Int) ≤ (CL : Int) := by omega
  have c1' : (n : Int) ≤ (L.length : Int) := by omega
  have c2 : (n : Int) ≤ (CF : Int) := by omega
  go_enter Try.func11, Try.ntmps11
  go_wp2_with fail
  refine (specGoodE_any _ _ L _ hL (by unfold maxLen; omega)).mono ?_
  rintro r w1 ⟨hr, hw1⟩
  rw [GL.out] at hr; subst hr
  rw [hw1]
  clear hw1 w1
  go_wp2_with fail
  refine (specGoodE_any _ _ f _ hF (by unfold maxLen; omega)).mono ?_
  rintro r w2 ⟨hr, hw2⟩
  rw [GF.out] at hr; subst hr
  rw [hw2]
  clear hw2 w2
  go_wp2_with fail
  refine (l4Match_any _ _ _ _ L f _ hL hF GL.out GF.out).mono ?_
  rintro r w3 ⟨hr, hB3⟩
  rw [HN.out] at hr; subst hr
  have HL3 := hL.below hB3
  have HF3 := hF.below hB3
  clear hL hF
  have hl3 := hB3.size
  have ha : ∀ (u : World) o, Below u.heap.size u (u.alloc o) := fun u o => (Below.refl _ _).alloc (Nat.le_refl _) o
  go_wp2_with (at_builtin; refine append_any _ rfl _ _ 23 rfl w3.heap.size 3 i0 (.int .i64 0) 1 8 Try.underlying23 hi hz0 hz1 hz2 rfl (by decide) _ 0 [] rfl (World.ownsRow_made w3 #[] 0 (Nat.le_refl _) (by unfold maxLen; omega) rfl) (some ⟨gF, 0, none⟩) n CF (zCells (f.take n)) rfl (.inr ⟨_, rfl, by rw [zCells_len, List.length_take, Nat.min_eq_left (by omega)], news_take (HF3.below (ha _ _))⟩) (zCells_one _) ?d3 ?d4 ?d5 ?_)
  case d3 => unfold maxLen; omega
  case d4 => omega
  case d5 => simp
  intro v4 w4 hown4 hgrow4
  have B4 : Below w3.heap.size w3 w4 := (ha w3 _).grown hgrow4 (by simp) (fun k hk => by simp [Value.ownBlock] at hk; omega)
  have own4 : w4.ownsRow w3.heap.size 3 1 v4 n (zCells (f.take n)) := by first | exact hown4 | simpa using hown4
  clear hown4
  obtain ⟨a4, c4, rfl⟩ := ownsM_form own4
  have HL4 := HL3.below B4
  have BB := hB3.trans (B4.mono hB3.size)
  have hl4 := B4.size
  clear hgrow4 B4 HF3 HL3 hB3
  by_cases hlast : CL = n
  · subst hlast
    have hLn : L.length = CL := by omega
    go_wp2_with (at_builtin; refine append_any _ rfl _ _ 23 rfl w3.heap.size 3 i0 (.int .i64 0) 1 8 Try.underlying23 hi hz0 hz1 hz2 rfl (by decide) _ CL (zCells (f.take CL)) rfl own4 (some ⟨gL, 0, none⟩) 0 0 [] rfl (.inr ⟨_, rfl, rfl, fun j u h => by simp at h⟩) (fun u h => by simp at h) ?e3 ?e4 ?e5 ?_)
    case e3 => unfold maxLen; omega
    case e4 => omega
    case e5 => omega
    intro v5 w5 hown5 hgrow5
    have B5 := BB.grown hgrow5 (by have := BB.size; omega) (fun k hk => Nat.le_trans hl3 (own4.lt k hk).1)
    have HE : Hid (w5.ownsRow w.heap.size 3 1 v5 (f.take CL ++ L.drop CL).length (zCells (f.take CL ++ L.drop CL))) := by
      have e1 : L.drop CL = [] := by exact List.drop_eq_nil_of_le (by omega)
      have e2 : (f.take CL ++ L.drop CL).length = CL + (0) := by rw [e1, List.length_append, List.length_take, Nat.min_eq_left (by omega)]; simp
      show w5.ownsRow _ _ _ _ _ _
      rw [e2, zCells_app, e1]
      refine ownsM_mono ?_ hl3
      first | exact hown5 | (rw [show n + (0) = L.length from by omega]; exact hown5) | simpa [zCells] using hown5
    clear hown5 hgrow5 own4 HL4
    go_wp2
    go_ret2
    exact ⟨_, rfl, HE.out, B5⟩
  · have hlt : n < CL := by omega
    have c3 : (n : Int) < (CL : Int) := by omega
    have hne : ¬ (CL = n) := hlast
    have hne2 : ¬ (CL - n = 0) := by omega
    go_wp2_with (at_builtin; refine append_any _ rfl _ _ 23 rfl w3.heap.size 3 i0 (.int .i64 0) 1 8 Try.underlying23 hi hz0 hz1 hz2 rfl (by decide) _ n (zCells (f.take n)) rfl own4 (some ⟨gL, n, none⟩) (L.length - n) (CL - n) (zCells (L.drop n)) rfl (.inr ⟨_, rfl, by rw [zCells_len, List.length_drop], news_drop HL4⟩) (zCells_one _) ?e3 ?e4 ?e5 ?_)
    case e3 => unfold maxLen; omega
    case e4 => omega
    case e5 => omega
    intro v5 w5 hown5 hgrow5
    have B5 := BB.grown hgrow5 (by have := BB.size; omega) (fun k hk => Nat.le_trans hl3 (own4.lt k hk).1)
    have HE : Hid (w5.ownsRow w.heap.size 3 1 v5 (f.take n ++ L.drop n).length (zCells (f.take n ++ L.drop n))) := by
      have e1 : L.drop n = L.drop n := by rfl
      have e2 : (f.take n ++ L.drop n).length = n + (L.length - n) := by rw [e1, List.length_append, List.length_take, Nat.min_eq_left (by omega)]; rw [List.length_drop]
      show w5.ownsRow _ _ _ _ _ _
      rw [e2, zCells_app, e1]
      refine ownsM_mono ?_ hl3
      first | exact hown5 | (rw [show n + (L.length - n) = L.length from by omega]; exact hown5) | simpa [zCells] using hown5
    clear hown5 hgrow5 own4 HL4
    go_wp2
    go_ret2
    exact ⟨_, rfl, HE.out, B5⟩

set_option maxRecDepth 100000 in
set_option maxHeartbeats 2000000 in
theorem implFB_nn (w : World) (kL : goodE ([] : List Int) = true) (kF : goodE ([] : List Int) = true) :
    Calls Try.prog 10 #[.slice none 0 0, .slice none 0 0] w fun e w' => FoAns w (([] : List Int).take (matchL ([] : List Int) ([] : List Int)).1.toNat ++ ([] : List Int).drop (matchL ([] : List Int) ([] : List Int)).1.toNat) true e w' := by
  obtain ⟨i0, hi, hz0, hz1, hz2⟩ := info_parts Try.infoInt
  have hL : Ints w none [] := Ints.nil _ _
  have hF : Ints w none [] := Ints.nil _ _
  have nL := (goodE_t.1 kL).1
  have nF := (goodE_t.1 kF).1
  have hbd := matchL_bd kL kF
  obtain ⟨n, hn⟩ := Int.eq_ofNat_of_zero_le hbd.1
  rw [hn] at hbd
  have HN : Hid ((matchL ([] : List Int) ([] : List Int)).1 = (n : Int)) := hn
  have b1 : n ≤ ([] : List Int).length := by omega
  have b2 : n ≤ ([] : List Int).length := by omega
  rw [hn, Int.toNat_natCast]
  have GL : Hid (goodE ([] : List Int) = true) := kL
  have GF : Hid (goodE ([] : List Int) = true) := kF
  clear kL kF hn hbd
  obtain rfl : n = 0 := by simpa using b1
  have hmk : ∀ w : World, (Instr.makeSlice 23 (.int .i64 0) (.int .i64 0)).run Try.prog w = .ok (.slice (some ⟨w.heap.size, 0, none⟩) 0 0) (w.alloc (.cells (madeCells #[Value.int .i64 0] 0) 3)) := run_make_cap 0 (by omega)
  go_enter Try.func10, Try.ntmps10
  go_wp2_with fail
  refine (implMB_any _ _ _ _ ([] : List Int) ([] : List Int) _ hL hF (by unfold maxLen; omega) (by unfold maxLen; omega)).mono ?_
  rintro r w3 ⟨hr, hB3⟩
  rw [mbR_yes GL.out GF.out, HN.out] at hr; simp only [eeV] at hr; subst hr
  have HL3 := hL.below hB3
  have HF3 := hF.below hB3
  clear hL hF
  have hl3 := hB3.size
  have ha : ∀ (u : World) o, Below u.heap.size u (u.alloc o) := fun u o => (Below.refl _ _).alloc (Nat.le_refl _) o
  go_wp2_with (at_builtin; refine append_any _ rfl _ _ 23 rfl w3.heap.size 3 i0 (.int .i64 0) 1 8 Try.underlying23 hi hz0 hz1 hz2 rfl (by decide) _ 0 [] rfl (World.ownsRow_made w3 _ 0 (Nat.le_refl _) (by unfold maxLen; omega) (by simp [size_madeCells])) none 0 0 [] rfl (.inl ⟨rfl, rfl, rfl, rfl⟩) (fun u h => by simp at h) ?d3 ?d4 ?d5 ?_)
  case d3 => unfold maxLen; omega
  case d4 => omega
  case d5 => simp
  intro v4 w4 hown4 hgrow4
  have B4 : Below w3.heap.size w3 w4 := (ha w3 _).grown hgrow4 (by simp) (fun k hk => by simp [Value.ownBlock] at hk; omega)
  have own4 : w4.ownsRow w3.heap.size 3 1 v4 0 (zCells (([] : List Int).take 0)) := by first | exact hown4 | simpa using hown4
  clear hown4
  obtain ⟨a4, c4, rfl⟩ := ownsM_form own4
  have HL4 := HL3.below B4
  have BB := hB3.trans (B4.mono hB3.size)
  have hl4 := B4.size
  clear hgrow4 B4 HF3 HL3 hB3
  go_wp2_with (at_builtin; refine append_any _ rfl _ _ 23 rfl w3.heap.size 3 i0 (.int .i64 0) 1 8 Try.underlying23 hi hz0 hz1 hz2 rfl (by decide) _ 0 (zCells (([] : List Int).take 0)) rfl own4 none 0 0 [] rfl (.inl ⟨rfl, rfl, rfl, rfl⟩) (fun u h => by simp at h) ?e3 ?e4 ?e5 ?_)
  case e3 => unfold maxLen; omega
  case e4 => omega
  case e5 => omega
  intro v5 w5 hown5 hgrow5
  have B5 := BB.grown hgrow5 (by have := BB.size; omega) (fun k hk => Nat.le_trans hl3 (own4.lt k hk).1)
  have HE : Hid (w5.ownsRow w.heap.size 3 1 v5 (([] : List Int).take 0 ++ ([] : List Int).drop 0).length (zCells (([] : List Int).take 0 ++ ([] : List Int).drop 0))) := by
    have e1 : ([] : List Int).drop 0 = [] := by simp
    have e2 : (([] : List Int).take 0 ++ ([] : List Int).drop 0).length = 0 + (0) := by rw [e1, List.length_append, List.length_take, Nat.min_eq_left (by omega)]; simp
    show w5.ownsRow _ _ _ _ _ _
    rw [e2, zCells_app, e1]
    refine ownsM_mono ?_ hl3
    first | exact hown5 | (rw [show 0 + (0) = ([] : List Int).length from by omega]; exact hown5) | simpa [zCells] using hown5
  clear hown5 hgrow5 own4 HL4
  go_wp2
  go_ret2
  exact ⟨_, rfl, HE.out, B5⟩

set_option maxRecDepth 100000 in
set_option maxHeartbeats 2000000 in
theorem implFB_ns (gF CF : Nat) (f : List Int) (w : World) (hF : Ints w (some ⟨gF, 0, none⟩) f) (_hCF : f.length ≤ CF) (kL : goodE ([] : List Int) = true) (kF : goodE f = true) :
    Calls Try.prog 10 #[.slice none 0 0, .slice (some ⟨gF, 0, none⟩) f.length CF] w fun e w' => FoAns w (f.take (matchL ([] : List Int) f).1.toNat ++ ([] : List Int).drop (matchL ([] : List Int) f).1.toNat) true e w' := by
  obtain ⟨i0, hi, hz0, hz1, hz2⟩ := info_parts Try.infoInt
  have hL : Ints w none [] := Ints.nil _ _
  have nL := (goodE_t.1 kL).1
  have nF := (goodE_t.1 kF).1
  have hbd := matchL_bd kL kF
  obtain ⟨n, hn⟩ := Int.eq_ofNat_of_zero_le hbd.1
  rw [hn] at hbd
  have HN : Hid ((matchL ([] : List Int) f).1 = (n : Int)) := hn
  have b1 : n ≤ ([] : List Int).length := by omega
  have b2 : n ≤ f.length := by omega
  rw [hn, Int.toNat_natCast]
  have GL : Hid (goodE ([] : List Int) = true) := kL
  have GF : Hid (goodE f = true) := kF
  clear kL kF hn hbd
  obtain rfl : n = 0 := by simpa using b1
  have c2 : (0 : Int) ≤ (CF : Int) := by omega
  have hmk : ∀ w : World, (Instr.makeSlice 23 (.int .i64 0) (.int .i64 0)).run Try.prog w = .ok (.slice (some ⟨w.heap.size, 0, none⟩) 0 0) (w.alloc (.cells (madeCells #[Value.int .i64 0] 0) 3)) := run_make_cap 0 (by omega)
  go_enter Try.func10, Try.ntmps10
  go_wp2_with fail
  refine (implMB_any _ _ _ _ ([] : List Int) f _ hL hF (by unfold maxLen; omega) (by unfold maxLen; omega)).mono ?_
  rintro r w3 ⟨hr, hB3⟩
  rw [mbR_yes GL.out GF.out, HN.out] at hr; simp only [eeV] at hr; subst hr
  have HL3 := hL.below hB3
  have HF3 := hF.below hB3
  clear hL hF
  have hl3 := hB3.size
  have ha : ∀ (u : World) o, Below u.heap.size u (u.alloc o) := fun u o => (Below.refl _ _).alloc (Nat.le_refl _) o
  go_wp2_with (at_builtin; refine append_any _ rfl _ _ 23 rfl w3.heap.size 3 i0 (.int .i64 0) 1 8 Try.underlying23 hi hz0 hz1 hz2 rfl (by decide) _ 0 [] rfl (World.ownsRow_made w3 _ 0 (Nat.le_refl _) (by unfold maxLen; omega) (by simp [size_madeCells])) (some ⟨gF, 0, none⟩) 0 CF (zCells (f.take 0)) rfl (.inr ⟨_, rfl, by rw [zCells_len, List.length_take, Nat.min_eq_left (by omega)], news_take (HF3.below (ha _ _))⟩) (zCells_one _) ?d3 ?d4 ?d5 ?_)
  case d3 => unfold maxLen; omega
  case d4 => omega
  case d5 => simp
  intro v4 w4 hown4 hgrow4
  have B4 : Below w3.heap.size w3 w4 := (ha w3 _).grown hgrow4 (by simp) (fun k hk => by simp [Value.ownBlock] at hk; omega)
  have own4 : w4.ownsRow w3.heap.size 3 1 v4 0 (zCells (f.take 0)) := by first | exact hown4 | simpa using hown4
  clear hown4
  obtain ⟨a4, c4, rfl⟩ := ownsM_form own4
  have HL4 := HL3.below B4
  have BB := hB3.trans (B4.mono hB3.size)
  have hl4 := B4.size
  clear hgrow4 B4 HF3 HL3 hB3
  go_wp2_with (at_builtin; refine append_any _ rfl _ _ 23 rfl w3.heap.size 3 i0 (.int .i64 0) 1 8 Try.underlying23 hi hz0 hz1 hz2 rfl (by decide) _ 0 (zCells (f.take 0)) rfl own4 none 0 0 [] rfl (.inl ⟨rfl, rfl, rfl, rfl⟩) (fun u h => by simp at h) ?e3 ?e4 ?e5 ?_)
  case e3 => unfold maxLen; omega
  case e4 => omega
  case e5 => omega
  intro v5 w5 hown5 hgrow5
  have B5 := BB.grown hgrow5 (by have := BB.size; omega) (fun k hk => Nat.le_trans hl3 (own4.lt k hk).1)
  have HE : Hid (w5.ownsRow w.heap.size 3 1 v5 (f.take 0 ++ ([] : List Int).drop 0).length (zCells (f.take 0 ++ ([] : List Int).drop 0))) := by
    have e1 : ([] : List Int).drop 0 = [] := by simp
    have e2 : (f.take 0 ++ ([] : List Int).drop 0).length = 0 + (0) := by rw [e1, List.length_append, List.length_take, Nat.min_eq_left (by omega)]; simp
    show w5.ownsRow _ _ _ _ _ _
    rw [e2, zCells_app, e1]
    refine ownsM_mono ?_ hl3
    first | exact hown5 | (rw [show 0 + (0) = ([] : List Int).length from by omega]; exact hown5) | simpa [zCells] using hown5
  clear hown5 hgrow5 own4 HL4
  go_wp2
  go_ret2
  exact ⟨_, rfl, HE.out, B5⟩

set_option maxRecDepth 100000 in
set_option maxHeartbeats 2000000 in
theorem implFB_sn (gL CL : Nat) (L : List Int) (w : World) (hL : Ints w (some ⟨gL, 0, none⟩) L) (_hCL : L.length ≤ CL) (kL : goodE L = true) (kF : goodE ([] : List Int) = true) :
    Calls Try.prog 10 #[.slice (some ⟨gL, 0, none⟩) L.length CL, .slice none 0 0] w fun e w' => FoAns w (([] : List Int).take (matchL L ([] : List Int)).1.toNat ++ L.drop (matchL L ([] : List Int)).1.toNat) true e w' := by
  obtain ⟨i0, hi, hz0, hz1, hz2⟩ := info_parts Try.infoInt
  have hF : Ints w none [] := Ints.nil _ _
  have nL := (goodE_t.1 kL).1
  have nF := (goodE_t.1 kF).1
  have hbd := matchL_bd kL kF
  obtain ⟨n, hn⟩ := Int.eq_ofNat_of_zero_le hbd.1
  rw [hn] at hbd
  have HN : Hid ((matchL L ([] : List Int)).1 = (n : Int)) := hn
  have b1 : n ≤ L.length := by omega
  have b2 : n ≤ ([] : List Int).length := by omega
  rw [hn, Int.toNat_natCast]
  have GL : Hid (goodE L = true) := kL
  have GF : Hid (goodE ([] : List Int) = true) := kF
  clear kL kF hn hbd
  obtain rfl : n = 0 := by simpa using b2
  have c1 : (0 : Int) ≤ (CL : Int) := by omega
  have c1' : (0 : Int) ≤ (L.length : Int) := by omega
  have hmk := run_make_cap L.length (by omega)
  go_enter Try.func10, Try.ntmps10
  go_wp2_with fail
  refine (implMB_any _ _ _ _ L ([] : List Int) _ hL hF (by unfold maxLen; omega) (by unfold maxLen; omega)).mono ?_
  rintro r w3 ⟨hr, hB3⟩
  rw [mbR_yes GL.out GF.out, HN.out] at hr; simp only [eeV] at hr; subst hr
  have HL3 := hL.below hB3
  have HF3 := hF.below hB3
  clear hL hF
  have hl3 := hB3.size
  have ha : ∀ (u : World) o, Below u.heap.size u (u.alloc o) := fun u o => (Below.refl _ _).alloc (Nat.le_refl _) o
  go_wp2_with (at_builtin; refine append_any _ rfl _ _ 23 rfl w3.heap.size 3 i0 (.int .i64 0) 1 8 Try.underlying23 hi hz0 hz1 hz2 rfl (by decide) _ 0 [] rfl (World.ownsRow_made w3 _ L.length (Nat.le_refl _) (by unfold maxLen; omega) (by simp [size_madeCells])) none 0 0 [] rfl (.inl ⟨rfl, rfl, rfl, rfl⟩) (fun u h => by simp at h) ?d3 ?d4 ?d5 ?_)
  case d3 => unfold maxLen; omega
  case d4 => omega
  case d5 => simp
  intro v4 w4 hown4 hgrow4
  have B4 : Below w3.heap.size w3 w4 := (ha w3 _).grown hgrow4 (by simp) (fun k hk => by simp [Value.ownBlock] at hk; omega)
  have own4 : w4.ownsRow w3.heap.size 3 1 v4 0 (zCells (([] : List Int).take 0)) := by first | exact hown4 | simpa using hown4
  clear hown4
  obtain ⟨a4, c4, rfl⟩ := ownsM_form own4
  have HL4 := HL3.below B4
  have BB := hB3.trans (B4.mono hB3.size)
  have hl4 := B4.size
  clear hgrow4 B4 HF3 HL3 hB3
  by_cases hlast : CL = 0
  · subst hlast
    have hLn : L.length = 0 := by omega
    go_wp2_with (at_builtin; refine append_any _ rfl _ _ 23 rfl w3.heap.size 3 i0 (.int .i64 0) 1 8 Try.underlying23 hi hz0 hz1 hz2 rfl (by decide) _ 0 (zCells (([] : List Int).take 0)) rfl own4 (some ⟨gL, 0, none⟩) 0 0 [] rfl (.inr ⟨_, rfl, rfl, fun j u h => by simp at h⟩) (fun u h => by simp at h) ?e3 ?e4 ?e5 ?_)
    case e3 => unfold maxLen; omega
    case e4 => omega
    case e5 => omega
    intro v5 w5 hown5 hgrow5
    have B5 := BB.grown hgrow5 (by have := BB.size; omega) (fun k hk => Nat.le_trans hl3 (own4.lt k hk).1)
    have HE : Hid (w5.ownsRow w.heap.size 3 1 v5 (([] : List Int).take 0 ++ L.drop 0).length (zCells (([] : List Int).take 0 ++ L.drop 0))) := by
      have e1 : L.drop 0 = [] := by exact List.drop_eq_nil_of_le (by omega)
      have e2 : (([] : List Int).take 0 ++ L.drop 0).length = 0 + (0) := by rw [e1, List.length_append, List.length_take, Nat.min_eq_left (by omega)]; simp
      show w5.ownsRow _ _ _ _ _ _
      rw [e2, zCells_app, e1]
      refine ownsM_mono ?_ hl3
      first | exact hown5 | (rw [show 0 + (0) = L.length from by omega]; exact hown5) | simpa [zCells] using hown5
    clear hown5 hgrow5 own4 HL4
    go_wp2
    go_ret2
    exact ⟨_, rfl, HE.out, B5⟩
  · have hlt : 0 < CL := by omega
    have c3 : (0 : Int) < (CL : Int) := by omega
    have hne : ¬ (CL = 0) := hlast
    have hne2 : ¬ (CL - 0 = 0) := by omega
    go_wp2_with (at_builtin; refine append_any _ rfl _ _ 23 rfl w3.heap.size 3 i0 (.int .i64 0) 1 8 Try.underlying23 hi hz0 hz1 hz2 rfl (by decide) _ 0 (zCells (([] : List Int).take 0)) rfl own4 (some ⟨gL, 0, none⟩) (L.length - 0) (CL - 0) (zCells (L.drop 0)) rfl (.inr ⟨_, rfl, by rw [zCells_len, List.length_drop], news_drop HL4⟩) (zCells_one _) ?e3 ?e4 ?e5 ?_)
    case e3 => unfold maxLen; omega
    case e4 => omega
    case e5 => omega
    intro v5 w5 hown5 hgrow5
    have B5 := BB.grown hgrow5 (by have := BB.size; omega) (fun k hk => Nat.le_trans hl3 (own4.lt k hk).1)
    have HE : Hid (w5.ownsRow w.heap.size 3 1 v5 (([] : List Int).take 0 ++ L.drop 0).length (zCells (([] : List Int).take 0 ++ L.drop 0))) := by
      have e1 : L.drop 0 = L.drop 0 := by rfl
      have e2 : (([] : List Int).take 0 ++ L.drop 0).length = 0 + (L.length - 0) := by rw [e1, List.length_append, List.length_take, Nat.min_eq_left (by omega)]; rw [List.length_drop]
      show w5.ownsRow _ _ _ _ _ _
      rw [e2, zCells_app, e1]
      refine ownsM_mono ?_ hl3
      first | exact hown5 | (rw [show 0 + (L.length - 0) = L.length from by omega]; exact hown5) | simpa [zCells] using hown5
    clear hown5 hgrow5 own4 HL4
    go_wp2
    go_ret2
    exact ⟨_, rfl, HE.out, B5⟩

set_option maxRecDepth 100000 in
set_option maxHeartbeats 2000000 in
theorem implFB_ss (gL CL : Nat) (L : List Int) (gF CF : Nat) (f : List Int) (w : World) (hL : Ints w (some ⟨gL, 0, none⟩) L) (_hCL : L.length ≤ CL) (hF : Ints w (some ⟨gF, 0, none⟩) f) (_hCF : f.length ≤ CF) (kL : goodE L = true) (kF : goodE f = true) :
    Calls Try.prog 10 #[.slice (some ⟨gL, 0, none⟩) L.length CL, .slice (some ⟨gF, 0, none⟩) f.length CF] w fun e w' => FoAns w (f.take (matchL L f).1.toNat ++ L.drop (matchL L f).1.toNat) true e w' := by
  obtain ⟨i0, hi, hz0, hz1, hz2⟩ := info_parts Try.infoInt
  have nL := (goodE_t.1 kL).1
  have nF := (goodE_t.1 kF).1
  have hbd := matchL_bd kL kF
  obtain ⟨n, hn⟩ := Int.eq_ofNat_of_zero_le hbd.1
  rw [hn] at hbd
  have HN : Hid ((matchL L f).1 = (n : Int)) := hn
  have b1 : n ≤ L.length := by omega
  have b2 : n ≤ f.length := by omega
  rw [hn, Int.toNat_natCast]
  have GL : Hid (goodE L = true) := kL
  have GF : Hid (goodE f = true) := kF
  clear kL kF hn hbd
  have c1 : (n : Int) ≤ (CL : Int) := by omega
  have c1' : (n : Int) ≤ (L.length : Int) := by omega
  have c2 : (n : Int) ≤ (CF : Int) := by omega
  have hmk := run_make_cap L.length (by omega)
  go_enter Try.func10, Try.ntmps10
  go_wp2_with fail
  refine (implMB_any _ _ _ _ L f _ hL hF (by unfold maxLen; omega) (by unfold maxLen; omega)).mono ?_
  rintro r w3 ⟨hr, hB3⟩
  rw [mbR_yes GL.out GF.out, HN.out] at hr; simp only [eeV] at hr; subst hr
  have HL3 := hL.below hB3
  have HF3 := hF.below hB3
  clear hL hF
  have hl3 := hB3.size
  have ha : ∀ (u : World) o, Below u.heap.size u (u.alloc o) := fun u o => (Below.refl _ _).alloc (Nat.le_refl _) o
  go_wp2_with (at_builtin; refine append_any _ rfl _ _ 23 rfl w3.heap.size 3 i0 (.int .i64 0) 1 8 Try.underlying23 hi hz0 hz1 hz2 rfl (by decide) _ 0 [] rfl (World.ownsRow_made w3 _ L.length (Nat.le_refl _) (by unfold maxLen; omega) (by simp [size_madeCells])) (some ⟨gF, 0, none⟩) n CF (zCells (f.take n)) rfl (.inr ⟨_, rfl, by rw [zCells_len, List.length_take, Nat.min_eq_left (by omega)], news_take (HF3.below (ha _ _))⟩) (zCells_one _) ?d3 ?d4 ?d5 ?_)
  case d3 => unfold maxLen; omega
  case d4 => omega
  case d5 => simp
  intro v4 w4 hown4 hgrow4
  have B4 : Below w3.heap.size w3 w4 := (ha w3 _).grown hgrow4 (by simp) (fun k hk => by simp [Value.ownBlock] at hk; omega)
  have own4 : w4.ownsRow w3.heap.size 3 1 v4 n (zCells (f.take n)) := by first | exact hown4 | simpa using hown4
  clear hown4
  obtain ⟨a4, c4, rfl⟩ := ownsM_form own4
  have HL4 := HL3.below B4
  have BB := hB3.trans (B4.mono hB3.size)
  have hl4 := B4.size
  clear hgrow4 B4 HF3 HL3 hB3
  by_cases hlast : CL = n
  · subst hlast
    have hLn : L.length = CL := by omega
    go_wp2_with (at_builtin; refine append_any _ rfl _ _ 23 rfl w3.heap.size 3 i0 (.int .i64 0) 1 8 Try.underlying23 hi hz0 hz1 hz2 rfl (by decide) _ CL (zCells (f.take CL)) rfl own4 (some ⟨gL, 0, none⟩) 0 0 [] rfl (.inr ⟨_, rfl, rfl, fun j u h => by simp at h⟩) (fun u h => by simp at h) ?e3 ?e4 ?e5 ?_)
    case e3 => unfold maxLen; omega
    case e4 => omega
    case e5 => omega
    intro v5 w5 hown5 hgrow5
    have B5 := BB.grown hgrow5 (by have := BB.size; omega) (fun k hk => Nat.le_trans hl3 (own4.lt k hk).1)
    have HE : Hid (w5.ownsRow w.heap.size 3 1 v5 (f.take CL ++ L.drop CL).length (zCells (f.take CL ++ L.drop CL))) := by
      have e1 : L.drop CL = [] := by exact List.drop_eq_nil_of_le (by omega)
      have e2 : (f.take CL ++ L.drop CL).length = CL + (0) := by rw [e1, List.length_append, List.length_take, Nat.min_eq_left (by omega)]; simp
      show w5.ownsRow _ _ _ _ _ _
      rw [e2, zCells_app, e1]
      refine ownsM_mono ?_ hl3
      first | exact hown5 | (rw [show n + (0) = L.length from by omega]; exact hown5) | simpa [zCells] using hown5
    clear hown5 hgrow5 own4 HL4
    go_wp2
    go_ret2
    exact ⟨_, rfl, HE.out, B5⟩
  · have hlt : n < CL := by omega
    have c3 : (n : Int) < (CL : Int) := by omega
    have hne : ¬ (CL = n) := hlast
    have hne2 : ¬ (CL - n = 0) := by omega
    go_wp2_with (at_builtin; refine append_any _ rfl _ _ 23 rfl w3.heap.size 3 i0 (.int .i64 0) 1 8 Try.underlying23 hi hz0 hz1 hz2 rfl (by decide) _ n (zCells (f.take n)) rfl own4 (some ⟨gL, n, none⟩) (L.length - n) (CL - n) (zCells (L.drop n)) rfl (.inr ⟨_, rfl, by rw [zCells_len, List.length_drop], news_drop HL4⟩) (zCells_one _) ?e3 ?e4 ?e5 ?_)
    case e3 => unfold maxLen; omega
    case e4 => omega
    case e5 => omega
    intro v5 w5 hown5 hgrow5
    have B5 := BB.grown hgrow5 (by have := BB.size; omega) (fun k hk => Nat.le_trans hl3 (own4.lt k hk).1)
    have HE : Hid (w5.ownsRow w.heap.size 3 1 v5 (f.take n ++ L.drop n).length (zCells (f.take n ++ L.drop n))) := by
      have e1 : L.drop n = L.drop n := by rfl
      have e2 : (f.take n ++ L.drop n).length = n + (L.length - n) := by rw [e1, List.length_append, List.length_take, Nat.min_eq_left (by omega)]; rw [List.length_drop]
      show w5.ownsRow _ _ _ _ _ _
      rw [e2, zCells_app, e1]
      refine ownsM_mono ?_ hl3
      first | exact hown5 | (rw [show n + (L.length - n) = L.length from by omega]; exact hown5) | simpa [zCells] using hown5
    clear hown5 hgrow5 own4 HL4
    go_wp2
    go_ret2
    exact ⟨_, rfl, HE.out, B5⟩

set_option maxRecDepth 100000 in
set_option maxHeartbeats 2000000 in
theorem specFB_gen (A B : Option Addr) (CA CB : Nat) (L f : List Int) (w : World) (hL : Ints w A L) (hF : Ints w B f) (lL : L.length ≤ maxLen) (lF : f.length ≤ maxLen) (sA : SlOk A L.length CA) (sB : SlOk B f.length CB) :
    Calls Try.prog 11 #[.slice A L.length CA, .slice B f.length CB] w fun e w' => FoAns w (folL L f) (goodE L && goodE f) e w' := by
  cases g1 : goodE L with
  | false =>
    rw [folL_no (by rw [g1]; rfl)]
    have GL : Hid (goodE L = false) := g1
    clear g1
    go_enter Try.func11, Try.ntmps11
    go_wp2_with fail
    refine (specGoodE_any _ _ _ _ hL lL).mono ?_
    rintro r w1 ⟨hr, rfl⟩
    rw [GL.out] at hr; subst hr
    go_wp2
    go_ret2
    exact ⟨_, rfl, World.ownsRow_nil _ _ _ _, Below.refl _ _⟩
  | true =>
  cases g2 : goodE f with
  | false =>
    rw [folL_no (by rw [g1, g2]; rfl)]
    have GL : Hid (goodE L = true) := g1
    have GF : Hid (goodE f = false) := g2
    clear g1 g2
    go_enter Try.func11, Try.ntmps11
    go_wp2_with fail
    refine (specGoodE_any _ _ _ _ hL lL).mono ?_
    rintro r w1 ⟨hr, rfl⟩
    rw [GL.out] at hr; subst hr
    go_wp2_with fail
    refine (specGoodE_any _ _ _ _ hF lF).mono ?_
    rintro r w2 ⟨hr, rfl⟩
    rw [GF.out] at hr; subst hr
    go_wp2
    go_ret2
    exact ⟨_, rfl, World.ownsRow_nil _ _ _ _, Below.refl _ _⟩
  | true =>
  rw [folL_yes g1 g2]
  try rw [show (goodE L && goodE f) = true by rw [g1, g2]; rfl]
  rcases sA with ⟨rfl, h0, rfl⟩ | ⟨hCA, g, rfl⟩
  · obtain rfl : L = [] := List.eq_nil_of_length_eq_zero h0
    rcases sB with ⟨rfl, k0, rfl⟩ | ⟨hCB, k, rfl⟩
    · obtain rfl : f = [] := List.eq_nil_of_length_eq_zero k0
      exact specFB_nn w g1 g2
    · exact specFB_ns k CB f w hF hCB g1 g2
  · rcases sB with ⟨rfl, k0, rfl⟩ | ⟨hCB, k, rfl⟩
    · obtain rfl : f = [] := List.eq_nil_of_length_eq_zero k0
      exact specFB_sn g CA L w hL hCA g1 g2
    · exact specFB_ss g CA L k CB f w hL hCA hF hCB g1 g2

set_option maxRecDepth 100000 in
set_option maxHeartbeats 2000000 in
theorem implFB_gen (A B : Option Addr) (CA CB : Nat) (L f : List Int) (w : World) (hL : Ints w A L) (hF : Ints w B f) (lL : L.length ≤ maxLen) (lF : f.length ≤ maxLen) (sA : SlOk A L.length CA) (sB : SlOk B f.length CB) :
    Calls Try.prog 10 #[.slice A L.length CA, .slice B f.length CB] w fun e w' => FoAns w (folL L f) (goodE L && goodE f) e w' := by
  by_cases hg : (goodE L && goodE f) = true
  case neg =>
    have hg : (goodE L && goodE f) = false := by simpa using hg
    have HR : Hid (mbR L f = (0, 0, false)) := by show _ = _; unfold mbR; rw [hg]; rfl
    rw [folL_no hg, hg]
    clear hg
    go_enter Try.func10, Try.ntmps10
    go_wp2_with fail
    refine (implMB_any _ _ _ _ _ _ _ hL hF lL lF).mono ?_
    rintro r w3 ⟨hr, hB3⟩
    rw [HR.out] at hr; simp only [eeV] at hr; subst hr
    go_wp2
    go_ret2
    exact ⟨_, rfl, World.ownsRow_nil _ _ _ _, hB3⟩
  have g1 := (Bool.and_eq_true _ _ ▸ hg : goodE L = true ∧ goodE f = true).1
  have g2 := (Bool.and_eq_true _ _ ▸ hg : goodE L = true ∧ goodE f = true).2
  clear hg
  rw [folL_yes g1 g2]
  try rw [show (goodE L && goodE f) = true by rw [g1, g2]; rfl]
  rcases sA with ⟨rfl, h0, rfl⟩ | ⟨hCA, g, rfl⟩
  · obtain rfl : L = [] := List.eq_nil_of_length_eq_zero h0
    rcases sB with ⟨rfl, k0, rfl⟩ | ⟨hCB, k, rfl⟩
    · obtain rfl : f = [] := List.eq_nil_of_length_eq_zero k0
      exact implFB_nn w g1 g2
    · exact implFB_ns k CB f w hF hCB g1 g2
  · rcases sB with ⟨rfl, k0, rfl⟩ | ⟨hCB, k, rfl⟩
    · obtain rfl : f = [] := List.eq_nil_of_length_eq_zero k0
      exact implFB_sn g CA L w hL hCA g1 g2
    · exact implFB_ss g CA L k CB f w hL hCA hF hCB g1 g2

end Go.Proofs.Ytgmcllfdhkjafaa
