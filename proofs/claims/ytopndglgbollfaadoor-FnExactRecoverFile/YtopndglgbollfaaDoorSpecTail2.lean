/-
  spec.l1Take, the test behind its loop ('not good, or its bytes are others'): what it leaves, over a frame of letters.
-/
import Derived.Test.YtopndglgbollfaaDoorSpecTail
import Derived.Deep.RegionHeld3
import Derived.Deep.RegionLaw
namespace Go.Proofs.YtopndglgbollfaaDoor
open Go.RowKit

set_option maxRecDepth 1000000 in
set_option maxHeartbeats 8000000 in
theorem reg15_good (Q : Exit → Act → World → Prop) (s : ByteArray) (n L R K : Nat) (A1 A2 A3 A4 : Nat) (ss : List ByteArray) (ra : Option Addr) (rc : Nat) (u2 u3 u5 u8 u9 u10 u11 u12 u13 u14 u15 u16 u17 u18 u19 u20 u21 u22 u23 u24 u25 u26 u27 u28 u29 u30 u31 u32 u33 u34 u35 u36 u37 u38 u39 u40 u41 u42 u43 u44 u45 u46 u47 u48 u49 u50 u51 u52 u53 u54 u55 u56 u57 u58 u59 u60 u61 u62 u63 u64 u65 u66 u67 u68 u69 u70 u71 u72 u73 u74 u75 u76 u77 u78 u79 u80 u81 u82 u83 u84 u85 u86 u87 u88 u89 u90 u91 u92 u93 u94 u95 u96 u97 u98 u99 u100 u101 u102 u103 u104 u105 u106 u107 u108 u109 u110 u111 u112 u113 u114 u115 u116 u117 u118 u119 u120 u121 u122 : Value) (wr : World)
    (y0 : wr.cell? ⟨K, 0, none⟩ = some (.int .i64 (A1 : Int))) (y1 : wr.cell? ⟨K, 1, none⟩ = some (.int .i64 (A2 : Int))) (y2 : wr.cell? ⟨K, 2, none⟩ = some (.int .i64 (A3 : Int))) (y3 : wr.cell? ⟨K, 3, none⟩ = some (.int .i64 (A4 : Int))) (y4 : wr.cell? ⟨K, 4, none⟩ = some (.slice ra ss.length rc))
    (hst : Strs wr ra ss) (hsl : ss.length ≤ maxLen)
    (hn : n + L ≤ s.size)
    (HG : Hid (Bt.good ⟨(A1 : Nat), (A2 : Nat), (A3 : Nat), (A4 : Nat), ss⟩ = true))
    (b1 : A1 ≤ 100000) (b2 : A2 ≤ 1000) (b3 : A3 ≤ 65535) (b4 : A4 ≤ 65535) (b5 : ss.length ≤ 8) (b6 : ∀ x, x ∈ ss → x.size ≤ 20)
    (X : ByteArray) (HX : Hid (X = ⟨(bytesOf A1 A2 A3 A4 ss).toArray⟩))
    (h : ∀ (v108 v109 v110 v111 v112 v113 v114 v115 v116 v117 v118 : Value) (w5 : World), Below wr.heap.size wr w5 → Q .normal { tmps := #[Value.string s, Value.int .i64 (n : Int), u2, u3, Value.pointer (some ⟨R, 0, none⟩), u5, Value.int .i64 ((n : Int) + (L : Int)), Value.pointer (some ⟨K, 0, none⟩), u8, u9, u10, u11, u12, u13, u14, u15, u16, u17, u18, u19, u20, u21, u22, u23, u24, u25, u26, u27, u28, u29, u30, u31, u32, u33, u34, u35, u36, u37, u38, u39, u40, u41, u42, u43, u44, u45, u46, u47, u48, u49, u50, u51, u52, u53, u54, u55, u56, u57, u58, u59, u60, u61, u62, u63, u64, u65, u66, u67, u68, u69, u70, u71, u72, u73, u74, u75, u76, u77, u78, u79, u80, u81, u82, u83, u84, u85, u86, u87, u88, u89, u90, u91, u92, u93, u94, u95, u96, u97, u98, u99, u100, u101, u102, u103, u104, u105, u106, u107, v108, v109, v110, v111, v112, v113, v114, v115, v116, v117, v118, Value.bool (!X.toList == (s.extract n (n + L)).toList), u120, u121, u122], defers := [] } w5) :
    Code.wp Tryd.prog reg15 Q { tmps := #[Value.string s, Value.int .i64 (n : Int), u2, u3, Value.pointer (some ⟨R, 0, none⟩), u5, Value.int .i64 ((n : Int) + (L : Int)), Value.pointer (some ⟨K, 0, none⟩), u8, u9, u10, u11, u12, u13, u14, u15, u16, u17, u18, u19, u20, u21, u22, u23, u24, u25, u26, u27, u28, u29, u30, u31, u32, u33, u34, u35, u36, u37, u38, u39, u40, u41, u42, u43, u44, u45, u46, u47, u48, u49, u50, u51, u52, u53, u54, u55, u56, u57, u58, u59, u60, u61, u62, u63, u64, u65, u66, u67, u68, u69, u70, u71, u72, u73, u74, u75, u76, u77, u78, u79, u80, u81, u82, u83, u84, u85, u86, u87, u88, u89, u90, u91, u92, u93, u94, u95, u96, u97, u98, u99, u100, u101, u102, u103, u104, u105, u106, u107, u108, u109, u110, u111, u112, u113, u114, u115, u116, u117, u118, u119, u120, u121, u122], defers := [] } wr := by
  have hst1 : Strs wr.drew ra ss := hst.below (Below.refl _ _).drew
  have q0 : (0 : Int) ≤ (n : Int) := by omega
  have q1 : (n : Int) ≤ (n : Int) + (L : Int) := by omega
  have q2 : (n : Int) + (L : Int) ≤ (s.size : Int) := by omega
  have q3 : ((n : Int) + (L : Int)).toNat = n + L := by omega
  conv => arg 2; whnf
  go_region_held3 (fun w' => w'.cell? ⟨K, 0, none⟩ = some (.int .i64 A1) ∧ w'.cell? ⟨K, 1, none⟩ = some (.int .i64 A2) ∧ w'.cell? ⟨K, 2, none⟩ = some (.int .i64 A3) ∧ w'.cell? ⟨K, 3, none⟩ = some (.int .i64 A4) ∧ w'.cell? ⟨K, 4, none⟩ = some (.slice ra ss.length rc))
    (first | exact kk | go_keep)
    (first
      | (go_at_call 49; refine (specGood_any _ _ _ _ _ _ _ _ hst1 hsl).mono ?_; rintro r w5 ⟨hr, hB5⟩; rw [HG.out] at hr; subst hr; have hst5 := hst1.below hB5; have kk := box_keep (N := K) (v0 := .int .i64 A1) (v1 := .int .i64 A2) (v2 := .int .i64 A3) (v3 := .int .i64 A4) (v4 := .slice ra ss.length rc) hB5 (by first | exact kk | simp [y0, y1, y2, y3, y4]))
      | (go_at_call 50; refine (l1Batch_any _ _ _ _ _ _ _ _ hst5 b1 b2 b3 b4 b5 b6).mono ?_; rintro r w6 ⟨hr, hB6⟩; rw [← HX.out] at hr; subst hr; have kk := box_keep (N := K) (v0 := .int .i64 A1) (v1 := .int .i64 A2) (v2 := .int .i64 A3) (v3 := .int .i64 A4) (v4 := .slice ra ss.length rc) hB6 (by first | exact kk | simp [y0, y1, y2, y3, y4])))
  exact h _ _ _ _ _ _ _ _ _ _ _ _ (((Below.refl _ _).drew.trans (hB5.mono (by simp))).trans (hB6.mono (by have := hB5.size; simpa using this)))

end Go.Proofs.YtopndglgbollfaaDoor
