/-
  spec.GoodStore's test of a segment, where the marks are not looked at, over a frame of letters.
-/
import Derived.Test.YtomigekigcklfaaDoorSgs2J
import Derived.Test.YtomigekigcklfaaDoorImIdx
import Derived.BigQuiet
import Derived.Deep.RegionHeld3
namespace Go.Proofs.YtomigekigcklfaaDoor
open Go.RowKit

/-- The piece of a body at the end of a path. -/
def goP : List Nat → Code → Code
  | [], c => c
  | 0 :: r, .seq a _ => goP r a
  | 1 :: r, .seq _ b => goP r b
  | 2 :: r, .block _ c => goP r c
  | 3 :: r, .scope c => goP r c
  | 4 :: r, .loop c => goP r c
  | 5 :: r, .cond _ a _ => goP r a
  | 6 :: r, .cond _ _ b => goP r b
  | _, _ => .skip

noncomputable def regG7 : Code := goP [1, 1, 1, 0, 1, 2, 4, 1, 1, 0, 2, 1, 1, 0, 0] (Tryd.f22.body.getD .skip)

theorem wrapS {m : Nat} (h : m ≤ 2000000) : IntKind.i64.wrap (m : Int) = (m : Int) := by rw [IntKind.wrap_i64]; omega

theorem wrap64S {m : Nat} (h : m ≤ 2000000) : wrap64 (m : Int) = (m : Int) := by unfold wrap64; omega

theorem four_keep {wr w1 : World} {D K n c rc : Nat} {sa ra : Option Addr} {g : Sg} (hB : Below wr.heap.size wr w1)
    (kk : wr.cell? ⟨D, 0, none⟩ = some (.slice sa n c) ∧ wr.cell? ⟨K, 0, none⟩ = some (.int .i64 g.base) ∧ wr.cell? ⟨K, 1, none⟩ = some (.string g.bytes) ∧ wr.cell? ⟨K, 2, none⟩ = some (.slice ra g.idx.length rc)) : w1.cell? ⟨D, 0, none⟩ = some (.slice sa n c) ∧ w1.cell? ⟨K, 0, none⟩ = some (.int .i64 g.base) ∧ w1.cell? ⟨K, 1, none⟩ = some (.string g.bytes) ∧ w1.cell? ⟨K, 2, none⟩ = some (.slice ra g.idx.length rc) := by
  have l0 := lt_of_cell kk.1
  have l1 := lt_of_cell kk.2.1
  obtain ⟨hc, -⟩ := bcell hB
  exact ⟨(hc _ _ l0).trans kk.1, (hc _ _ l1).trans kk.2.1, (hc _ _ l1).trans kk.2.2.1, (hc _ _ l1).trans kk.2.2.2⟩

set_option maxRecDepth 1000000 in
set_option maxHeartbeats 8000000 in
theorem gs7N (Q : Exit → Act → World → Prop) (D K n c i L cv rc m : Nat) (nx z : Int) (g : Sg) (sa av ra : Option Addr) (u0 u2 u4 u9 u10 u11 u12 u13 u14 u15 u16 u17 u18 u19 u20 u21 u22 u23 u24 u25 u26 u27 u28 u29 u30 u31 u32 u33 u34 u35 u36 u37 u38 u39 u40 u41 u42 u43 u44 u45 u46 u47 u48 u49 u50 u51 u52 u53 u54 u55 u56 u57 u58 u59 u60 u61 u62 u63 u64 u65 u66 u67 u68 u69 u70 u71 u72 u73 u74 u75 u76 u77 u78 u79 u80 u81 u82 u83 u84 u85 u86 u87 u88 u89 u90 u91 u92 u93 u94 u95 u96 u97 u98 u99 u100 u101 u102 u103 u104 u105 u106 u107 u108 u109 u110 u111 u112 u113 u114 u115 u116 u117 u118 u119 u120 : Value) (wr : World)
    (kk : wr.cell? ⟨D, 0, none⟩ = some (.slice sa n c) ∧ wr.cell? ⟨K, 0, none⟩ = some (.int .i64 g.base) ∧ wr.cell? ⟨K, 1, none⟩ = some (.string g.bytes) ∧ wr.cell? ⟨K, 2, none⟩ = some (.slice ra g.idx.length rc)) (hn : (n : Int) - 1 = (m : Int)) (hn2 : n ≤ 2000000) (_hi : i < n) (_hL : L ≤ 2000000) (_hbz : g.bytes.size ≤ 2000000)
    (hz : (z != (g.bytes.size : Int)) = true)
    (h : ∀ (v25 v26 v27 v28 v29 v30 v31 v32 v33 v34 v35 v36 v37 v38 v39 v40 v41 v42 v43 v44 v45 v46 v47 v48 v49 v50 v51 v52 v53 v54 v55 v56 v57 v58 v59 v60 v61 v62 v63 v64 v65 v66 v67 v68 v69 v70 v71 v72 v73 v74 v75 v76 : Value) (w5 : World), Below wr.heap.size wr w5 → Q .normal { tmps := List.toArray (u0 :: Value.pointer (some ⟨D, 0, none⟩) :: u2 :: Value.int .i64 nx :: u4 :: Value.int .i64 (i : Int) :: Value.pointer (some ⟨K, 0, none⟩) :: Value.slice av L cv :: Value.int .i64 z :: u9 :: u10 :: u11 :: u12 :: u13 :: u14 :: u15 :: u16 :: u17 :: u18 :: u19 :: u20 :: u21 :: u22 :: u23 :: u24 :: v25 :: v26 :: v27 :: v28 :: v29 :: v30 :: v31 :: v32 :: v33 :: v34 :: v35 :: v36 :: v37 :: v38 :: v39 :: v40 :: v41 :: v42 :: v43 :: v44 :: v45 :: v46 :: v47 :: v48 :: v49 :: v50 :: v51 :: v52 :: v53 :: v54 :: v55 :: v56 :: v57 :: v58 :: v59 :: v60 :: v61 :: v62 :: v63 :: v64 :: v65 :: v66 :: v67 :: v68 :: v69 :: v70 :: v71 :: v72 :: v73 :: v74 :: v75 :: v76 :: Value.bool true :: u78 :: u79 :: u80 :: u81 :: u82 :: u83 :: u84 :: u85 :: u86 :: u87 :: u88 :: u89 :: u90 :: u91 :: u92 :: u93 :: u94 :: u95 :: u96 :: u97 :: u98 :: u99 :: u100 :: u101 :: u102 :: u103 :: u104 :: u105 :: u106 :: u107 :: u108 :: u109 :: u110 :: u111 :: u112 :: u113 :: u114 :: u115 :: u116 :: u117 :: u118 :: u119 :: u120 :: List.nil), defers := [] } w5) :
    Code.wp Tryd.prog regG7 Q { tmps := List.toArray (u0 :: Value.pointer (some ⟨D, 0, none⟩) :: u2 :: Value.int .i64 nx :: u4 :: Value.int .i64 (i : Int) :: Value.pointer (some ⟨K, 0, none⟩) :: Value.slice av L cv :: Value.int .i64 z :: u9 :: u10 :: u11 :: u12 :: u13 :: u14 :: u15 :: u16 :: u17 :: u18 :: u19 :: u20 :: u21 :: u22 :: u23 :: u24 :: u25 :: u26 :: u27 :: u28 :: u29 :: u30 :: u31 :: u32 :: u33 :: u34 :: u35 :: u36 :: u37 :: u38 :: u39 :: u40 :: u41 :: u42 :: u43 :: u44 :: u45 :: u46 :: u47 :: u48 :: u49 :: u50 :: u51 :: u52 :: u53 :: u54 :: u55 :: u56 :: u57 :: u58 :: u59 :: u60 :: u61 :: u62 :: u63 :: u64 :: u65 :: u66 :: u67 :: u68 :: u69 :: u70 :: u71 :: u72 :: u73 :: u74 :: u75 :: u76 :: u77 :: u78 :: u79 :: u80 :: u81 :: u82 :: u83 :: u84 :: u85 :: u86 :: u87 :: u88 :: u89 :: u90 :: u91 :: u92 :: u93 :: u94 :: u95 :: u96 :: u97 :: u98 :: u99 :: u100 :: u101 :: u102 :: u103 :: u104 :: u105 :: u106 :: u107 :: u108 :: u109 :: u110 :: u111 :: u112 :: u113 :: u114 :: u115 :: u116 :: u117 :: u118 :: u119 :: u120 :: List.nil), defers := [] } wr := by
  have hml : m ≤ 2000000 := by omega
  have hkj := wrapS hml
  have hkj2 := wrap64S hml
  have k0 := kk
  obtain ⟨q0, q1, q2, q3⟩ := k0
  conv => arg 2; whnf
  go_quiet (fail)
  exact h _ _ _ _ _ _ _ _ _ _ _ _ _ _ _ _ _ _ _ _ _ _ _ _ _ _ _ _ _ _ _ _ _ _ _ _ _ _ _ _ _ _ _ _ _ _ _ _ _ _ _ _  _ (below_drewN (Below.refl _ _) _)

set_option maxRecDepth 1000000 in
set_option maxHeartbeats 8000000 in
theorem gs7Big (Q : Exit → Act → World → Prop) (D K n c i L cv rc m : Nat) (nx z : Int) (g : Sg) (sa av ra : Option Addr) (u0 u2 u4 u9 u10 u11 u12 u13 u14 u15 u16 u17 u18 u19 u20 u21 u22 u23 u24 u25 u26 u27 u28 u29 u30 u31 u32 u33 u34 u35 u36 u37 u38 u39 u40 u41 u42 u43 u44 u45 u46 u47 u48 u49 u50 u51 u52 u53 u54 u55 u56 u57 u58 u59 u60 u61 u62 u63 u64 u65 u66 u67 u68 u69 u70 u71 u72 u73 u74 u75 u76 u77 u78 u79 u80 u81 u82 u83 u84 u85 u86 u87 u88 u89 u90 u91 u92 u93 u94 u95 u96 u97 u98 u99 u100 u101 u102 u103 u104 u105 u106 u107 u108 u109 u110 u111 u112 u113 u114 u115 u116 u117 u118 u119 u120 : Value) (wr : World)
    (kk : wr.cell? ⟨D, 0, none⟩ = some (.slice sa n c) ∧ wr.cell? ⟨K, 0, none⟩ = some (.int .i64 g.base) ∧ wr.cell? ⟨K, 1, none⟩ = some (.string g.bytes) ∧ wr.cell? ⟨K, 2, none⟩ = some (.slice ra g.idx.length rc)) (hn : (n : Int) - 1 = (m : Int)) (hn2 : n ≤ 2000000) (_hi : i < n) (_hL : L ≤ 2000000) (_hbz : g.bytes.size ≤ 2000000)
    (hz : (z != (g.bytes.size : Int)) = false) (h1 : (120 : Int) < (g.bytes.size : Int)) (h2 : (1 : Int) < (L : Int))
    (h : ∀ (v25 v26 v27 v28 v29 v30 v31 v32 v33 v34 v35 v36 v37 v38 v39 v40 v41 v42 v43 v44 v45 v46 v47 v48 v49 v50 v51 v52 v53 v54 v55 v56 v57 v58 v59 v60 v61 v62 v63 v64 v65 v66 v67 v68 v69 v70 v71 v72 v73 v74 v75 v76 : Value) (w5 : World), Below wr.heap.size wr w5 → Q .normal { tmps := List.toArray (u0 :: Value.pointer (some ⟨D, 0, none⟩) :: u2 :: Value.int .i64 nx :: u4 :: Value.int .i64 (i : Int) :: Value.pointer (some ⟨K, 0, none⟩) :: Value.slice av L cv :: Value.int .i64 z :: u9 :: u10 :: u11 :: u12 :: u13 :: u14 :: u15 :: u16 :: u17 :: u18 :: u19 :: u20 :: u21 :: u22 :: u23 :: u24 :: v25 :: v26 :: v27 :: v28 :: v29 :: v30 :: v31 :: v32 :: v33 :: v34 :: v35 :: v36 :: v37 :: v38 :: v39 :: v40 :: v41 :: v42 :: v43 :: v44 :: v45 :: v46 :: v47 :: v48 :: v49 :: v50 :: v51 :: v52 :: v53 :: v54 :: v55 :: v56 :: v57 :: v58 :: v59 :: v60 :: v61 :: v62 :: v63 :: v64 :: v65 :: v66 :: v67 :: v68 :: v69 :: v70 :: v71 :: v72 :: v73 :: v74 :: v75 :: v76 :: Value.bool true :: u78 :: u79 :: u80 :: u81 :: u82 :: u83 :: u84 :: u85 :: u86 :: u87 :: u88 :: u89 :: u90 :: u91 :: u92 :: u93 :: u94 :: u95 :: u96 :: u97 :: u98 :: u99 :: u100 :: u101 :: u102 :: u103 :: u104 :: u105 :: u106 :: u107 :: u108 :: u109 :: u110 :: u111 :: u112 :: u113 :: u114 :: u115 :: u116 :: u117 :: u118 :: u119 :: u120 :: List.nil), defers := [] } w5) :
    Code.wp Tryd.prog regG7 Q { tmps := List.toArray (u0 :: Value.pointer (some ⟨D, 0, none⟩) :: u2 :: Value.int .i64 nx :: u4 :: Value.int .i64 (i : Int) :: Value.pointer (some ⟨K, 0, none⟩) :: Value.slice av L cv :: Value.int .i64 z :: u9 :: u10 :: u11 :: u12 :: u13 :: u14 :: u15 :: u16 :: u17 :: u18 :: u19 :: u20 :: u21 :: u22 :: u23 :: u24 :: u25 :: u26 :: u27 :: u28 :: u29 :: u30 :: u31 :: u32 :: u33 :: u34 :: u35 :: u36 :: u37 :: u38 :: u39 :: u40 :: u41 :: u42 :: u43 :: u44 :: u45 :: u46 :: u47 :: u48 :: u49 :: u50 :: u51 :: u52 :: u53 :: u54 :: u55 :: u56 :: u57 :: u58 :: u59 :: u60 :: u61 :: u62 :: u63 :: u64 :: u65 :: u66 :: u67 :: u68 :: u69 :: u70 :: u71 :: u72 :: u73 :: u74 :: u75 :: u76 :: u77 :: u78 :: u79 :: u80 :: u81 :: u82 :: u83 :: u84 :: u85 :: u86 :: u87 :: u88 :: u89 :: u90 :: u91 :: u92 :: u93 :: u94 :: u95 :: u96 :: u97 :: u98 :: u99 :: u100 :: u101 :: u102 :: u103 :: u104 :: u105 :: u106 :: u107 :: u108 :: u109 :: u110 :: u111 :: u112 :: u113 :: u114 :: u115 :: u116 :: u117 :: u118 :: u119 :: u120 :: List.nil), defers := [] } wr := by
  have hml : m ≤ 2000000 := by omega
  have hkj := wrapS hml
  have hkj2 := wrap64S hml
  have k0 := kk
  obtain ⟨q0, q1, q2, q3⟩ := k0
  conv => arg 2; whnf
  go_quiet (fail)
  exact h _ _ _ _ _ _ _ _ _ _ _ _ _ _ _ _ _ _ _ _ _ _ _ _ _ _ _ _ _ _ _ _ _ _ _ _ _ _ _ _ _ _ _ _ _ _ _ _ _ _ _ _  _ (below_drewN (Below.refl _ _) _)

set_option maxRecDepth 1000000 in
set_option maxHeartbeats 8000000 in
theorem gs7Emp (Q : Exit → Act → World → Prop) (D K n c i L cv rc m : Nat) (nx z : Int) (g : Sg) (sa av ra : Option Addr) (u0 u2 u4 u9 u10 u11 u12 u13 u14 u15 u16 u17 u18 u19 u20 u21 u22 u23 u24 u25 u26 u27 u28 u29 u30 u31 u32 u33 u34 u35 u36 u37 u38 u39 u40 u41 u42 u43 u44 u45 u46 u47 u48 u49 u50 u51 u52 u53 u54 u55 u56 u57 u58 u59 u60 u61 u62 u63 u64 u65 u66 u67 u68 u69 u70 u71 u72 u73 u74 u75 u76 u77 u78 u79 u80 u81 u82 u83 u84 u85 u86 u87 u88 u89 u90 u91 u92 u93 u94 u95 u96 u97 u98 u99 u100 u101 u102 u103 u104 u105 u106 u107 u108 u109 u110 u111 u112 u113 u114 u115 u116 u117 u118 u119 u120 : Value) (wr : World)
    (kk : wr.cell? ⟨D, 0, none⟩ = some (.slice sa n c) ∧ wr.cell? ⟨K, 0, none⟩ = some (.int .i64 g.base) ∧ wr.cell? ⟨K, 1, none⟩ = some (.string g.bytes) ∧ wr.cell? ⟨K, 2, none⟩ = some (.slice ra g.idx.length rc)) (hn : (n : Int) - 1 = (m : Int)) (hn2 : n ≤ 2000000) (_hi : i < n) (_hL : L ≤ 2000000) (_hbz : g.bytes.size ≤ 2000000)
    (hz : (z != (g.bytes.size : Int)) = false) (h1 : ¬ (120 : Int) < (g.bytes.size : Int)) (h2 : ((L : Int) == 0) = true) (h3 : (i : Int) < (m : Int))
    (h : ∀ (v25 v26 v27 v28 v29 v30 v31 v32 v33 v34 v35 v36 v37 v38 v39 v40 v41 v42 v43 v44 v45 v46 v47 v48 v49 v50 v51 v52 v53 v54 v55 v56 v57 v58 v59 v60 v61 v62 v63 v64 v65 v66 v67 v68 v69 v70 v71 v72 v73 v74 v75 v76 : Value) (w5 : World), Below wr.heap.size wr w5 → Q .normal { tmps := List.toArray (u0 :: Value.pointer (some ⟨D, 0, none⟩) :: u2 :: Value.int .i64 nx :: u4 :: Value.int .i64 (i : Int) :: Value.pointer (some ⟨K, 0, none⟩) :: Value.slice av L cv :: Value.int .i64 z :: u9 :: u10 :: u11 :: u12 :: u13 :: u14 :: u15 :: u16 :: u17 :: u18 :: u19 :: u20 :: u21 :: u22 :: u23 :: u24 :: v25 :: v26 :: v27 :: v28 :: v29 :: v30 :: v31 :: v32 :: v33 :: v34 :: v35 :: v36 :: v37 :: v38 :: v39 :: v40 :: v41 :: v42 :: v43 :: v44 :: v45 :: v46 :: v47 :: v48 :: v49 :: v50 :: v51 :: v52 :: v53 :: v54 :: v55 :: v56 :: v57 :: v58 :: v59 :: v60 :: v61 :: v62 :: v63 :: v64 :: v65 :: v66 :: v67 :: v68 :: v69 :: v70 :: v71 :: v72 :: v73 :: v74 :: v75 :: v76 :: Value.bool true :: u78 :: u79 :: u80 :: u81 :: u82 :: u83 :: u84 :: u85 :: u86 :: u87 :: u88 :: u89 :: u90 :: u91 :: u92 :: u93 :: u94 :: u95 :: u96 :: u97 :: u98 :: u99 :: u100 :: u101 :: u102 :: u103 :: u104 :: u105 :: u106 :: u107 :: u108 :: u109 :: u110 :: u111 :: u112 :: u113 :: u114 :: u115 :: u116 :: u117 :: u118 :: u119 :: u120 :: List.nil), defers := [] } w5) :
    Code.wp Tryd.prog regG7 Q { tmps := List.toArray (u0 :: Value.pointer (some ⟨D, 0, none⟩) :: u2 :: Value.int .i64 nx :: u4 :: Value.int .i64 (i : Int) :: Value.pointer (some ⟨K, 0, none⟩) :: Value.slice av L cv :: Value.int .i64 z :: u9 :: u10 :: u11 :: u12 :: u13 :: u14 :: u15 :: u16 :: u17 :: u18 :: u19 :: u20 :: u21 :: u22 :: u23 :: u24 :: u25 :: u26 :: u27 :: u28 :: u29 :: u30 :: u31 :: u32 :: u33 :: u34 :: u35 :: u36 :: u37 :: u38 :: u39 :: u40 :: u41 :: u42 :: u43 :: u44 :: u45 :: u46 :: u47 :: u48 :: u49 :: u50 :: u51 :: u52 :: u53 :: u54 :: u55 :: u56 :: u57 :: u58 :: u59 :: u60 :: u61 :: u62 :: u63 :: u64 :: u65 :: u66 :: u67 :: u68 :: u69 :: u70 :: u71 :: u72 :: u73 :: u74 :: u75 :: u76 :: u77 :: u78 :: u79 :: u80 :: u81 :: u82 :: u83 :: u84 :: u85 :: u86 :: u87 :: u88 :: u89 :: u90 :: u91 :: u92 :: u93 :: u94 :: u95 :: u96 :: u97 :: u98 :: u99 :: u100 :: u101 :: u102 :: u103 :: u104 :: u105 :: u106 :: u107 :: u108 :: u109 :: u110 :: u111 :: u112 :: u113 :: u114 :: u115 :: u116 :: u117 :: u118 :: u119 :: u120 :: List.nil), defers := [] } wr := by
  have hml : m ≤ 2000000 := by omega
  have hkj := wrapS hml
  have hkj2 := wrap64S hml
  have k0 := kk
  obtain ⟨q0, q1, q2, q3⟩ := k0
  conv => arg 2; whnf
  go_quiet (fail)
  exact h _ _ _ _ _ _ _ _ _ _ _ _ _ _ _ _ _ _ _ _ _ _ _ _ _ _ _ _ _ _ _ _ _ _ _ _ _ _ _ _ _ _ _ _ _ _ _ _ _ _ _ _  _ (below_drewN (Below.refl _ _) _)

end Go.Proofs.YtomigekigcklfaaDoor
