/- Layer 2: joins of finds. -/
import Derived.Test.YtilfiadkhohfiaaGreatDoorP0
/- Layer 2: joins of finds, in runs. -/
set_option linter.unusedVariables false
set_option maxRecDepth 100000
namespace Go.Proofs.YtilfiadkhohfiaaGreatDoor
set_option linter.unusedSimpArgs false
set_option linter.unusedVariables false
open Go Go.RowKit Go.Clo
noncomputable section
def vfS (bP bQ : Nat) (f : FuncId) (s : St) : List (Option Blk) := cond (Nat.beq f 33) [s.get bP, s.get bQ] [s.get 0, s.get 1]
def tbS (same : Bool) (z e zz : Int) (o : Bool) (p q : V) (bp bq : Option Blk) : Tb := fun f =>
  cond (Nat.beq f 18) (some fun _ _ => (.bool true, none)) (cond (Nat.beq f 48) (some fun _ _ => (.tup [p, i64 e], bp)) (cond (Nat.beq f 49) (some fun _ _ => (.tup [q, i64 e], bq)) (cond (Nat.beq f 50) (some fun _ _ => (.tup [.bool o, i64 zz], none)) (cond (Nat.beq f 51) (some fun _ _ => (.tup [.bool o, i64 zz], none))
  (cond (Nat.beq f 19) (some fun _ _ => (i64 z, none)) (cond (Nat.beq f 89) (some fun _ _ => (.bool (intBeq z 0), none)) (cond same (cond (Nat.beq f 33) (some fun _ _ => (.bool true, none)) none) none)))))))
def noS : Option V := some (.bool false)
def yesS : Option V := some (.bool true)
def fE (e zz : Int) (t : Option V) : Option V := cond (intBeq e e) (cond (intBeq zz zz) t noS) noS
def hdS (g18 g48 g49 g50 g51 : Bool) (t : Option V) : Option V := cond g18 (cond g48 (cond g49 (cond g50 (cond g51 t none) none) none) none) none
/-- Both ways to tell the sides of a valid find. -/
def sdS (g19 g89 : Bool) (sd : Int) (k : Option V → Option V) : Option V :=
  cond g19 (cond (intBeq sd 3) (cond g89 (cond (intBeq sd 3) (k yesS) (k noS)) none) (cond g89 (cond (intBeq sd 3) (k noS) (k (cond (!intBeq sd sd) noS yesS))) none)) none
end
section
variable (W0 : World) (e zz : Int) (l : List Mea) (c c' : List V) (ma mb : V) (no el sd : Int) (a b d e1 : Nat) (lo hi sex wear layer square : Int) (no' el' sd' : Int) (a' b' d' e' : Nat) (lo' hi' sex' wear' layer' square' : Int) (num : Int) (no2 el2 sd2 : Int) (a2 : Nat) (lo2 hi2 sex2 wear2 layer2 square2 : Int)
theorem sl_i : valK Tryz.prog (semN Tryz.prog W0 vfA (tbS false 20 e zz false zFind zFind none none)) 60 8 [(.agg (finL no el sd a b d e1 ma lo hi sex wear layer square)), (.agg (finL no' el' sd' a' b' d' e' mb lo' hi' sex' wear' layer' square')), i64 num] (st2 c c') = hdS (goodN Tryz.prog W0 vfA 18 [] (vwA c c') 0 (.bool true) none) (goodN Tryz.prog W0 vfA 48 [(.agg (finL no el sd a b d e1 ma lo hi sex wear layer square)), (.agg (finL no' el' sd' a' b' d' e' mb lo' hi' sex' wear' layer' square')), i64 num] (vwA c c') 0 (.tup [zFind, i64 e]) none) (goodN Tryz.prog W0 vfA 49 [(.agg (finL no el sd a b d e1 ma lo hi sex wear layer square)), (.agg (finL no' el' sd' a' b' d' e' mb lo' hi' sex' wear' layer' square')), i64 num] (vwA c c') 0 (.tup [zFind, i64 e]) none) (goodN Tryz.prog W0 vfA 50 [(.agg (finL no el sd a b d e1 ma lo hi sex wear layer square)), (.agg (finL no' el' sd' a' b' d' e' mb lo' hi' sex' wear' layer' square'))] (vwA c c') 0 (.tup [.bool false, i64 zz]) none) (goodN Tryz.prog W0 vfA 51 [(.agg (finL no el sd a b d e1 ma lo hi sex wear layer square)), (.agg (finL no' el' sd' a' b' d' e' mb lo' hi' sex' wear' layer' square'))] (vwA c c') 0 (.tup [.bool false, i64 zz]) none) (cond (goodN Tryz.prog W0 vfA 19 [(.agg (finL no el sd a b d e1 ma lo hi sex wear layer square))] (vwA c c') 0 (i64 20) none) (cond (goodN Tryz.prog W0 vfA 89 [(.agg (finL no el sd a b d e1 ma lo hi sex wear layer square))] (vwA c c') 0 (.bool (intBeq 20 0)) none) (fE e zz yesS) none) none) := by kernel_rfl
theorem slA_i : askK Tryz.prog (semN Tryz.prog W0 vfA (tbS false 20 e zz false zFind zFind none none)) 60 8 [(.agg (finL no el sd a b d e1 ma lo hi sex wear layer square)), (.agg (finL no' el' sd' a' b' d' e' mb lo' hi' sex' wear' layer' square')), i64 num] (st2 c c') false = askK Tryz.prog (semN Tryz.prog W0 vfA (tbS false 20 e zz false zFind zFind none none)) 60 8 [(.agg (finL no el sd a b d e1 ma lo hi sex wear layer square)), (.agg (finL no' el' sd' a' b' d' e' mb lo' hi' sex' wear' layer' square')), i64 num] (st2 c c') true := by kernel_rfl
theorem sl_v : valK Tryz.prog (semN Tryz.prog W0 vfA (tbS false 0 e zz false zFind zFind none none)) 60 8 [(.agg (finL no el sd a b d e1 ma lo hi sex wear layer square)), (.agg (finL no' el' sd' a' b' d' e' mb lo' hi' sex' wear' layer' square')), i64 num] (st2 c c') = hdS (goodN Tryz.prog W0 vfA 18 [] (vwA c c') 0 (.bool true) none) (goodN Tryz.prog W0 vfA 48 [(.agg (finL no el sd a b d e1 ma lo hi sex wear layer square)), (.agg (finL no' el' sd' a' b' d' e' mb lo' hi' sex' wear' layer' square')), i64 num] (vwA c c') 0 (.tup [zFind, i64 e]) none) (goodN Tryz.prog W0 vfA 49 [(.agg (finL no el sd a b d e1 ma lo hi sex wear layer square)), (.agg (finL no' el' sd' a' b' d' e' mb lo' hi' sex' wear' layer' square')), i64 num] (vwA c c') 0 (.tup [zFind, i64 e]) none) (goodN Tryz.prog W0 vfA 50 [(.agg (finL no el sd a b d e1 ma lo hi sex wear layer square)), (.agg (finL no' el' sd' a' b' d' e' mb lo' hi' sex' wear' layer' square'))] (vwA c c') 0 (.tup [.bool false, i64 zz]) none) (goodN Tryz.prog W0 vfA 51 [(.agg (finL no el sd a b d e1 ma lo hi sex wear layer square)), (.agg (finL no' el' sd' a' b' d' e' mb lo' hi' sex' wear' layer' square'))] (vwA c c') 0 (.tup [.bool false, i64 zz]) none) (sdS (goodN Tryz.prog W0 vfA 19 [(.agg (finL no el sd a b d e1 ma lo hi sex wear layer square))] (vwA c c') 0 (i64 0) none) (goodN Tryz.prog W0 vfA 89 [(.agg (finL no el sd a b d e1 ma lo hi sex wear layer square))] (vwA c c') 0 (.bool (intBeq 0 0)) none) sd (fE e zz)) := by kernel_rfl
theorem slA_v : askK Tryz.prog (semN Tryz.prog W0 vfA (tbS false 0 e zz false zFind zFind none none)) 60 8 [(.agg (finL no el sd a b d e1 ma lo hi sex wear layer square)), (.agg (finL no' el' sd' a' b' d' e' mb lo' hi' sex' wear' layer' square')), i64 num] (st2 c c') false = askK Tryz.prog (semN Tryz.prog W0 vfA (tbS false 0 e zz false zFind zFind none none)) 60 8 [(.agg (finL no el sd a b d e1 ma lo hi sex wear layer square)), (.agg (finL no' el' sd' a' b' d' e' mb lo' hi' sex' wear' layer' square')), i64 num] (st2 c c') true := by kernel_rfl
theorem sl_o : valK Tryz.prog (semN Tryz.prog W0 vfA (tbS false 0 e zz true zFind zFind none none)) 60 8 [(.agg (finL no el sd a b d e1 ma lo hi sex wear layer square)), (.agg (finL no' el' sd' a' b' d' e' mb lo' hi' sex' wear' layer' square')), i64 num] (st2 c c') = hdS (goodN Tryz.prog W0 vfA 18 [] (vwA c c') 0 (.bool true) none) (goodN Tryz.prog W0 vfA 48 [(.agg (finL no el sd a b d e1 ma lo hi sex wear layer square)), (.agg (finL no' el' sd' a' b' d' e' mb lo' hi' sex' wear' layer' square')), i64 num] (vwA c c') 0 (.tup [zFind, i64 e]) none) (goodN Tryz.prog W0 vfA 49 [(.agg (finL no el sd a b d e1 ma lo hi sex wear layer square)), (.agg (finL no' el' sd' a' b' d' e' mb lo' hi' sex' wear' layer' square')), i64 num] (vwA c c') 0 (.tup [zFind, i64 e]) none) (goodN Tryz.prog W0 vfA 50 [(.agg (finL no el sd a b d e1 ma lo hi sex wear layer square)), (.agg (finL no' el' sd' a' b' d' e' mb lo' hi' sex' wear' layer' square'))] (vwA c c') 0 (.tup [.bool true, i64 zz]) none) (goodN Tryz.prog W0 vfA 51 [(.agg (finL no el sd a b d e1 ma lo hi sex wear layer square)), (.agg (finL no' el' sd' a' b' d' e' mb lo' hi' sex' wear' layer' square'))] (vwA c c') 0 (.tup [.bool true, i64 zz]) none) (sdS (goodN Tryz.prog W0 vfA 19 [(.agg (finL no el sd a b d e1 ma lo hi sex wear layer square))] (vwA c c') 0 (i64 0) none) (goodN Tryz.prog W0 vfA 89 [(.agg (finL no el sd a b d e1 ma lo hi sex wear layer square))] (vwA c c') 0 (.bool (intBeq 0 0)) none) sd (fE e zz)) := by kernel_rfl
theorem slA_o : askK Tryz.prog (semN Tryz.prog W0 vfA (tbS false 0 e zz true zFind zFind none none)) 60 8 [(.agg (finL no el sd a b d e1 ma lo hi sex wear layer square)), (.agg (finL no' el' sd' a' b' d' e' mb lo' hi' sex' wear' layer' square')), i64 num] (st2 c c') false = askK Tryz.prog (semN Tryz.prog W0 vfA (tbS false 0 e zz true zFind zFind none none)) 60 8 [(.agg (finL no el sd a b d e1 ma lo hi sex wear layer square)), (.agg (finL no' el' sd' a' b' d' e' mb lo' hi' sex' wear' layer' square')), i64 num] (st2 c c') true := by kernel_rfl
theorem ss_rr : valK Tryz.prog (semN Tryz.prog W0 (vfS 4 6) (tbS true 0 0 0 false (.agg (finL no2 el2 sd2 a2 0 0 0 (slN 4 l) lo2 hi2 sex2 wear2 layer2 square2)) (.agg (finL no2 el2 sd2 a2 0 0 0 (slN 6 l) lo2 hi2 sex2 wear2 layer2 square2)) (rowB l) (rowB l))) 60 8 [(.agg (finL no el sd a b d e1 ma lo hi sex wear layer square)), (.agg (finL no' el' sd' a' b' d' e' mb lo' hi' sex' wear' layer' square')), i64 num] (st2 c c') = hdS (goodN Tryz.prog W0 (vfS 4 6) 18 [] (vwA c c') 0 (.bool true) none) (goodN Tryz.prog W0 (vfS 4 6) 48 [(.agg (finL no el sd a b d e1 ma lo hi sex wear layer square)), (.agg (finL no' el' sd' a' b' d' e' mb lo' hi' sex' wear' layer' square')), i64 num] (vwA c c') 4 (.tup [(.agg (finL no2 el2 sd2 a2 0 0 0 (slN 4 l) lo2 hi2 sex2 wear2 layer2 square2)), i64 0]) (rowB l)) (goodN Tryz.prog W0 (vfS 4 6) 49 [(.agg (finL no el sd a b d e1 ma lo hi sex wear layer square)), (.agg (finL no' el' sd' a' b' d' e' mb lo' hi' sex' wear' layer' square')), i64 num] (vwA c c') 6 (.tup [(.agg (finL no2 el2 sd2 a2 0 0 0 (slN 6 l) lo2 hi2 sex2 wear2 layer2 square2)), i64 0]) (rowB l)) (goodN Tryz.prog W0 (vfS 4 6) 50 [(.agg (finL no el sd a b d e1 ma lo hi sex wear layer square)), (.agg (finL no' el' sd' a' b' d' e' mb lo' hi' sex' wear' layer' square'))] (vwA c c') 0 (.tup [.bool false, i64 0]) none) (goodN Tryz.prog W0 (vfS 4 6) 51 [(.agg (finL no el sd a b d e1 ma lo hi sex wear layer square)), (.agg (finL no' el' sd' a' b' d' e' mb lo' hi' sex' wear' layer' square'))] (vwA c c') 0 (.tup [.bool false, i64 0]) none) (sdS (goodN Tryz.prog W0 (vfS 4 6) 19 [(.agg (finL no el sd a b d e1 ma lo hi sex wear layer square))] (vwA c c') 0 (i64 0) none) (goodN Tryz.prog W0 (vfS 4 6) 89 [(.agg (finL no el sd a b d e1 ma lo hi sex wear layer square))] (vwA c c') 0 (.bool (intBeq 0 0)) none) sd fun t => cond (goodN Tryz.prog W0 (vfS 4 6) 33 [(.agg (finL no2 el2 sd2 a2 0 0 0 (slN 4 l) lo2 hi2 sex2 wear2 layer2 square2)), (.agg (finL no2 el2 sd2 a2 0 0 0 (slN 6 l) lo2 hi2 sex2 wear2 layer2 square2))] [(rowB l), (rowB l)] 0 (.bool true) none) t none) := by kernel_rfl
theorem ssA_rr : askK Tryz.prog (semN Tryz.prog W0 (vfS 4 6) (tbS true 0 0 0 false (.agg (finL no2 el2 sd2 a2 0 0 0 (slN 4 l) lo2 hi2 sex2 wear2 layer2 square2)) (.agg (finL no2 el2 sd2 a2 0 0 0 (slN 6 l) lo2 hi2 sex2 wear2 layer2 square2)) (rowB l) (rowB l))) 60 8 [(.agg (finL no el sd a b d e1 ma lo hi sex wear layer square)), (.agg (finL no' el' sd' a' b' d' e' mb lo' hi' sex' wear' layer' square')), i64 num] (st2 c c') false = askK Tryz.prog (semN Tryz.prog W0 (vfS 4 6) (tbS true 0 0 0 false (.agg (finL no2 el2 sd2 a2 0 0 0 (slN 4 l) lo2 hi2 sex2 wear2 layer2 square2)) (.agg (finL no2 el2 sd2 a2 0 0 0 (slN 6 l) lo2 hi2 sex2 wear2 layer2 square2)) (rowB l) (rowB l))) 60 8 [(.agg (finL no el sd a b d e1 ma lo hi sex wear layer square)), (.agg (finL no' el' sd' a' b' d' e' mb lo' hi' sex' wear' layer' square')), i64 num] (st2 c c') true := by kernel_rfl
theorem ss_rn : valK Tryz.prog (semN Tryz.prog W0 (vfS 4 6) (tbS true 0 0 0 false (.agg (finL no2 el2 sd2 a2 0 0 0 (slN 4 l) lo2 hi2 sex2 wear2 layer2 square2)) (.agg (finL no2 el2 sd2 a2 0 0 0 .nils lo2 hi2 sex2 wear2 layer2 square2)) (rowB l) none)) 60 8 [(.agg (finL no el sd a b d e1 ma lo hi sex wear layer square)), (.agg (finL no' el' sd' a' b' d' e' mb lo' hi' sex' wear' layer' square')), i64 num] (st2 c c') = hdS (goodN Tryz.prog W0 (vfS 4 6) 18 [] (vwA c c') 0 (.bool true) none) (goodN Tryz.prog W0 (vfS 4 6) 48 [(.agg (finL no el sd a b d e1 ma lo hi sex wear layer square)), (.agg (finL no' el' sd' a' b' d' e' mb lo' hi' sex' wear' layer' square')), i64 num] (vwA c c') 4 (.tup [(.agg (finL no2 el2 sd2 a2 0 0 0 (slN 4 l) lo2 hi2 sex2 wear2 layer2 square2)), i64 0]) (rowB l)) (goodN Tryz.prog W0 (vfS 4 6) 49 [(.agg (finL no el sd a b d e1 ma lo hi sex wear layer square)), (.agg (finL no' el' sd' a' b' d' e' mb lo' hi' sex' wear' layer' square')), i64 num] (vwA c c') 0 (.tup [(.agg (finL no2 el2 sd2 a2 0 0 0 .nils lo2 hi2 sex2 wear2 layer2 square2)), i64 0]) none) (goodN Tryz.prog W0 (vfS 4 6) 50 [(.agg (finL no el sd a b d e1 ma lo hi sex wear layer square)), (.agg (finL no' el' sd' a' b' d' e' mb lo' hi' sex' wear' layer' square'))] (vwA c c') 0 (.tup [.bool false, i64 0]) none) (goodN Tryz.prog W0 (vfS 4 6) 51 [(.agg (finL no el sd a b d e1 ma lo hi sex wear layer square)), (.agg (finL no' el' sd' a' b' d' e' mb lo' hi' sex' wear' layer' square'))] (vwA c c') 0 (.tup [.bool false, i64 0]) none) (sdS (goodN Tryz.prog W0 (vfS 4 6) 19 [(.agg (finL no el sd a b d e1 ma lo hi sex wear layer square))] (vwA c c') 0 (i64 0) none) (goodN Tryz.prog W0 (vfS 4 6) 89 [(.agg (finL no el sd a b d e1 ma lo hi sex wear layer square))] (vwA c c') 0 (.bool (intBeq 0 0)) none) sd fun t => cond (goodN Tryz.prog W0 (vfS 4 6) 33 [(.agg (finL no2 el2 sd2 a2 0 0 0 (slN 4 l) lo2 hi2 sex2 wear2 layer2 square2)), (.agg (finL no2 el2 sd2 a2 0 0 0 .nils lo2 hi2 sex2 wear2 layer2 square2))] [(rowB l), (some (.cells (finL no2 el2 sd2 a2 0 0 0 .nils lo2 hi2 sex2 wear2 layer2 square2) 29))] 0 (.bool true) none) t none) := by kernel_rfl
theorem ssA_rn : askK Tryz.prog (semN Tryz.prog W0 (vfS 4 6) (tbS true 0 0 0 false (.agg (finL no2 el2 sd2 a2 0 0 0 (slN 4 l) lo2 hi2 sex2 wear2 layer2 square2)) (.agg (finL no2 el2 sd2 a2 0 0 0 .nils lo2 hi2 sex2 wear2 layer2 square2)) (rowB l) none)) 60 8 [(.agg (finL no el sd a b d e1 ma lo hi sex wear layer square)), (.agg (finL no' el' sd' a' b' d' e' mb lo' hi' sex' wear' layer' square')), i64 num] (st2 c c') false = askK Tryz.prog (semN Tryz.prog W0 (vfS 4 6) (tbS true 0 0 0 false (.agg (finL no2 el2 sd2 a2 0 0 0 (slN 4 l) lo2 hi2 sex2 wear2 layer2 square2)) (.agg (finL no2 el2 sd2 a2 0 0 0 .nils lo2 hi2 sex2 wear2 layer2 square2)) (rowB l) none)) 60 8 [(.agg (finL no el sd a b d e1 ma lo hi sex wear layer square)), (.agg (finL no' el' sd' a' b' d' e' mb lo' hi' sex' wear' layer' square')), i64 num] (st2 c c') true := by kernel_rfl
theorem ss_nr : valK Tryz.prog (semN Tryz.prog W0 (vfS 4 5) (tbS true 0 0 0 false (.agg (finL no2 el2 sd2 a2 0 0 0 .nils lo2 hi2 sex2 wear2 layer2 square2)) (.agg (finL no2 el2 sd2 a2 0 0 0 (slN 5 l) lo2 hi2 sex2 wear2 layer2 square2)) none (rowB l))) 60 8 [(.agg (finL no el sd a b d e1 ma lo hi sex wear layer square)), (.agg (finL no' el' sd' a' b' d' e' mb lo' hi' sex' wear' layer' square')), i64 num] (st2 c c') = hdS (goodN Tryz.prog W0 (vfS 4 5) 18 [] (vwA c c') 0 (.bool true) none) (goodN Tryz.prog W0 (vfS 4 5) 48 [(.agg (finL no el sd a b d e1 ma lo hi sex wear layer square)), (.agg (finL no' el' sd' a' b' d' e' mb lo' hi' sex' wear' layer' square')), i64 num] (vwA c c') 0 (.tup [(.agg (finL no2 el2 sd2 a2 0 0 0 .nils lo2 hi2 sex2 wear2 layer2 square2)), i64 0]) none) (goodN Tryz.prog W0 (vfS 4 5) 49 [(.agg (finL no el sd a b d e1 ma lo hi sex wear layer square)), (.agg (finL no' el' sd' a' b' d' e' mb lo' hi' sex' wear' layer' square')), i64 num] (vwA c c') 5 (.tup [(.agg (finL no2 el2 sd2 a2 0 0 0 (slN 5 l) lo2 hi2 sex2 wear2 layer2 square2)), i64 0]) (rowB l)) (goodN Tryz.prog W0 (vfS 4 5) 50 [(.agg (finL no el sd a b d e1 ma lo hi sex wear layer square)), (.agg (finL no' el' sd' a' b' d' e' mb lo' hi' sex' wear' layer' square'))] (vwA c c') 0 (.tup [.bool false, i64 0]) none) (goodN Tryz.prog W0 (vfS 4 5) 51 [(.agg (finL no el sd a b d e1 ma lo hi sex wear layer square)), (.agg (finL no' el' sd' a' b' d' e' mb lo' hi' sex' wear' layer' square'))] (vwA c c') 0 (.tup [.bool false, i64 0]) none) (sdS (goodN Tryz.prog W0 (vfS 4 5) 19 [(.agg (finL no el sd a b d e1 ma lo hi sex wear layer square))] (vwA c c') 0 (i64 0) none) (goodN Tryz.prog W0 (vfS 4 5) 89 [(.agg (finL no el sd a b d e1 ma lo hi sex wear layer square))] (vwA c c') 0 (.bool (intBeq 0 0)) none) sd fun t => cond (goodN Tryz.prog W0 (vfS 4 5) 33 [(.agg (finL no2 el2 sd2 a2 0 0 0 .nils lo2 hi2 sex2 wear2 layer2 square2)), (.agg (finL no2 el2 sd2 a2 0 0 0 (slN 5 l) lo2 hi2 sex2 wear2 layer2 square2))] [(some (.cells (finL no2 el2 sd2 a2 0 0 0 .nils lo2 hi2 sex2 wear2 layer2 square2) 29)), (rowB l)] 0 (.bool true) none) t none) := by kernel_rfl
theorem ssA_nr : askK Tryz.prog (semN Tryz.prog W0 (vfS 4 5) (tbS true 0 0 0 false (.agg (finL no2 el2 sd2 a2 0 0 0 .nils lo2 hi2 sex2 wear2 layer2 square2)) (.agg (finL no2 el2 sd2 a2 0 0 0 (slN 5 l) lo2 hi2 sex2 wear2 layer2 square2)) none (rowB l))) 60 8 [(.agg (finL no el sd a b d e1 ma lo hi sex wear layer square)), (.agg (finL no' el' sd' a' b' d' e' mb lo' hi' sex' wear' layer' square')), i64 num] (st2 c c') false = askK Tryz.prog (semN Tryz.prog W0 (vfS 4 5) (tbS true 0 0 0 false (.agg (finL no2 el2 sd2 a2 0 0 0 .nils lo2 hi2 sex2 wear2 layer2 square2)) (.agg (finL no2 el2 sd2 a2 0 0 0 (slN 5 l) lo2 hi2 sex2 wear2 layer2 square2)) none (rowB l))) 60 8 [(.agg (finL no el sd a b d e1 ma lo hi sex wear layer square)), (.agg (finL no' el' sd' a' b' d' e' mb lo' hi' sex' wear' layer' square')), i64 num] (st2 c c') true := by kernel_rfl
theorem ss_nn : valK Tryz.prog (semN Tryz.prog W0 (vfS 4 5) (tbS true 0 0 0 false (.agg (finL no2 el2 sd2 a2 0 0 0 .nils lo2 hi2 sex2 wear2 layer2 square2)) (.agg (finL no2 el2 sd2 a2 0 0 0 .nils lo2 hi2 sex2 wear2 layer2 square2)) none none)) 60 8 [(.agg (finL no el sd a b d e1 ma lo hi sex wear layer square)), (.agg (finL no' el' sd' a' b' d' e' mb lo' hi' sex' wear' layer' square')), i64 num] (st2 c c') = hdS (goodN Tryz.prog W0 (vfS 4 5) 18 [] (vwA c c') 0 (.bool true) none) (goodN Tryz.prog W0 (vfS 4 5) 48 [(.agg (finL no el sd a b d e1 ma lo hi sex wear layer square)), (.agg (finL no' el' sd' a' b' d' e' mb lo' hi' sex' wear' layer' square')), i64 num] (vwA c c') 0 (.tup [(.agg (finL no2 el2 sd2 a2 0 0 0 .nils lo2 hi2 sex2 wear2 layer2 square2)), i64 0]) none) (goodN Tryz.prog W0 (vfS 4 5) 49 [(.agg (finL no el sd a b d e1 ma lo hi sex wear layer square)), (.agg (finL no' el' sd' a' b' d' e' mb lo' hi' sex' wear' layer' square')), i64 num] (vwA c c') 0 (.tup [(.agg (finL no2 el2 sd2 a2 0 0 0 .nils lo2 hi2 sex2 wear2 layer2 square2)), i64 0]) none) (goodN Tryz.prog W0 (vfS 4 5) 50 [(.agg (finL no el sd a b d e1 ma lo hi sex wear layer square)), (.agg (finL no' el' sd' a' b' d' e' mb lo' hi' sex' wear' layer' square'))] (vwA c c') 0 (.tup [.bool false, i64 0]) none) (goodN Tryz.prog W0 (vfS 4 5) 51 [(.agg (finL no el sd a b d e1 ma lo hi sex wear layer square)), (.agg (finL no' el' sd' a' b' d' e' mb lo' hi' sex' wear' layer' square'))] (vwA c c') 0 (.tup [.bool false, i64 0]) none) (sdS (goodN Tryz.prog W0 (vfS 4 5) 19 [(.agg (finL no el sd a b d e1 ma lo hi sex wear layer square))] (vwA c c') 0 (i64 0) none) (goodN Tryz.prog W0 (vfS 4 5) 89 [(.agg (finL no el sd a b d e1 ma lo hi sex wear layer square))] (vwA c c') 0 (.bool (intBeq 0 0)) none) sd fun t => cond (goodN Tryz.prog W0 (vfS 4 5) 33 [(.agg (finL no2 el2 sd2 a2 0 0 0 .nils lo2 hi2 sex2 wear2 layer2 square2)), (.agg (finL no2 el2 sd2 a2 0 0 0 .nils lo2 hi2 sex2 wear2 layer2 square2))] [(some (.cells (finL no2 el2 sd2 a2 0 0 0 .nils lo2 hi2 sex2 wear2 layer2 square2) 29)), (some (.cells (finL no2 el2 sd2 a2 0 0 0 .nils lo2 hi2 sex2 wear2 layer2 square2) 29))] 0 (.bool true) none) t none) := by kernel_rfl
theorem ssA_nn : askK Tryz.prog (semN Tryz.prog W0 (vfS 4 5) (tbS true 0 0 0 false (.agg (finL no2 el2 sd2 a2 0 0 0 .nils lo2 hi2 sex2 wear2 layer2 square2)) (.agg (finL no2 el2 sd2 a2 0 0 0 .nils lo2 hi2 sex2 wear2 layer2 square2)) none none)) 60 8 [(.agg (finL no el sd a b d e1 ma lo hi sex wear layer square)), (.agg (finL no' el' sd' a' b' d' e' mb lo' hi' sex' wear' layer' square')), i64 num] (st2 c c') false = askK Tryz.prog (semN Tryz.prog W0 (vfS 4 5) (tbS true 0 0 0 false (.agg (finL no2 el2 sd2 a2 0 0 0 .nils lo2 hi2 sex2 wear2 layer2 square2)) (.agg (finL no2 el2 sd2 a2 0 0 0 .nils lo2 hi2 sex2 wear2 layer2 square2)) none none)) 60 8 [(.agg (finL no el sd a b d e1 ma lo hi sex wear layer square)), (.agg (finL no' el' sd' a' b' d' e' mb lo' hi' sex' wear' layer' square')), i64 num] (st2 c c') true := by kernel_rfl
end
end Go.Proofs.YtilfiadkhohfiaaGreatDoor
/- Layer 2: joins of finds, in runs. -/
set_option linter.unusedVariables false
set_option maxRecDepth 100000
namespace Go.Proofs.YtilfiadkhohfiaaGreatDoor
set_option linter.unusedSimpArgs false
set_option linter.unusedVariables false
open Go Go.RowKit Go.Clo
variable {W : World}

theorem ss_all (f g : Fd) (num : Int) (l : List Mea) (np nq : Bool) : valK Tryz.prog (semN Tryz.prog W (vfS 4 (bQ np)) (tbS true 0 0 0 false ((jFd f g num).im (mvK np 4 l)) ((jFd f g num).im (mvK nq (bQ np) l)) (bkK np l) (bkK nq l))) 60 8 [f.iv 0, g.iv 1, i64 num] (st2 (meaC f.l) (meaC g.l)) = hdS (goodN Tryz.prog W (vfS 4 (bQ np)) 18 [] (vwA (meaC f.l) (meaC g.l)) 0 (.bool true) none) (goodN Tryz.prog W (vfS 4 (bQ np)) 48 [f.iv 0, g.iv 1, i64 num] (vwA (meaC f.l) (meaC g.l)) (cond np 0 4) (.tup [(jFd f g num).im (mvK np 4 l), i64 0]) (bkK np l)) (goodN Tryz.prog W (vfS 4 (bQ np)) 49 [f.iv 0, g.iv 1, i64 num] (vwA (meaC f.l) (meaC g.l)) (cond nq 0 (bQ np)) (.tup [(jFd f g num).im (mvK nq (bQ np) l), i64 0]) (bkK nq l)) (goodN Tryz.prog W (vfS 4 (bQ np)) 50 [f.iv 0, g.iv 1] (vwA (meaC f.l) (meaC g.l)) 0 (.tup [.bool false, i64 0]) none) (goodN Tryz.prog W (vfS 4 (bQ np)) 51 [f.iv 0, g.iv 1] (vwA (meaC f.l) (meaC g.l)) 0 (.tup [.bool false, i64 0]) none)
    (sdS (goodN Tryz.prog W (vfS 4 (bQ np)) 19 [f.iv 0] (vwA (meaC f.l) (meaC g.l)) 0 (i64 0) none) (goodN Tryz.prog W (vfS 4 (bQ np)) 89 [f.iv 0] (vwA (meaC f.l) (meaC g.l)) 0 (.bool (intBeq 0 0)) none) f.sd fun t => cond (goodN Tryz.prog W (vfS 4 (bQ np)) 33 [(jFd f g num).im (mvK np 4 l), (jFd f g num).im (mvK nq (bQ np) l)] [seenK np (jFd f g num) l, seenK nq (jFd f g num) l] 0 (.bool true) none) t none) := match np, nq with
  | false, false => ss_rr W l (meaC f.l) (meaC g.l) (mvOf 0 f.oc f.l) (mvOf 1 g.oc g.l) f.no f.el f.sd f.a f.b f.d f.e f.lo f.hi f.sex f.wear f.layer f.square g.no g.el g.sd g.a g.b g.d g.e g.lo g.hi g.sex g.wear g.layer g.square num (jFd f g num).no (jFd f g num).el (jFd f g num).sd (jFd f g num).a (jFd f g num).lo (jFd f g num).hi (jFd f g num).sex (jFd f g num).wear (jFd f g num).layer (jFd f g num).square
  | false, true => ss_rn W l (meaC f.l) (meaC g.l) (mvOf 0 f.oc f.l) (mvOf 1 g.oc g.l) f.no f.el f.sd f.a f.b f.d f.e f.lo f.hi f.sex f.wear f.layer f.square g.no g.el g.sd g.a g.b g.d g.e g.lo g.hi g.sex g.wear g.layer g.square num (jFd f g num).no (jFd f g num).el (jFd f g num).sd (jFd f g num).a (jFd f g num).lo (jFd f g num).hi (jFd f g num).sex (jFd f g num).wear (jFd f g num).layer (jFd f g num).square
  | true, false => ss_nr W l (meaC f.l) (meaC g.l) (mvOf 0 f.oc f.l) (mvOf 1 g.oc g.l) f.no f.el f.sd f.a f.b f.d f.e f.lo f.hi f.sex f.wear f.layer f.square g.no g.el g.sd g.a g.b g.d g.e g.lo g.hi g.sex g.wear g.layer g.square num (jFd f g num).no (jFd f g num).el (jFd f g num).sd (jFd f g num).a (jFd f g num).lo (jFd f g num).hi (jFd f g num).sex (jFd f g num).wear (jFd f g num).layer (jFd f g num).square
  | true, true => ss_nn W (meaC f.l) (meaC g.l) (mvOf 0 f.oc f.l) (mvOf 1 g.oc g.l) f.no f.el f.sd f.a f.b f.d f.e f.lo f.hi f.sex f.wear f.layer f.square g.no g.el g.sd g.a g.b g.d g.e g.lo g.hi g.sex g.wear g.layer g.square num (jFd f g num).no (jFd f g num).el (jFd f g num).sd (jFd f g num).a (jFd f g num).lo (jFd f g num).hi (jFd f g num).sex (jFd f g num).wear (jFd f g num).layer (jFd f g num).square
theorem ss_allA (f g : Fd) (num : Int) (l : List Mea) (np nq : Bool) : askK Tryz.prog (semN Tryz.prog W (vfS 4 (bQ np)) (tbS true 0 0 0 false ((jFd f g num).im (mvK np 4 l)) ((jFd f g num).im (mvK nq (bQ np) l)) (bkK np l) (bkK nq l))) 60 8 [f.iv 0, g.iv 1, i64 num] (st2 (meaC f.l) (meaC g.l)) false = askK Tryz.prog (semN Tryz.prog W (vfS 4 (bQ np)) (tbS true 0 0 0 false ((jFd f g num).im (mvK np 4 l)) ((jFd f g num).im (mvK nq (bQ np) l)) (bkK np l) (bkK nq l))) 60 8 [f.iv 0, g.iv 1, i64 num] (st2 (meaC f.l) (meaC g.l)) true := match np, nq with
  | false, false => ssA_rr W l (meaC f.l) (meaC g.l) (mvOf 0 f.oc f.l) (mvOf 1 g.oc g.l) f.no f.el f.sd f.a f.b f.d f.e f.lo f.hi f.sex f.wear f.layer f.square g.no g.el g.sd g.a g.b g.d g.e g.lo g.hi g.sex g.wear g.layer g.square num (jFd f g num).no (jFd f g num).el (jFd f g num).sd (jFd f g num).a (jFd f g num).lo (jFd f g num).hi (jFd f g num).sex (jFd f g num).wear (jFd f g num).layer (jFd f g num).square
  | false, true => ssA_rn W l (meaC f.l) (meaC g.l) (mvOf 0 f.oc f.l) (mvOf 1 g.oc g.l) f.no f.el f.sd f.a f.b f.d f.e f.lo f.hi f.sex f.wear f.layer f.square g.no g.el g.sd g.a g.b g.d g.e g.lo g.hi g.sex g.wear g.layer g.square num (jFd f g num).no (jFd f g num).el (jFd f g num).sd (jFd f g num).a (jFd f g num).lo (jFd f g num).hi (jFd f g num).sex (jFd f g num).wear (jFd f g num).layer (jFd f g num).square
  | true, false => ssA_nr W l (meaC f.l) (meaC g.l) (mvOf 0 f.oc f.l) (mvOf 1 g.oc g.l) f.no f.el f.sd f.a f.b f.d f.e f.lo f.hi f.sex f.wear f.layer f.square g.no g.el g.sd g.a g.b g.d g.e g.lo g.hi g.sex g.wear g.layer g.square num (jFd f g num).no (jFd f g num).el (jFd f g num).sd (jFd f g num).a (jFd f g num).lo (jFd f g num).hi (jFd f g num).sex (jFd f g num).wear (jFd f g num).layer (jFd f g num).square
  | true, true => ssA_nn W (meaC f.l) (meaC g.l) (mvOf 0 f.oc f.l) (mvOf 1 g.oc g.l) f.no f.el f.sd f.a f.b f.d f.e f.lo f.hi f.sex f.wear f.layer f.square g.no g.el g.sd g.a g.b g.d g.e g.lo g.hi g.sex g.wear g.layer g.square num (jFd f g num).no (jFd f g num).el (jFd f g num).sd (jFd f g num).a (jFd f g num).lo (jFd f g num).hi (jFd f g num).sex (jFd f g num).wear (jFd f g num).layer (jFd f g num).square
theorem fE_eq (e zz : Int) (t : Option V) : fE e zz t = t := by
  unfold fE
  rw [(intBeq_iff e e).2 rfl, (intBeq_iff zz zz).2 rfl]; rfl
theorem sdS_eq (sd : Int) {k : Option V → Option V} (hk : ∀ t, k t = t) : sdS true true sd k = yesS := by
  unfold sdS
  rw [hk, hk, hk, (intBeq_iff sd sd).2 rfl]
  cases intBeq sd 3 <;> rfl
/-- The law FindsJoinedSpec returns true, if its sane does. -/
theorem spec_law (hmix : Tryz.prog.follows .mixedOrders = true) (hs0 : 0 < W.heap.size) (hsane : ∀ w, Below W.heap.size W w → Calls Tryz.prog 18 #[] w fun e w' => e = .returned (.bool true) ∧ Below w.heap.size w w') (hchk : ∀ p : Fd, p.OK → ∃ z, Checks W p z ∧ ChecksR W p z)
    {f g : Fd} (hf : f.OK) (hg : g.OK) (num : Int) {ms ms' : Value} (hm : MeaAt W ms f.oc f.l) (hm' : MeaAt W ms' g.oc g.l) :
    Calls Tryz.prog 8 #[f.U ms, g.U ms', .int .i64 num] W fun e w' => e = .returned (.bool true) ∧ Below W.heap.size W w' := by
  obtain ⟨z, hz, hr⟩ := hchk f hf
  obtain ⟨z', hz', hr'⟩ := hchk g hg
  have fin : ∀ {S : SHook}, HookOK Tryz.prog W (hookOf S) → valK Tryz.prog S 60 8 [f.iv 0, g.iv 1, i64 num] (st2 (meaC f.l) (meaC g.l)) = some (.bool true) →
      askK Tryz.prog S 60 8 [f.iv 0, g.iv 1, i64 num] (st2 (meaC f.l) (meaC g.l)) false = askK Tryz.prog S 60 8 [f.iv 0, g.iv 1, i64 num] (st2 (meaC f.l) (meaC g.l)) true →
      Calls Tryz.prog 8 #[f.U ms, g.U ms', .int .i64 num] W fun e w' => e = .returned (.bool true) ∧ Below W.heap.size W w' := by
    intro S hS hv ha
    refine (pair_calls hmix hS (xs := [i64 num]) (ys := [.int .i64 num]) (fun ρ => EL.cons (E_i64 _) EL.nil) hv ha hm hm').mono ?_
    rintro e w' ⟨ρ', u, rfl, hb, hE⟩
    exact ⟨by rw [E_bool_inv hE], hb⟩
  by_cases hfail : failJ f g z z' num
  · have g18 := good18 hsane (vf := vfA) (vw := (vwA (meaC f.l) (meaC g.l)))
    have g48 : goodN Tryz.prog W vfA 48 [f.iv 0, g.iv 1, i64 num] (vwA (meaC f.l) (meaC g.l)) 0 (.tup [zFind, i64 (errJ f g z z' num)]) none = true := goodN_true fun s hvw _ => by
      obtain ⟨k0, k1⟩ := seen (vf := vfA) (fn := 48) rfl hvw
      exact good48e hmix hs0 hf hg hz hz' hfail k0 k1
    have g49 : goodN Tryz.prog W vfA 49 [f.iv 0, g.iv 1, i64 num] (vwA (meaC f.l) (meaC g.l)) 0 (.tup [zFind, i64 (errJ f g z z' num)]) none = true := goodN_true fun s hvw _ => by
      obtain ⟨k0, k1⟩ := seen (vf := vfA) (fn := 49) rfl hvw
      exact good49e hmix hs0 hf hg hz hz' hr hr' hfail k0 k1
    have g50 : goodN Tryz.prog W vfA 50 [f.iv 0, g.iv 1] (vwA (meaC f.l) (meaC g.l)) 0 (.tup [.bool (ovR f g z z'), i64 (bothZ z z')]) none = true := goodN_true fun s hvw _ => by
      obtain ⟨k0, k1⟩ := seen (vf := vfA) (fn := 50) rfl hvw
      exact good50 hmix hs0 hf hg hz hz' k0 k1
    have g51 : goodN Tryz.prog W vfA 51 [f.iv 0, g.iv 1] (vwA (meaC f.l) (meaC g.l)) 0 (.tup [.bool (ovR f g z z'), i64 (bothZ z z')]) none = true := goodN_true fun s hvw _ => by
      obtain ⟨k0, k1⟩ := seen (vf := vfA) (fn := 51) rfl hvw
      exact good51 hmix hs0 hf hg hz hz' hr hr' k0 k1
    have g19 : goodN Tryz.prog W vfA 19 [f.iv 0] (vwA (meaC f.l) (meaC g.l)) 0 (i64 z) none = true := goodN_true fun s hvw _ => good19 hs0 hf hz (seen (vf := vfA) (fn := 19) rfl hvw).1
    have g89 : goodN Tryz.prog W vfA 89 [f.iv 0] (vwA (meaC f.l) (meaC g.l)) 0 (.bool (intBeq z 0)) none = true := goodN_true fun s hvw _ => good89 hs0 hf hr (seen (vf := vfA) (fn := 89) rfl hvw).1
    rcases hz.z with hz0 | hz20
    · subst hz0
      cases ho : ovR f g 0 z' with
      | false =>
        rw [ho] at g50 g51
        have hv : valK Tryz.prog (semN Tryz.prog W vfA (tbS false 0 (errJ f g 0 z' num) (bothZ 0 z') false zFind zFind none none)) 60 8 [f.iv 0, g.iv 1, i64 num] (st2 (meaC f.l) (meaC g.l)) = hdS (goodN Tryz.prog W vfA 18 [] (vwA (meaC f.l) (meaC g.l)) 0 (.bool true) none) (goodN Tryz.prog W vfA 48 [f.iv 0, g.iv 1, i64 num] (vwA (meaC f.l) (meaC g.l)) 0 (.tup [zFind, i64 (errJ f g 0 z' num)]) none) (goodN Tryz.prog W vfA 49 [f.iv 0, g.iv 1, i64 num] (vwA (meaC f.l) (meaC g.l)) 0 (.tup [zFind, i64 (errJ f g 0 z' num)]) none) (goodN Tryz.prog W vfA 50 [f.iv 0, g.iv 1] (vwA (meaC f.l) (meaC g.l)) 0 (.tup [.bool false, i64 (bothZ 0 z')]) none) (goodN Tryz.prog W vfA 51 [f.iv 0, g.iv 1] (vwA (meaC f.l) (meaC g.l)) 0 (.tup [.bool false, i64 (bothZ 0 z')]) none) (sdS (goodN Tryz.prog W vfA 19 [f.iv 0] (vwA (meaC f.l) (meaC g.l)) 0 (i64 0) none) (goodN Tryz.prog W vfA 89 [f.iv 0] (vwA (meaC f.l) (meaC g.l)) 0 (.bool (intBeq 0 0)) none) f.sd (fE (errJ f g 0 z' num) (bothZ 0 z'))) :=
          sl_v W (errJ f g 0 z' num) (bothZ 0 z') (meaC f.l) (meaC g.l) (mvOf 0 f.oc f.l) (mvOf 1 g.oc g.l) f.no f.el f.sd f.a f.b f.d f.e f.lo f.hi f.sex f.wear f.layer f.square g.no g.el g.sd g.a g.b g.d g.e g.lo g.hi g.sex g.wear g.layer g.square num
        rw [g18, g48, g49, g50, g51, g19, g89, sdS_eq _ (fE_eq _ _)] at hv
        exact fin semN_ok hv (slA_v W (errJ f g 0 z' num) (bothZ 0 z') (meaC f.l) (meaC g.l) (mvOf 0 f.oc f.l) (mvOf 1 g.oc g.l) f.no f.el f.sd f.a f.b f.d f.e f.lo f.hi f.sex f.wear f.layer f.square g.no g.el g.sd g.a g.b g.d g.e g.lo g.hi g.sex g.wear g.layer g.square num)
      | true =>
        rw [ho] at g50 g51
        have hv : valK Tryz.prog (semN Tryz.prog W vfA (tbS false 0 (errJ f g 0 z' num) (bothZ 0 z') true zFind zFind none none)) 60 8 [f.iv 0, g.iv 1, i64 num] (st2 (meaC f.l) (meaC g.l)) = hdS (goodN Tryz.prog W vfA 18 [] (vwA (meaC f.l) (meaC g.l)) 0 (.bool true) none) (goodN Tryz.prog W vfA 48 [f.iv 0, g.iv 1, i64 num] (vwA (meaC f.l) (meaC g.l)) 0 (.tup [zFind, i64 (errJ f g 0 z' num)]) none) (goodN Tryz.prog W vfA 49 [f.iv 0, g.iv 1, i64 num] (vwA (meaC f.l) (meaC g.l)) 0 (.tup [zFind, i64 (errJ f g 0 z' num)]) none) (goodN Tryz.prog W vfA 50 [f.iv 0, g.iv 1] (vwA (meaC f.l) (meaC g.l)) 0 (.tup [.bool true, i64 (bothZ 0 z')]) none) (goodN Tryz.prog W vfA 51 [f.iv 0, g.iv 1] (vwA (meaC f.l) (meaC g.l)) 0 (.tup [.bool true, i64 (bothZ 0 z')]) none) (sdS (goodN Tryz.prog W vfA 19 [f.iv 0] (vwA (meaC f.l) (meaC g.l)) 0 (i64 0) none) (goodN Tryz.prog W vfA 89 [f.iv 0] (vwA (meaC f.l) (meaC g.l)) 0 (.bool (intBeq 0 0)) none) f.sd (fE (errJ f g 0 z' num) (bothZ 0 z'))) :=
          sl_o W (errJ f g 0 z' num) (bothZ 0 z') (meaC f.l) (meaC g.l) (mvOf 0 f.oc f.l) (mvOf 1 g.oc g.l) f.no f.el f.sd f.a f.b f.d f.e f.lo f.hi f.sex f.wear f.layer f.square g.no g.el g.sd g.a g.b g.d g.e g.lo g.hi g.sex g.wear g.layer g.square num
        rw [g18, g48, g49, g50, g51, g19, g89, sdS_eq _ (fE_eq _ _)] at hv
        exact fin semN_ok hv (slA_o W (errJ f g 0 z' num) (bothZ 0 z') (meaC f.l) (meaC g.l) (mvOf 0 f.oc f.l) (mvOf 1 g.oc g.l) f.no f.el f.sd f.a f.b f.d f.e f.lo f.hi f.sex f.wear f.layer f.square g.no g.el g.sd g.a g.b g.d g.e g.lo g.hi g.sex g.wear g.layer g.square num)
    · subst hz20
      have ho : ovR f g 20 z' = false := rfl
      rw [ho] at g50 g51
      have hv : valK Tryz.prog (semN Tryz.prog W vfA (tbS false 20 (errJ f g 20 z' num) (bothZ 20 z') false zFind zFind none none)) 60 8 [f.iv 0, g.iv 1, i64 num] (st2 (meaC f.l) (meaC g.l)) = hdS (goodN Tryz.prog W vfA 18 [] (vwA (meaC f.l) (meaC g.l)) 0 (.bool true) none) (goodN Tryz.prog W vfA 48 [f.iv 0, g.iv 1, i64 num] (vwA (meaC f.l) (meaC g.l)) 0 (.tup [zFind, i64 (errJ f g 20 z' num)]) none) (goodN Tryz.prog W vfA 49 [f.iv 0, g.iv 1, i64 num] (vwA (meaC f.l) (meaC g.l)) 0 (.tup [zFind, i64 (errJ f g 20 z' num)]) none) (goodN Tryz.prog W vfA 50 [f.iv 0, g.iv 1] (vwA (meaC f.l) (meaC g.l)) 0 (.tup [.bool false, i64 (bothZ 20 z')]) none) (goodN Tryz.prog W vfA 51 [f.iv 0, g.iv 1] (vwA (meaC f.l) (meaC g.l)) 0 (.tup [.bool false, i64 (bothZ 20 z')]) none) (cond (goodN Tryz.prog W vfA 19 [f.iv 0] (vwA (meaC f.l) (meaC g.l)) 0 (i64 20) none) (cond (goodN Tryz.prog W vfA 89 [f.iv 0] (vwA (meaC f.l) (meaC g.l)) 0 (.bool (intBeq 20 0)) none) (fE (errJ f g 20 z' num) (bothZ 20 z') yesS) none) none) :=
        sl_i W (errJ f g 20 z' num) (bothZ 20 z') (meaC f.l) (meaC g.l) (mvOf 0 f.oc f.l) (mvOf 1 g.oc g.l) f.no f.el f.sd f.a f.b f.d f.e f.lo f.hi f.sex f.wear f.layer f.square g.no g.el g.sd g.a g.b g.d g.e g.lo g.hi g.sex g.wear g.layer g.square num
      rw [g18, g48, g49, g50, g51, g19, g89, fE_eq] at hv
      exact fin semN_ok hv (slA_i W (errJ f g 20 z' num) (bothZ 20 z') (meaC f.l) (meaC g.l) (mvOf 0 f.oc f.l) (mvOf 1 g.oc g.l) f.no f.el f.sd f.a f.b f.d f.e f.lo f.hi f.sex f.wear f.layer f.square g.no g.el g.sd g.a g.b g.d g.e g.lo g.hi g.sex g.wear g.layer g.square num)
  · rcases bothZ_20 hz.z hz'.z with h20 | ⟨rfl, rfl, h0⟩
    · exact absurd (.inl h20) hfail
    · cases hok : (inB num && jC f g (agB f g)) with
      | false => exact absurd (.inr ⟨h0, hok⟩) hfail
      | true =>
        have hvf := hz.valid
        have hvg := hz'.valid
        have hok2 := hok
        rw [Bool.and_eq_true] at hok2
        obtain ⟨hi, hc⟩ := hok2
        have hag := jC_ag hc
        obtain ⟨l, hJ, hlen⟩ := agB_some hag
        have hct : jC f g true = true := by rw [hag] at hc; exact hc
        have hland := (jC_iff.1 hc).2.2.1
        have hnil : jNil f g = true → l = [] := fun h => by
          unfold jNil at h
          rw [Bool.and_eq_true] at h
          obtain ⟨h1, h2⟩ := h
          rw [List.isEmpty_iff] at h1
          have hfo : f.oc = none := by cases ho : f.oc with
            | none => rfl
            | some c => rw [ho] at h2; cases h2
          rw [h1, hf.ho hfo] at hJ
          unfold joinM at hJ
          injection hJ with hJ
          exact hJ.symm
        have hnil' : l.isEmpty = true → l = [] := fun h => List.isEmpty_iff.1 h
        have full : ∀ {oc : Option Nat}, (oc = none → l = []) → Room oc l → (jFull f g num oc l).OK ∧ (jFull f g num oc l).Valid := fun {oc} h1 h2 =>
          ⟨⟨h1, h2, Nat.or_lt_two_pow (n := 64) hf.a hg.a, show (0 : Nat) < _ by omega, show (0 : Nat) < _ by omega, show (0 : Nat) < _ by omega⟩, jFull_valid hvf hvg hi hct hJ hlen⟩
        have hov : ovR f g 0 0 = false := by
          have e : eqVs (setV4 (Nat.land f.a g.a)) (setV4 0) = true := eqSet_iff.2 hland
          unfold ovR ovB
          rw [e]
          cases intBeq f.el g.el <;> cases intBeq f.sd g.sd <;> cases intBeq f.sd 3 <;> rfl
        generalize hnp : jNil f g = np at hnil
        generalize hnq : l.isEmpty = nq at hnil'
        have g18 := good18 hsane (vf := (vfS 4 (bQ np))) (vw := (vwA (meaC f.l) (meaC g.l)))
        have g48 : goodN Tryz.prog W (vfS 4 (bQ np)) 48 [f.iv 0, g.iv 1, i64 num] (vwA (meaC f.l) (meaC g.l)) (cond np 0 4) (.tup [(jFd f g num).im (mvK np 4 l), i64 0]) (bkK np l) = true := goodN_true fun s hvw hsz => by
          obtain ⟨k0, k1⟩ := seen (vf := (vfS 4 (bQ np))) (fn := 48) rfl hvw
          have h := good48s hmix hs0 hf hg hz hz' hok hJ k0 k1
          rw [hnp] at h
          cases np with
          | true => exact h
          | false => rw [hsz rfl] at h; exact h
        have g49 : goodN Tryz.prog W (vfS 4 (bQ np)) 49 [f.iv 0, g.iv 1, i64 num] (vwA (meaC f.l) (meaC g.l)) (cond nq 0 (bQ np)) (.tup [(jFd f g num).im (mvK nq (bQ np) l), i64 0]) (bkK nq l) = true := goodN_true fun s hvw hsz => by
          obtain ⟨k0, k1⟩ := seen (vf := (vfS 4 (bQ np))) (fn := 49) rfl hvw
          have h := good49s hmix hs0 hf hg hz hz' hr hr' hok hJ k0 k1
          rw [hnq] at h
          cases nq with
          | true => exact h
          | false => rw [hsz rfl] at h; exact h
        have g50 : goodN Tryz.prog W (vfS 4 (bQ np)) 50 [f.iv 0, g.iv 1] (vwA (meaC f.l) (meaC g.l)) 0 (.tup [.bool false, i64 0]) none = true := goodN_true fun s hvw _ => by
          obtain ⟨k0, k1⟩ := seen (vf := (vfS 4 (bQ np))) (fn := 50) rfl hvw
          have h := good50 hmix hs0 hf hg hz hz' k0 k1
          rw [hov] at h
          exact h
        have g51 : goodN Tryz.prog W (vfS 4 (bQ np)) 51 [f.iv 0, g.iv 1] (vwA (meaC f.l) (meaC g.l)) 0 (.tup [.bool false, i64 0]) none = true := goodN_true fun s hvw _ => by
          obtain ⟨k0, k1⟩ := seen (vf := (vfS 4 (bQ np))) (fn := 51) rfl hvw
          have h := good51 hmix hs0 hf hg hz hz' hr hr' k0 k1
          rw [hov] at h
          exact h
        have g19 : goodN Tryz.prog W (vfS 4 (bQ np)) 19 [f.iv 0] (vwA (meaC f.l) (meaC g.l)) 0 (i64 0) none = true := goodN_true fun s hvw _ => good19 hs0 hf hz (seen (vf := (vfS 4 (bQ np))) (fn := 19) rfl hvw).1
        have g89 : goodN Tryz.prog W (vfS 4 (bQ np)) 89 [f.iv 0] (vwA (meaC f.l) (meaC g.l)) 0 (.bool (intBeq 0 0)) none = true := goodN_true fun s hvw _ => good89 hs0 hf hr (seen (vf := (vfS 4 (bQ np))) (fn := 89) rfl hvw).1
        have g33 : goodN Tryz.prog W (vfS 4 (bQ np)) 33 [(jFd f g num).im (mvK np 4 l), (jFd f g num).im (mvK nq (bQ np) l)] [seenK np (jFd f g num) l, seenK nq (jFd f g num) l] 0 (.bool true) none = true := by
          refine goodN_true fun s hvw _ => GoodM.same fun ρ w us hR he => ?_
          have k4 : s.get 4 = seenK np (jFd f g num) l := (List.cons.inj hvw).1
          have k5 : s.get (bQ np) = seenK nq (jFd f g num) l := (List.cons.inj (List.cons.inj hvw).2).1
          obtain ⟨u, r, rfl, e1, h2⟩ := EL.cons_inv he
          obtain ⟨u', r', rfl, e2, h3⟩ := EL.cons_inv h2
          obtain rfl := EL.nil_inv h3
          obtain ⟨mr, rfl, h4⟩ := Fd.im_of e1
          obtain ⟨mr', rfl, h5⟩ := Fd.im_of e2
          have hsw := Nat.lt_of_lt_of_le hs0 hR.below.size
          obtain ⟨oc, hM, ho, hrm⟩ := mvK_mea hR hsw hnil (fun hn => by rw [k4, hn]; rfl) h4
          obtain ⟨oc', hM', ho', _⟩ := mvK_mea hR hsw hnil' (fun hn => by rw [k5, hn]; rfl) h5
          obtain ⟨hp, hvp⟩ := full ho hrm
          exact ⟨_, by simp only [E], same_calls hmix hp hvp ho' hM hM'⟩
        have hv := ss_all (W := W) f g num l np nq
        rw [g18, g48, g49, g50, g51, g19, g89, g33, sdS_eq f.sd (k := fun t => bif true then t else none) (fun t => rfl)] at hv
        exact fin semN_ok hv (ss_allA f g num l np nq)
end Go.Proofs.YtilfiadkhohfiaaGreatDoor
