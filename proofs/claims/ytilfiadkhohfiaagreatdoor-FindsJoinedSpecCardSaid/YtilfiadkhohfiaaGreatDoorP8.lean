/- Layer 2: joins of finds. -/
import Derived.Test.YtilfiadkhohfiaaGreatDoorP7
import Derived.KernelRfl
/- Layer 2: joins of finds, in runs. -/
set_option linter.unusedVariables false
namespace Go.Proofs.YtilfiadkhohfiaaGreatDoor
set_option linter.unusedSimpArgs false
set_option linter.unusedVariables false
open Go Go.RowKit Go.Clo
noncomputable section
def aB (c : Bool) (k : Option V) : Option V := cond c k (some (.bool false))
def nB (c : Bool) (k : Option V) : Option V := cond c (some (.bool false)) k
def upBV (n m : Int) (k : Option V) : Option V := aB (geB n 0) (aB (leB n m) k)
def uqB (n m : Int) (k : Option V) : Option V := aB (geB n 0) (nB (!leB n m) k)
def sideBV (el sd : Int) (k : Option V) : Option V := cond (intLt el 10) (aB (intBeq sd 0) k) (aB (geB sd 1) (aB (leB sd 3) k))
def meaBV (prev : Option Int) : List Mea → Option V → Option V
  | [], k => k
  | m :: l, k => upBV m.1 15 (upBV m.2.1 100000 (aB (geB m.2.2 0) (nB (!leB m.2.2 1000) (match prev with | none => meaBV (some m.1) l k | some p => nB (geB p m.1) (meaBV (some m.1) l k)))))
def longB (_ : Option V) : Option V := some (.bool false)
def validB (W0 : World) (z : V) (vw : List (Option Blk)) (no el sd lo hi sex wear layer square : Int) (mp : Option V → Option V) (k : Option V) : Option V :=
  uqB no 4095 (upBV el 31 (sideBV el sd (goodO (goodB Tryz.prog W0 1 161 [z] vw (.bool (zonesI [z]))) (aB (zonesI [z]) (upBV sex 4 (uqB wear 7
   (aB (geB lo 0) (aB (leB lo hi) (nB (!leB hi 120) (uqB layer 255 (uqB square 255 (mp k))))))))))))
end
set_option maxRecDepth 100000
theorem va_n (W0 : World) (no el sd : Int) (a b c d : Nat) (cap : Nat) (lo hi sex wear layer square : Int)  : valK Tryz.prog (semS Tryz.prog W0 1 tb) 60 89 [.agg (finL no el sd a b c d .nils lo hi sex wear layer square)] (roSt []) =
  validB W0 (.agg [w64 a, w64 b, w64 c, w64 d]) [some (.ro [])] no el sd lo hi sex wear layer square (meaBV none []) (some (.bool true)) := by kernel_rfl
theorem vaA_n (W0 : World) (no el sd : Int) (a b c d : Nat) (cap : Nat) (lo hi sex wear layer square : Int)  : askK Tryz.prog (semS Tryz.prog W0 1 tb) 60 89 [.agg (finL no el sd a b c d .nils lo hi sex wear layer square)] (roSt []) false = askK Tryz.prog (semS Tryz.prog W0 1 tb) 60 89 [.agg (finL no el sd a b c d .nils lo hi sex wear layer square)] (roSt []) true := by kernel_rfl
theorem va_0 (W0 : World) (no el sd : Int) (a b c d : Nat) (cap : Nat) (lo hi sex wear layer square : Int)  : valK Tryz.prog (semS Tryz.prog W0 1 tb) 60 89 [.agg (finL no el sd a b c d (.sl 0 0 0 (.exact cap)) lo hi sex wear layer square)] (roSt (meaC [])) =
  validB W0 (.agg [w64 a, w64 b, w64 c, w64 d]) [some (.ro (meaC []))] no el sd lo hi sex wear layer square (meaBV none []) (some (.bool true)) := by kernel_rfl
theorem vaA_0 (W0 : World) (no el sd : Int) (a b c d : Nat) (cap : Nat) (lo hi sex wear layer square : Int)  : askK Tryz.prog (semS Tryz.prog W0 1 tb) 60 89 [.agg (finL no el sd a b c d (.sl 0 0 0 (.exact cap)) lo hi sex wear layer square)] (roSt (meaC [])) false = askK Tryz.prog (semS Tryz.prog W0 1 tb) 60 89 [.agg (finL no el sd a b c d (.sl 0 0 0 (.exact cap)) lo hi sex wear layer square)] (roSt (meaC [])) true := by kernel_rfl
theorem va_1 (W0 : World) (no el sd : Int) (a b c d : Nat) (cap : Nat) (lo hi sex wear layer square : Int) (m1 : Mea) : valK Tryz.prog (semS Tryz.prog W0 1 tb) 60 89 [.agg (finL no el sd a b c d (.sl 0 0 1 (.exact cap)) lo hi sex wear layer square)] (roSt (meaC [m1])) =
  validB W0 (.agg [w64 a, w64 b, w64 c, w64 d]) [some (.ro (meaC [m1]))] no el sd lo hi sex wear layer square (meaBV none [m1]) (some (.bool true)) := by kernel_rfl
theorem vaA_1 (W0 : World) (no el sd : Int) (a b c d : Nat) (cap : Nat) (lo hi sex wear layer square : Int) (m1 : Mea) : askK Tryz.prog (semS Tryz.prog W0 1 tb) 60 89 [.agg (finL no el sd a b c d (.sl 0 0 1 (.exact cap)) lo hi sex wear layer square)] (roSt (meaC [m1])) false = askK Tryz.prog (semS Tryz.prog W0 1 tb) 60 89 [.agg (finL no el sd a b c d (.sl 0 0 1 (.exact cap)) lo hi sex wear layer square)] (roSt (meaC [m1])) true := by kernel_rfl
theorem va_2 (W0 : World) (no el sd : Int) (a b c d : Nat) (cap : Nat) (lo hi sex wear layer square : Int) (m1 m2 : Mea) : valK Tryz.prog (semS Tryz.prog W0 1 tb) 60 89 [.agg (finL no el sd a b c d (.sl 0 0 2 (.exact cap)) lo hi sex wear layer square)] (roSt (meaC [m1, m2])) =
  validB W0 (.agg [w64 a, w64 b, w64 c, w64 d]) [some (.ro (meaC [m1, m2]))] no el sd lo hi sex wear layer square (meaBV none [m1, m2]) (some (.bool true)) := by kernel_rfl
theorem vaA_2 (W0 : World) (no el sd : Int) (a b c d : Nat) (cap : Nat) (lo hi sex wear layer square : Int) (m1 m2 : Mea) : askK Tryz.prog (semS Tryz.prog W0 1 tb) 60 89 [.agg (finL no el sd a b c d (.sl 0 0 2 (.exact cap)) lo hi sex wear layer square)] (roSt (meaC [m1, m2])) false = askK Tryz.prog (semS Tryz.prog W0 1 tb) 60 89 [.agg (finL no el sd a b c d (.sl 0 0 2 (.exact cap)) lo hi sex wear layer square)] (roSt (meaC [m1, m2])) true := by kernel_rfl
theorem va_3 (W0 : World) (no el sd : Int) (a b c d : Nat) (cap : Nat) (lo hi sex wear layer square : Int) (m1 m2 m3 : Mea) : valK Tryz.prog (semS Tryz.prog W0 1 tb) 60 89 [.agg (finL no el sd a b c d (.sl 0 0 3 (.exact cap)) lo hi sex wear layer square)] (roSt (meaC [m1, m2, m3])) =
  validB W0 (.agg [w64 a, w64 b, w64 c, w64 d]) [some (.ro (meaC [m1, m2, m3]))] no el sd lo hi sex wear layer square (meaBV none [m1, m2, m3]) (some (.bool true)) := by kernel_rfl
theorem vaA_3 (W0 : World) (no el sd : Int) (a b c d : Nat) (cap : Nat) (lo hi sex wear layer square : Int) (m1 m2 m3 : Mea) : askK Tryz.prog (semS Tryz.prog W0 1 tb) 60 89 [.agg (finL no el sd a b c d (.sl 0 0 3 (.exact cap)) lo hi sex wear layer square)] (roSt (meaC [m1, m2, m3])) false = askK Tryz.prog (semS Tryz.prog W0 1 tb) 60 89 [.agg (finL no el sd a b c d (.sl 0 0 3 (.exact cap)) lo hi sex wear layer square)] (roSt (meaC [m1, m2, m3])) true := by kernel_rfl
theorem va_4 (W0 : World) (no el sd : Int) (a b c d : Nat) (cap : Nat) (lo hi sex wear layer square : Int) (m1 m2 m3 m4 : Mea) : valK Tryz.prog (semS Tryz.prog W0 1 tb) 60 89 [.agg (finL no el sd a b c d (.sl 0 0 4 (.exact cap)) lo hi sex wear layer square)] (roSt (meaC [m1, m2, m3, m4])) =
  validB W0 (.agg [w64 a, w64 b, w64 c, w64 d]) [some (.ro (meaC [m1, m2, m3, m4]))] no el sd lo hi sex wear layer square (meaBV none [m1, m2, m3, m4]) (some (.bool true)) := by kernel_rfl
theorem vaA_4 (W0 : World) (no el sd : Int) (a b c d : Nat) (cap : Nat) (lo hi sex wear layer square : Int) (m1 m2 m3 m4 : Mea) : askK Tryz.prog (semS Tryz.prog W0 1 tb) 60 89 [.agg (finL no el sd a b c d (.sl 0 0 4 (.exact cap)) lo hi sex wear layer square)] (roSt (meaC [m1, m2, m3, m4])) false = askK Tryz.prog (semS Tryz.prog W0 1 tb) 60 89 [.agg (finL no el sd a b c d (.sl 0 0 4 (.exact cap)) lo hi sex wear layer square)] (roSt (meaC [m1, m2, m3, m4])) true := by kernel_rfl
theorem va_5 (W0 : World) (no el sd : Int) (a b c d : Nat) (cap : Nat) (lo hi sex wear layer square : Int) (m1 m2 m3 m4 m5 : Mea) : valK Tryz.prog (semS Tryz.prog W0 1 tb) 60 89 [.agg (finL no el sd a b c d (.sl 0 0 5 (.exact cap)) lo hi sex wear layer square)] (roSt (meaC [m1, m2, m3, m4, m5])) =
  validB W0 (.agg [w64 a, w64 b, w64 c, w64 d]) [some (.ro (meaC [m1, m2, m3, m4, m5]))] no el sd lo hi sex wear layer square (meaBV none [m1, m2, m3, m4, m5]) (some (.bool true)) := by kernel_rfl
theorem vaA_5 (W0 : World) (no el sd : Int) (a b c d : Nat) (cap : Nat) (lo hi sex wear layer square : Int) (m1 m2 m3 m4 m5 : Mea) : askK Tryz.prog (semS Tryz.prog W0 1 tb) 60 89 [.agg (finL no el sd a b c d (.sl 0 0 5 (.exact cap)) lo hi sex wear layer square)] (roSt (meaC [m1, m2, m3, m4, m5])) false = askK Tryz.prog (semS Tryz.prog W0 1 tb) 60 89 [.agg (finL no el sd a b c d (.sl 0 0 5 (.exact cap)) lo hi sex wear layer square)] (roSt (meaC [m1, m2, m3, m4, m5])) true := by kernel_rfl
theorem va_6 (W0 : World) (no el sd : Int) (a b c d : Nat) (cap : Nat) (lo hi sex wear layer square : Int) (m1 m2 m3 m4 m5 m6 : Mea) : valK Tryz.prog (semS Tryz.prog W0 1 tb) 60 89 [.agg (finL no el sd a b c d (.sl 0 0 6 (.exact cap)) lo hi sex wear layer square)] (roSt (meaC [m1, m2, m3, m4, m5, m6])) =
  validB W0 (.agg [w64 a, w64 b, w64 c, w64 d]) [some (.ro (meaC [m1, m2, m3, m4, m5, m6]))] no el sd lo hi sex wear layer square (meaBV none [m1, m2, m3, m4, m5, m6]) (some (.bool true)) := by kernel_rfl
theorem vaA_6 (W0 : World) (no el sd : Int) (a b c d : Nat) (cap : Nat) (lo hi sex wear layer square : Int) (m1 m2 m3 m4 m5 m6 : Mea) : askK Tryz.prog (semS Tryz.prog W0 1 tb) 60 89 [.agg (finL no el sd a b c d (.sl 0 0 6 (.exact cap)) lo hi sex wear layer square)] (roSt (meaC [m1, m2, m3, m4, m5, m6])) false = askK Tryz.prog (semS Tryz.prog W0 1 tb) 60 89 [.agg (finL no el sd a b c d (.sl 0 0 6 (.exact cap)) lo hi sex wear layer square)] (roSt (meaC [m1, m2, m3, m4, m5, m6])) true := by kernel_rfl
theorem va_7 (W0 : World) (no el sd : Int) (a b c d : Nat) (cap : Nat) (lo hi sex wear layer square : Int) (m1 m2 m3 m4 m5 m6 m7 : Mea) : valK Tryz.prog (semS Tryz.prog W0 1 tb) 60 89 [.agg (finL no el sd a b c d (.sl 0 0 7 (.exact cap)) lo hi sex wear layer square)] (roSt (meaC [m1, m2, m3, m4, m5, m6, m7])) =
  validB W0 (.agg [w64 a, w64 b, w64 c, w64 d]) [some (.ro (meaC [m1, m2, m3, m4, m5, m6, m7]))] no el sd lo hi sex wear layer square (meaBV none [m1, m2, m3, m4, m5, m6, m7]) (some (.bool true)) := by kernel_rfl
theorem vaA_7 (W0 : World) (no el sd : Int) (a b c d : Nat) (cap : Nat) (lo hi sex wear layer square : Int) (m1 m2 m3 m4 m5 m6 m7 : Mea) : askK Tryz.prog (semS Tryz.prog W0 1 tb) 60 89 [.agg (finL no el sd a b c d (.sl 0 0 7 (.exact cap)) lo hi sex wear layer square)] (roSt (meaC [m1, m2, m3, m4, m5, m6, m7])) false = askK Tryz.prog (semS Tryz.prog W0 1 tb) 60 89 [.agg (finL no el sd a b c d (.sl 0 0 7 (.exact cap)) lo hi sex wear layer square)] (roSt (meaC [m1, m2, m3, m4, m5, m6, m7])) true := by kernel_rfl
theorem va_8 (W0 : World) (no el sd : Int) (a b c d : Nat) (cap : Nat) (lo hi sex wear layer square : Int) (m1 m2 m3 m4 m5 m6 m7 m8 : Mea) : valK Tryz.prog (semS Tryz.prog W0 1 tb) 60 89 [.agg (finL no el sd a b c d (.sl 0 0 8 (.exact cap)) lo hi sex wear layer square)] (roSt (meaC [m1, m2, m3, m4, m5, m6, m7, m8])) =
  validB W0 (.agg [w64 a, w64 b, w64 c, w64 d]) [some (.ro (meaC [m1, m2, m3, m4, m5, m6, m7, m8]))] no el sd lo hi sex wear layer square (meaBV none [m1, m2, m3, m4, m5, m6, m7, m8]) (some (.bool true)) := by kernel_rfl
theorem vaA_8 (W0 : World) (no el sd : Int) (a b c d : Nat) (cap : Nat) (lo hi sex wear layer square : Int) (m1 m2 m3 m4 m5 m6 m7 m8 : Mea) : askK Tryz.prog (semS Tryz.prog W0 1 tb) 60 89 [.agg (finL no el sd a b c d (.sl 0 0 8 (.exact cap)) lo hi sex wear layer square)] (roSt (meaC [m1, m2, m3, m4, m5, m6, m7, m8])) false = askK Tryz.prog (semS Tryz.prog W0 1 tb) 60 89 [.agg (finL no el sd a b c d (.sl 0 0 8 (.exact cap)) lo hi sex wear layer square)] (roSt (meaC [m1, m2, m3, m4, m5, m6, m7, m8])) true := by kernel_rfl
theorem va_L (W0 : World) (no el sd : Int) (a b c d : Nat) (cap : Nat) (lo hi sex wear layer square : Int) (n : Nat) (cs : List V) : valK Tryz.prog (semS Tryz.prog W0 1 tb) 60 89 [.agg (finL no el sd a b c d (.sl 0 0 (n + 9) (.exact cap)) lo hi sex wear layer square)] (roSt cs) =
  validB W0 (.agg [w64 a, w64 b, w64 c, w64 d]) [some (.ro cs)] no el sd lo hi sex wear layer square (longB) (some (.bool true)) := by kernel_rfl
theorem vaA_L (W0 : World) (no el sd : Int) (a b c d : Nat) (cap : Nat) (lo hi sex wear layer square : Int) (n : Nat) (cs : List V) : askK Tryz.prog (semS Tryz.prog W0 1 tb) 60 89 [.agg (finL no el sd a b c d (.sl 0 0 (n + 9) (.exact cap)) lo hi sex wear layer square)] (roSt cs) false = askK Tryz.prog (semS Tryz.prog W0 1 tb) 60 89 [.agg (finL no el sd a b c d (.sl 0 0 (n + 9) (.exact cap)) lo hi sex wear layer square)] (roSt cs) true := by kernel_rfl
end Go.Proofs.YtilfiadkhohfiaaGreatDoor
/- Layer 2: joins of finds, in runs. -/
set_option linter.unusedVariables false
set_option maxRecDepth 100000
namespace Go.Proofs.YtilfiadkhohfiaaGreatDoor
set_option linter.unusedSimpArgs false
set_option linter.unusedVariables false
open Go Go.RowKit Go.Clo

/-- Answers, as bools. -/
def phi (v : V) : V := match v with | .int _ (.ofNat 0) => .bool true | _ => .bool false
theorem aB_map (c : Bool) (k : Option V) : aB c (k.map phi) = (aO 1 c k).map phi := by cases c <;> rfl
theorem nB_map (c : Bool) (k : Option V) : nB c (k.map phi) = (nO 1 c k).map phi := by cases c <;> rfl
theorem upB_map (n m : Int) (k : Option V) : upBV n m (k.map phi) = (upO 1 n m k).map phi := by unfold upBV upO; rw [aB_map, aB_map]
theorem uqB_map (n m : Int) (k : Option V) : uqB n m (k.map phi) = (uqO 1 n m k).map phi := by unfold uqB uqO; rw [nB_map, aB_map]
theorem sideB_map (el sd : Int) (k : Option V) : sideBV el sd (k.map phi) = (sideQ 1 el sd k).map phi := by
  unfold sideBV sideQ
  rw [aB_map, aB_map, aB_map]
  cases intLt el 10 <;> rfl
theorem goodO_map (c : Bool) (k : Option V) : goodO c (k.map phi) = (goodO c k).map phi := by cases c <;> rfl
theorem meaB_map : ∀ (l : List Mea) (p : Option Int) (k : Option V), meaBV p l (k.map phi) = (meaQ 1 p l k).map phi
  | [], _, _ => rfl
  | m :: l, none, k => by
    show upBV m.1 15 (upBV m.2.1 100000 (aB (geB m.2.2 0) (nB (!leB m.2.2 1000) (meaBV (some m.1) l (k.map phi))))) = _
    rw [meaB_map l, nB_map, aB_map, upB_map, upB_map]; rfl
  | m :: l, some p, k => by
    show upBV m.1 15 (upBV m.2.1 100000 (aB (geB m.2.2 0) (nB (!leB m.2.2 1000) (nB (geB p m.1) (meaBV (some m.1) l (k.map phi)))))) = _
    rw [meaB_map l, nB_map, nB_map, aB_map, upB_map, upB_map]; rfl
theorem validB_map {W0 : World} {z : V} {vw : List (Option Blk)} {no el sd lo hi sex wear layer square : Int} {mp mq : Option V → Option V} (hm : ∀ k, mp (k.map phi) = (mq k).map phi) (k : Option V) :
    validB W0 z vw no el sd lo hi sex wear layer square mp (k.map phi) = (validO 1 W0 z vw no el sd lo hi sex wear layer square mq k).map phi := by
  unfold validB validO
  rw [hm, uqB_map, uqB_map, nB_map, aB_map, aB_map, uqB_map, upB_map, aB_map, goodO_map, sideB_map, upB_map, uqB_map]
variable {W : World}
theorem valid_calls (hmix : Tryz.prog.follows .mixedOrders = true) {oc : Option Nat} {l : List Mea} (ho : oc = none → l = []) (no el sd : Int) (a b c d : Nat) (lo hi sex wear layer square : Int) (g1 : ∀ vw, goodB Tryz.prog W 1 161 [(.agg [w64 a, w64 b, w64 c, w64 d])] vw (.bool (zonesI [(.agg [w64 a, w64 b, w64 c, w64 d])])) = true) :
    ∃ v : Bool, ((validP no el sd a b c d lo hi sex wear layer square l ∧ v = true) ∨ (¬ validP no el sd a b c d lo hi sex wear layer square l ∧ v = false)) ∧ ∀ ms, MeaAt W ms oc l → Calls Tryz.prog 89 #[.agg (finVs no el sd a b c d ms lo hi sex wear layer square).toArray] W fun e w' => e = .returned (.bool v) ∧ Below W.heap.size W w' := by
  have main : ∀ {mp mq : Option V → Option V} {M : Prop} {vw : List (Option Blk)}, (∀ k, mp (k.map phi) = (mq k).map phi) → (∀ {t : Option V} {p : Prop}, Is 1 t p → Is 1 (mq t) (M ∧ p)) → (M ↔ (l.length ≤ 8 ∧ measP (-1) l)) →
      ∃ v : Bool, ((validP no el sd a b c d lo hi sex wear layer square l ∧ v = true) ∨ (¬ validP no el sd a b c d lo hi sex wear layer square l ∧ v = false)) ∧ validB W (.agg [w64 a, w64 b, w64 c, w64 d]) vw no el sd lo hi sex wear layer square mp (some (.bool true)) = some (.bool v) := by
    intro mp mq M vw hm hmq hM
    have h := Is.valid (mp := mq) (mq := mq) (M := M) (fun h => ⟨hmq h, hmq h⟩) (g1 vw) (no := no) (el := el) (sd := sd) (lo := lo) (hi := hi) (sex := sex) (wear := wear) (layer := layer) (square := square) (Is.yes (x := 1))
    have e : validB W (.agg [w64 a, w64 b, w64 c, w64 d]) vw no el sd lo hi sex wear layer square mp (some (.bool true)) = _ := validB_map hm (some (i64 0))
    rcases h with ⟨⟨h1, _⟩, h2⟩ | ⟨h1, h2⟩
    · exact ⟨true, .inl ⟨(findP_mono hM).1 h1, rfl⟩, by rw [e, h2]; rfl⟩
    · exact ⟨false, .inr ⟨fun h => h1 ⟨(findP_mono hM).2 h, trivial⟩, rfl⟩, by rw [e, h2]; rfl⟩
  have core : ∀ {vw : List (Option Blk)}, l.length ≤ 8 → valK Tryz.prog (semS Tryz.prog W 1 tb) 60 89 [.agg (finL no el sd a b c d (mvOf 0 oc l) lo hi sex wear layer square)] (roSt (meaC l)) = validB W (.agg [w64 a, w64 b, w64 c, w64 d]) vw no el sd lo hi sex wear layer square (meaBV none l) (some (.bool true)) →
      askK Tryz.prog (semS Tryz.prog W 1 tb) 60 89 [.agg (finL no el sd a b c d (mvOf 0 oc l) lo hi sex wear layer square)] (roSt (meaC l)) false = askK Tryz.prog (semS Tryz.prog W 1 tb) 60 89 [.agg (finL no el sd a b c d (mvOf 0 oc l) lo hi sex wear layer square)] (roSt (meaC l)) true →
      ∃ v : Bool, ((validP no el sd a b c d lo hi sex wear layer square l ∧ v = true) ∨ (¬ validP no el sd a b c d lo hi sex wear layer square l ∧ v = false)) ∧ ∀ ms, MeaAt W ms oc l → Calls Tryz.prog 89 #[.agg (finVs no el sd a b c d ms lo hi sex wear layer square).toArray] W fun e w' => e = .returned (.bool v) ∧ Below W.heap.size W w' := by
    intro vw hn hv ha
    obtain ⟨v, hz, e⟩ := main (vw := vw) (mp := meaBV none l) (mq := meaQ 1 none l) (M := measP (-1) l) (fun k => meaB_map l none k) (fun h => h.meaN) ⟨fun h => ⟨hn, h⟩, fun h => h.2⟩
    refine ⟨v, hz, fun ms hM => ?_⟩
    obtain ⟨ρ, hR, he⟩ := hM.rel (Below.refl _ _)
    refine (valK_step hmix (hv.trans e) ha hR (us := [_]) (EL.cons (E_agg (EL_fin he)) EL.nil)).mono ?_
    rintro e w' ⟨ρ', s', u, rfl, hst, hE⟩
    exact ⟨by rw [E_bool_inv hE], Step.belowOf hR hst noImg_ro⟩
  cases oc with
  | none =>
    obtain rfl := ho rfl
    exact core (by simp) (va_n W no el sd a b c d 0 lo hi sex wear layer square) (vaA_n W no el sd a b c d 0 lo hi sex wear layer square)
  | some cap =>
    match l with
    | [] => exact core (by simp) (va_0 W no el sd a b c d cap lo hi sex wear layer square ) (vaA_0 W no el sd a b c d cap lo hi sex wear layer square )
    | [m1] => exact core (by simp) (va_1 W no el sd a b c d cap lo hi sex wear layer square m1) (vaA_1 W no el sd a b c d cap lo hi sex wear layer square m1)
    | [m1, m2] => exact core (by simp) (va_2 W no el sd a b c d cap lo hi sex wear layer square m1 m2) (vaA_2 W no el sd a b c d cap lo hi sex wear layer square m1 m2)
    | [m1, m2, m3] => exact core (by simp) (va_3 W no el sd a b c d cap lo hi sex wear layer square m1 m2 m3) (vaA_3 W no el sd a b c d cap lo hi sex wear layer square m1 m2 m3)
    | [m1, m2, m3, m4] => exact core (by simp) (va_4 W no el sd a b c d cap lo hi sex wear layer square m1 m2 m3 m4) (vaA_4 W no el sd a b c d cap lo hi sex wear layer square m1 m2 m3 m4)
    | [m1, m2, m3, m4, m5] => exact core (by simp) (va_5 W no el sd a b c d cap lo hi sex wear layer square m1 m2 m3 m4 m5) (vaA_5 W no el sd a b c d cap lo hi sex wear layer square m1 m2 m3 m4 m5)
    | [m1, m2, m3, m4, m5, m6] => exact core (by simp) (va_6 W no el sd a b c d cap lo hi sex wear layer square m1 m2 m3 m4 m5 m6) (vaA_6 W no el sd a b c d cap lo hi sex wear layer square m1 m2 m3 m4 m5 m6)
    | [m1, m2, m3, m4, m5, m6, m7] => exact core (by simp) (va_7 W no el sd a b c d cap lo hi sex wear layer square m1 m2 m3 m4 m5 m6 m7) (vaA_7 W no el sd a b c d cap lo hi sex wear layer square m1 m2 m3 m4 m5 m6 m7)
    | [m1, m2, m3, m4, m5, m6, m7, m8] => exact core (by simp) (va_8 W no el sd a b c d cap lo hi sex wear layer square m1 m2 m3 m4 m5 m6 m7 m8) (vaA_8 W no el sd a b c d cap lo hi sex wear layer square m1 m2 m3 m4 m5 m6 m7 m8)
    | m1 :: m2 :: m3 :: m4 :: m5 :: m6 :: m7 :: m8 :: m9 :: rest =>
      obtain ⟨v, hz, e⟩ := main (vw := [some (.ro (meaC (m1 :: m2 :: m3 :: m4 :: m5 :: m6 :: m7 :: m8 :: m9 :: rest)))]) (mp := longB) (mq := longO 1) (M := False) (fun k => rfl) (fun {t p} _ => (Is.no (x := 1)).of (by simp)) ⟨False.elim, fun h => by have := h.1; simp only [List.length_cons] at this; omega⟩
      refine ⟨v, hz, fun ms hM => ?_⟩
      obtain ⟨ρ, hR, he⟩ := hM.rel (Below.refl _ _)
      refine (valK_step hmix ((va_L W no el sd a b c d cap lo hi sex wear layer square rest.length _).trans e) (vaA_L W no el sd a b c d cap lo hi sex wear layer square rest.length _) hR (us := [_]) (EL.cons (E_agg (EL_fin he)) EL.nil)).mono ?_
      rintro e w' ⟨ρ', s', u, rfl, hst, hE⟩
      exact ⟨by rw [E_bool_inv hE], Step.belowOf hR hst noImg_ro⟩
end Go.Proofs.YtilfiadkhohfiaaGreatDoor
/- Layer 2: joins of finds, in runs. -/
set_option linter.unusedVariables false
namespace Go.Proofs.YtilfiadkhohfiaaGreatDoor
set_option linter.unusedSimpArgs false
set_option linter.unusedVariables false
open Go Go.RowKit Go.Clo
noncomputable section
def kindT (m : Mea) (is : Bool) : V := .tup [.agg [i64 m.1, i64 m.2.1, i64 m.2.2], .bool is]
def kindO (k : Int) : List Mea → Option V
  | [] => some (kindT (0, 0, 0) false)
  | x :: l => cond (intBeq x.1 k) (some (kindT x true)) (kindO k l)
/-- The measurement of a kind, or none's zeros. -/
def kindM (o : Option Mea) : Mea := match o with | some x => x | none => (0, 0, 0)
end
set_option maxRecDepth 100000
section
variable (W0 : World) (no el sd : Int) (a b d e : Nat) (lo hi sex wear layer square : Int) (k : Int) (cap cap' : Nat)
theorem kn_n : valK Tryz.prog (semS Tryz.prog W0 1 noTb) 60 174 [.agg (finL no el sd a b d e .nils lo hi sex wear layer square), i64 k] (roSt (meaC [])) = kindO k [] := by kernel_rfl
theorem knA_n : askK Tryz.prog (semS Tryz.prog W0 1 noTb) 60 174 [.agg (finL no el sd a b d e .nils lo hi sex wear layer square), i64 k] (roSt (meaC [])) false = askK Tryz.prog (semS Tryz.prog W0 1 noTb) 60 174 [.agg (finL no el sd a b d e .nils lo hi sex wear layer square), i64 k] (roSt (meaC [])) true := by kernel_rfl
theorem kn_0 : valK Tryz.prog (semS Tryz.prog W0 1 noTb) 60 174 [.agg (finL no el sd a b d e (.sl 0 0 0 (.exact cap)) lo hi sex wear layer square), i64 k] (roSt (meaC [])) = kindO k [] := by kernel_rfl
theorem knA_0 : askK Tryz.prog (semS Tryz.prog W0 1 noTb) 60 174 [.agg (finL no el sd a b d e (.sl 0 0 0 (.exact cap)) lo hi sex wear layer square), i64 k] (roSt (meaC [])) false = askK Tryz.prog (semS Tryz.prog W0 1 noTb) 60 174 [.agg (finL no el sd a b d e (.sl 0 0 0 (.exact cap)) lo hi sex wear layer square), i64 k] (roSt (meaC [])) true := by kernel_rfl
theorem kn_1 (x1 : Mea) : valK Tryz.prog (semS Tryz.prog W0 1 noTb) 60 174 [.agg (finL no el sd a b d e (.sl 0 0 1 (.exact cap)) lo hi sex wear layer square), i64 k] (roSt (meaC [x1])) = kindO k [x1] := by kernel_rfl
theorem knA_1 (x1 : Mea) : askK Tryz.prog (semS Tryz.prog W0 1 noTb) 60 174 [.agg (finL no el sd a b d e (.sl 0 0 1 (.exact cap)) lo hi sex wear layer square), i64 k] (roSt (meaC [x1])) false = askK Tryz.prog (semS Tryz.prog W0 1 noTb) 60 174 [.agg (finL no el sd a b d e (.sl 0 0 1 (.exact cap)) lo hi sex wear layer square), i64 k] (roSt (meaC [x1])) true := by kernel_rfl
theorem kn_2 (x1 x2 : Mea) : valK Tryz.prog (semS Tryz.prog W0 1 noTb) 60 174 [.agg (finL no el sd a b d e (.sl 0 0 2 (.exact cap)) lo hi sex wear layer square), i64 k] (roSt (meaC [x1, x2])) = kindO k [x1, x2] := by kernel_rfl
theorem knA_2 (x1 x2 : Mea) : askK Tryz.prog (semS Tryz.prog W0 1 noTb) 60 174 [.agg (finL no el sd a b d e (.sl 0 0 2 (.exact cap)) lo hi sex wear layer square), i64 k] (roSt (meaC [x1, x2])) false = askK Tryz.prog (semS Tryz.prog W0 1 noTb) 60 174 [.agg (finL no el sd a b d e (.sl 0 0 2 (.exact cap)) lo hi sex wear layer square), i64 k] (roSt (meaC [x1, x2])) true := by kernel_rfl
theorem kn_3 (x1 x2 x3 : Mea) : valK Tryz.prog (semS Tryz.prog W0 1 noTb) 60 174 [.agg (finL no el sd a b d e (.sl 0 0 3 (.exact cap)) lo hi sex wear layer square), i64 k] (roSt (meaC [x1, x2, x3])) = kindO k [x1, x2, x3] := by kernel_rfl
theorem knA_3 (x1 x2 x3 : Mea) : askK Tryz.prog (semS Tryz.prog W0 1 noTb) 60 174 [.agg (finL no el sd a b d e (.sl 0 0 3 (.exact cap)) lo hi sex wear layer square), i64 k] (roSt (meaC [x1, x2, x3])) false = askK Tryz.prog (semS Tryz.prog W0 1 noTb) 60 174 [.agg (finL no el sd a b d e (.sl 0 0 3 (.exact cap)) lo hi sex wear layer square), i64 k] (roSt (meaC [x1, x2, x3])) true := by kernel_rfl
theorem kn_4 (x1 x2 x3 x4 : Mea) : valK Tryz.prog (semS Tryz.prog W0 1 noTb) 60 174 [.agg (finL no el sd a b d e (.sl 0 0 4 (.exact cap)) lo hi sex wear layer square), i64 k] (roSt (meaC [x1, x2, x3, x4])) = kindO k [x1, x2, x3, x4] := by kernel_rfl
theorem knA_4 (x1 x2 x3 x4 : Mea) : askK Tryz.prog (semS Tryz.prog W0 1 noTb) 60 174 [.agg (finL no el sd a b d e (.sl 0 0 4 (.exact cap)) lo hi sex wear layer square), i64 k] (roSt (meaC [x1, x2, x3, x4])) false = askK Tryz.prog (semS Tryz.prog W0 1 noTb) 60 174 [.agg (finL no el sd a b d e (.sl 0 0 4 (.exact cap)) lo hi sex wear layer square), i64 k] (roSt (meaC [x1, x2, x3, x4])) true := by kernel_rfl
theorem kn_5 (x1 x2 x3 x4 x5 : Mea) : valK Tryz.prog (semS Tryz.prog W0 1 noTb) 60 174 [.agg (finL no el sd a b d e (.sl 0 0 5 (.exact cap)) lo hi sex wear layer square), i64 k] (roSt (meaC [x1, x2, x3, x4, x5])) = kindO k [x1, x2, x3, x4, x5] := by kernel_rfl
theorem knA_5 (x1 x2 x3 x4 x5 : Mea) : askK Tryz.prog (semS Tryz.prog W0 1 noTb) 60 174 [.agg (finL no el sd a b d e (.sl 0 0 5 (.exact cap)) lo hi sex wear layer square), i64 k] (roSt (meaC [x1, x2, x3, x4, x5])) false = askK Tryz.prog (semS Tryz.prog W0 1 noTb) 60 174 [.agg (finL no el sd a b d e (.sl 0 0 5 (.exact cap)) lo hi sex wear layer square), i64 k] (roSt (meaC [x1, x2, x3, x4, x5])) true := by kernel_rfl
theorem kn_6 (x1 x2 x3 x4 x5 x6 : Mea) : valK Tryz.prog (semS Tryz.prog W0 1 noTb) 60 174 [.agg (finL no el sd a b d e (.sl 0 0 6 (.exact cap)) lo hi sex wear layer square), i64 k] (roSt (meaC [x1, x2, x3, x4, x5, x6])) = kindO k [x1, x2, x3, x4, x5, x6] := by kernel_rfl
theorem knA_6 (x1 x2 x3 x4 x5 x6 : Mea) : askK Tryz.prog (semS Tryz.prog W0 1 noTb) 60 174 [.agg (finL no el sd a b d e (.sl 0 0 6 (.exact cap)) lo hi sex wear layer square), i64 k] (roSt (meaC [x1, x2, x3, x4, x5, x6])) false = askK Tryz.prog (semS Tryz.prog W0 1 noTb) 60 174 [.agg (finL no el sd a b d e (.sl 0 0 6 (.exact cap)) lo hi sex wear layer square), i64 k] (roSt (meaC [x1, x2, x3, x4, x5, x6])) true := by kernel_rfl
theorem kn_7 (x1 x2 x3 x4 x5 x6 x7 : Mea) : valK Tryz.prog (semS Tryz.prog W0 1 noTb) 60 174 [.agg (finL no el sd a b d e (.sl 0 0 7 (.exact cap)) lo hi sex wear layer square), i64 k] (roSt (meaC [x1, x2, x3, x4, x5, x6, x7])) = kindO k [x1, x2, x3, x4, x5, x6, x7] := by kernel_rfl
theorem knA_7 (x1 x2 x3 x4 x5 x6 x7 : Mea) : askK Tryz.prog (semS Tryz.prog W0 1 noTb) 60 174 [.agg (finL no el sd a b d e (.sl 0 0 7 (.exact cap)) lo hi sex wear layer square), i64 k] (roSt (meaC [x1, x2, x3, x4, x5, x6, x7])) false = askK Tryz.prog (semS Tryz.prog W0 1 noTb) 60 174 [.agg (finL no el sd a b d e (.sl 0 0 7 (.exact cap)) lo hi sex wear layer square), i64 k] (roSt (meaC [x1, x2, x3, x4, x5, x6, x7])) true := by kernel_rfl
theorem kn_8 (x1 x2 x3 x4 x5 x6 x7 x8 : Mea) : valK Tryz.prog (semS Tryz.prog W0 1 noTb) 60 174 [.agg (finL no el sd a b d e (.sl 0 0 8 (.exact cap)) lo hi sex wear layer square), i64 k] (roSt (meaC [x1, x2, x3, x4, x5, x6, x7, x8])) = kindO k [x1, x2, x3, x4, x5, x6, x7, x8] := by kernel_rfl
theorem knA_8 (x1 x2 x3 x4 x5 x6 x7 x8 : Mea) : askK Tryz.prog (semS Tryz.prog W0 1 noTb) 60 174 [.agg (finL no el sd a b d e (.sl 0 0 8 (.exact cap)) lo hi sex wear layer square), i64 k] (roSt (meaC [x1, x2, x3, x4, x5, x6, x7, x8])) false = askK Tryz.prog (semS Tryz.prog W0 1 noTb) 60 174 [.agg (finL no el sd a b d e (.sl 0 0 8 (.exact cap)) lo hi sex wear layer square), i64 k] (roSt (meaC [x1, x2, x3, x4, x5, x6, x7, x8])) true := by kernel_rfl
end
variable {W : World}
theorem kindO_eq {k : Int} : ∀ {l : List Mea}, kindO k l = some (kindT (kindM (getM l k)) (spanB (getM l k)))
  | [] => rfl
  | x :: l => by
    show cond (intBeq x.1 k) (some (kindT x true)) (kindO k l) = _
    rw [getM_cons]
    cases hk : intBeq x.1 k with
    | true => rw [intBeq_iff] at hk; rw [if_pos hk]; rfl
    | false => rw [← Bool.not_eq_true, intBeq_iff] at hk; rw [if_neg hk]; exact kindO_eq
theorem kind_of (hmix : Tryz.prog.follows .mixedOrders = true) {no el sd : Int} {a b d e : Nat} {lo hi sex wear layer square : Int} {oc : Option Nat} {l : List Mea} {k : Int} {ms : Value} (hm : MeaAt W ms oc l)
    (hr : valK Tryz.prog (semS Tryz.prog W 1 noTb) 60 174 [.agg (finL no el sd a b d e (mvOf 0 oc l) lo hi sex wear layer square), i64 k] (roSt (meaC l)) = kindO k l)
    (ha : askK Tryz.prog (semS Tryz.prog W 1 noTb) 60 174 [.agg (finL no el sd a b d e (mvOf 0 oc l) lo hi sex wear layer square), i64 k] (roSt (meaC l)) false = askK Tryz.prog (semS Tryz.prog W 1 noTb) 60 174 [.agg (finL no el sd a b d e (mvOf 0 oc l) lo hi sex wear layer square), i64 k] (roSt (meaC l)) true) :
    Calls Tryz.prog 174 #[.agg (finVs no el sd a b d e ms lo hi sex wear layer square).toArray, .int .i64 k] W fun e w' => e = .returned (.tuple #[.agg #[.int .i64 (kindM (getM l k)).1, .int .i64 (kindM (getM l k)).2.1, .int .i64 (kindM (getM l k)).2.2], .bool (spanB (getM l k))]) ∧ Below W.heap.size W w' := by
  obtain ⟨ρ, hR, he⟩ := hm.rel (Below.refl _ _)
  refine (valK_step hmix (hr.trans kindO_eq) ha hR (us := [_, _]) (EL.cons (E_agg (EL_fin he)) (EL.cons (E_i64 k) EL.nil))).mono ?_
  rintro e w' ⟨ρ', s', u, rfl, hst, hE⟩
  obtain ⟨x, y, rfl, h1, h2⟩ := E_tup2 hE
  simp only [E] at h1
  obtain ⟨us, rfl, hl0⟩ := h1
  obtain ⟨r1, rfl, hl1⟩ := i64_inv hl0
  obtain ⟨r2, rfl, hl2⟩ := i64_inv hl1
  obtain ⟨r3, rfl, hl3⟩ := i64_inv hl2
  obtain rfl := EL.nil_inv hl3
  exact ⟨by rw [E_bool_inv h2], Step.belowOf hR hst noImg_ro⟩
theorem kind_any (hmix : Tryz.prog.follows .mixedOrders = true) (no el sd : Int) (a b d e : Nat) (lo hi sex wear layer square : Int) {oc : Option Nat} {l : List Mea} (ho : oc = none → l = []) (hlen : l.length ≤ 8) (k : Int) {ms : Value} (hm : MeaAt W ms oc l) :
    Calls Tryz.prog 174 #[.agg (finVs no el sd a b d e ms lo hi sex wear layer square).toArray, .int .i64 k] W fun e w' => e = .returned (.tuple #[.agg #[.int .i64 (kindM (getM l k)).1, .int .i64 (kindM (getM l k)).2.1, .int .i64 (kindM (getM l k)).2.2], .bool (spanB (getM l k))]) ∧ Below W.heap.size W w' := by
  cases oc with
  | none =>
    have hl : l = [] := ho rfl
    subst hl
    exact kind_of hmix hm (kn_n W no el sd a b d e lo hi sex wear layer square k) (knA_n W no el sd a b d e lo hi sex wear layer square k)
  | some cap =>
    match l, hm, hlen with
    | [], hm, _ => exact kind_of hmix hm (kn_0 W no el sd a b d e lo hi sex wear layer square k cap ) (knA_0 W no el sd a b d e lo hi sex wear layer square k cap )
    | [x1], hm, _ => exact kind_of hmix hm (kn_1 W no el sd a b d e lo hi sex wear layer square k cap x1) (knA_1 W no el sd a b d e lo hi sex wear layer square k cap x1)
    | [x1, x2], hm, _ => exact kind_of hmix hm (kn_2 W no el sd a b d e lo hi sex wear layer square k cap x1 x2) (knA_2 W no el sd a b d e lo hi sex wear layer square k cap x1 x2)
    | [x1, x2, x3], hm, _ => exact kind_of hmix hm (kn_3 W no el sd a b d e lo hi sex wear layer square k cap x1 x2 x3) (knA_3 W no el sd a b d e lo hi sex wear layer square k cap x1 x2 x3)
    | [x1, x2, x3, x4], hm, _ => exact kind_of hmix hm (kn_4 W no el sd a b d e lo hi sex wear layer square k cap x1 x2 x3 x4) (knA_4 W no el sd a b d e lo hi sex wear layer square k cap x1 x2 x3 x4)
    | [x1, x2, x3, x4, x5], hm, _ => exact kind_of hmix hm (kn_5 W no el sd a b d e lo hi sex wear layer square k cap x1 x2 x3 x4 x5) (knA_5 W no el sd a b d e lo hi sex wear layer square k cap x1 x2 x3 x4 x5)
    | [x1, x2, x3, x4, x5, x6], hm, _ => exact kind_of hmix hm (kn_6 W no el sd a b d e lo hi sex wear layer square k cap x1 x2 x3 x4 x5 x6) (knA_6 W no el sd a b d e lo hi sex wear layer square k cap x1 x2 x3 x4 x5 x6)
    | [x1, x2, x3, x4, x5, x6, x7], hm, _ => exact kind_of hmix hm (kn_7 W no el sd a b d e lo hi sex wear layer square k cap x1 x2 x3 x4 x5 x6 x7) (knA_7 W no el sd a b d e lo hi sex wear layer square k cap x1 x2 x3 x4 x5 x6 x7)
    | [x1, x2, x3, x4, x5, x6, x7, x8], hm, _ => exact kind_of hmix hm (kn_8 W no el sd a b d e lo hi sex wear layer square k cap x1 x2 x3 x4 x5 x6 x7 x8) (knA_8 W no el sd a b d e lo hi sex wear layer square k cap x1 x2 x3 x4 x5 x6 x7 x8)
    | x1 :: x2 :: x3 :: x4 :: x5 :: x6 :: x7 :: x8 :: x9 :: r, _, hlen => simp only [List.length_cons] at hlen; omega
theorem good174 (hmix : Tryz.prog.follows .mixedOrders = true) (hs0 : 0 < W.heap.size) {f : Fd} (hf : f.OK) (hv : f.Valid) {i : Nat} {k : Int} {s : St} (hi : s.get i = some (.ro (meaC f.l))) :
    GoodM Tryz.prog W 174 [f.iv i, i64 k] s (kindT (kindM (getM f.l k)) (spanB (getM f.l k))) s := GoodM.same fun ρ w us hR he => by
  obtain ⟨u, r, rfl, e1, h2⟩ := EL.cons_inv he
  obtain ⟨u', r', rfl, e2, h3⟩ := EL.cons_inv h2
  obtain rfl := EL.nil_inv h3
  obtain ⟨ms, rfl, hm⟩ := Fd.im_of e1
  obtain rfl := E_i64_inv e2
  refine ⟨_, ?_, kind_any hmix f.no f.el f.sd f.a f.b f.d f.e f.lo f.hi f.sex f.wear f.layer f.square hf.ho hv.list.1 k ((meaAt_of hR hs0 hf.ho hi hm).below hR.below)⟩
  unfold kindT
  simp only [E]
  exact ⟨[_, _], rfl, EL.cons (by simp only [E]; exact ⟨[_, _, _], rfl, EL.cons (E_i64 _) (EL.cons (E_i64 _) (EL.cons (E_i64 _) EL.nil))⟩) (EL.cons (by simp only [E]) EL.nil)⟩
end Go.Proofs.YtilfiadkhohfiaaGreatDoor
/- Layer 2: joins of finds, in runs. -/
set_option linter.unusedVariables false
set_option maxRecDepth 100000
namespace Go.Proofs.YtilfiadkhohfiaaGreatDoor
set_option linter.unusedSimpArgs false
set_option linter.unusedVariables false
open Go Go.RowKit Go.Clo
noncomputable section
def b124 : Code := ((Tryz.prog.funcs[124]?).bind (·.body)).getD .skip
def f124 : Func := (Tryz.prog.funcs[124]?).getD default
def pre124 : List Code := [hdC b124, hdC (tlC b124), hdC (tlC (tlC b124))]
def rest124 : Code := tlC (tlC (tlC b124))
def r124 : Code := hdC (hdC rest124)
def e124 : Code := tlC rest124
def body124 : Code := ((some (tlC (hdC rest124))).bind loopOf).getD .skip
def preG124 (x : Ex) (t : Fr) (s : St) : Ex × Nat × List V × List (Option (List V)) := match x with | .normal => (x, t.n, [t.get 2, t.get 3, t.get 5, t.get 6], [ptrC (t.get 2) s, ptrC (t.get 3) s]) | x => (x, 0, [t.get 4], [])
def hd124 (n k : Int) (d : Nat → V) : List V := [d 0, d 1, .ptr 2 0, .ptr 3 0, d 4, i64 n, i64 k, d 7, d 8, d 9, d 10, d 11, d 12, d 13, d 14, d 15, d 16, d 17, d 18, d 19, d 20, d 21, d 22, d 23, d 24, d 25, d 26, d 27, d 28, d 29, d 30, d 31, d 32, d 33, d 34, d 35, d 36, d 37, d 38, d 39, d 40, d 41, d 42, d 43, d 44, d 45, d 46, d 47, d 48, d 49, d 50, d 51, d 52, d 53, d 54, d 55, d 56, d 57, d 58, d 59, d 60, d 61, d 62, d 63, d 64, d 65, d 66, d 67, d 68, d 69, d 70, d 71, d 72, d 73, d 74, d 75, d 76, d 77, d 78, d 79, d 80, d 81, d 82, d 83, d 84, d 85, d 86, d 87, d 88, d 89, d 90, d 91, d 92, d 93, d 94, d 95, d 96, d 97, d 98, d 99, d 100, d 101, d 102, d 103, d 104, d 105, d 106, d 107, d 108, d 109, d 110, d 111, d 112]
def ed124 (n : Int) (d : Nat → V) : List V := [d 0, d 1, d 2, d 3, d 4, i64 n, d 6, d 7, d 8, d 9, d 10, d 11, d 12, d 13, d 14, d 15, d 16, d 17, d 18, d 19, d 20, d 21, d 22, d 23, d 24, d 25, d 26, d 27, d 28, d 29, d 30, d 31, d 32, d 33, d 34, d 35, d 36, d 37, d 38, d 39, d 40, d 41, d 42, d 43, d 44, d 45, d 46, d 47, d 48, d 49, d 50, d 51, d 52, d 53, d 54, d 55, d 56, d 57, d 58, d 59, d 60, d 61, d 62, d 63, d 64, d 65, d 66, d 67, d 68, d 69, d 70, d 71, d 72, d 73, d 74, d 75, d 76, d 77, d 78, d 79, d 80, d 81, d 82, d 83, d 84, d 85, d 86, d 87, d 88, d 89, d 90, d 91, d 92, d 93, d 94, d 95, d 96, d 97, d 98, d 99, d 100, d 101, d 102, d 103, d 104, d 105, d 106, d 107, d 108, d 109, d 110, d 111, d 112]
abbrev RndJ := Option (Ex × Nat × List V)
def rnd124 (x : Ex) (t : Fr) (s : St) : Ex × Nat × List V := match x with
  | .ret => (x, 0, [t.get 4])
  | x => (x, t.n, [t.get 2, t.get 3, t.get 5, t.get 6])
def endG124 (x : Ex) (t : Fr) (s : St) : Ex × List V := (x, [t.get 4])
def vf174 (f : FuncId) (s : St) : List (Option Blk) := [s.get 0, s.get 1]
def tb174 (x y : V) : Tb := fun f => cond (Nat.beq f 174) (some fun _ n => (cond (Nat.beq n 4) x y, none)) none
def st4 (la lb a b : List V) : St := ((((⟨.nil, 0⟩ : St).alloc (.ro la)).alloc (.ro lb)).alloc (.ro a)).alloc (.ro b)
def leafJ (x : Ex) (n k : Int) : RndJ := some (x, 113, [.ptr 2 0, .ptr 3 0, i64 n, i64 k])
def noJ : RndJ := some (.ret, 0, [.bool false])
def rndJ (ga gb : Bool) (x y : Mea) (ix iy : Bool) (n k : Int) : RndJ :=
  let nxt : Int → RndJ := fun m => leafJ .normal m (fit .i64 (Int.add k 1))
  let cnt : RndJ := cond ix (nxt (fit .i64 (Int.add n 1))) (cond iy (nxt (fit .i64 (Int.add n 1))) (nxt n))
  cond (!intLt 15 k) (cond ga (cond gb (cond ix (cond iy (cond (intLt (hiB x y) (loB x y)) noJ cnt) cnt) cnt) none) none) (leafJ (.exit 0) n k)
def preJ {γ : Type} (el sd : Int) (a : Nat) (lo hi : Int) (el' sd' : Int) (a' : Nat) (lo' hi' : Int) (no ok : Option γ) : Option γ :=
  let next : Option γ := cond (bleT a a') (cond (!intBeq (.ofNat (Nat.land a a')) 0) no (cond (intLt (hiA hi hi') (loA lo lo')) no ok)) none
  cond (!intBeq el el') no (cond (!intBeq sd sd') (cond (!intBeq sd 3) (cond (!intBeq sd' 3) no next) next) next)
end
theorem b124_eq : b124 = seqs pre124 (.seq (.seq r124 (.block 0 (.loop body124))) e124) := by kernel_rfl
theorem f124_get : Tryz.prog.funcs[124]? = some f124 := by kernel_rfl
theorem f124_body : f124.body = some b124 := by kernel_rfl
theorem f124_res : f124.results = #[.tmp 4] := by kernel_rfl
theorem f124_tmps : f124.ntmps = 113 := by kernel_rfl
section
variable (W0 : World) (c c' : List V) (n k : Int) (ma mb : V) (no el sd : Int) (a b d e : Nat) (lo hi sex wear layer square : Int) (no' el' sd' : Int) (a' b' d' e' : Nat) (lo' hi' sex' wear' layer' square' : Int) (x y : Mea) (ix iy : Bool) (dd : Nat → V)
theorem rr124 : codeG Tryz.prog (semN Tryz.prog W0 vf174 (tb174 (kindT x ix) (kindT y iy))) 60 body124 (frL (hd124 n k dd)) (st4 c c' (finL no el sd a b d e ma lo hi sex wear layer square) (finL no' el' sd' a' b' d' e' mb lo' hi' sex' wear' layer' square')) rnd124 = rndJ (goodN Tryz.prog W0 vf174 174 [.agg (finL no el sd a b d e ma lo hi sex wear layer square), i64 k] [some (.ro c), some (.ro c')] 0 (kindT x ix) none) (goodN Tryz.prog W0 vf174 174 [.agg (finL no' el' sd' a' b' d' e' mb lo' hi' sex' wear' layer' square'), i64 k] [some (.ro c), some (.ro c')] 0 (kindT y iy) none) x y ix iy n k := by kernel_rfl
theorem rr124A : codeA Tryz.prog (semN Tryz.prog W0 vf174 (tb174 (kindT x ix) (kindT y iy))) 60 body124 (frL (hd124 n k dd)) (st4 c c' (finL no el sd a b d e ma lo hi sex wear layer square) (finL no' el' sd' a' b' d' e' mb lo' hi' sex' wear' layer' square')) false = codeA Tryz.prog (semN Tryz.prog W0 vf174 (tb174 (kindT x ix) (kindT y iy))) 60 body124 (frL (hd124 n k dd)) (st4 c c' (finL no el sd a b d e ma lo hi sex wear layer square) (finL no' el' sd' a' b' d' e' mb lo' hi' sex' wear' layer' square')) true := by kernel_rfl
theorem pr124 : codeG Tryz.prog (semN Tryz.prog W0 vf174 (fun _ => none)) 60 (seqs pre124 r124) (enterF [fin1 no el sd a ma lo hi sex wear layer square, fin1 no' el' sd' a' mb lo' hi' sex' wear' layer' square'] 113) (st2 c c') preG124 = preJ el sd a lo hi el' sd' a' lo' hi' (some (.ret, 0, [.bool false], [])) (some (.normal, 113, [.ptr 2 0, .ptr 3 0, i64 0, i64 0], [some (finL no el sd a 0 0 0 ma lo hi sex wear layer square), some (finL no' el' sd' a' 0 0 0 mb lo' hi' sex' wear' layer' square')])) := by kernel_rfl
theorem pr124A : codeA Tryz.prog (semN Tryz.prog W0 vf174 (fun _ => none)) 60 (seqs pre124 r124) (enterF [fin1 no el sd a ma lo hi sex wear layer square, fin1 no' el' sd' a' mb lo' hi' sex' wear' layer' square'] 113) (st2 c c') false = codeA Tryz.prog (semN Tryz.prog W0 vf174 (fun _ => none)) 60 (seqs pre124 r124) (enterF [fin1 no el sd a ma lo hi sex wear layer square, fin1 no' el' sd' a' mb lo' hi' sex' wear' layer' square'] 113) (st2 c c') true := by kernel_rfl
theorem er124 : codeG Tryz.prog (semS Tryz.prog W0 1 noTb) 60 e124 (frL (ed124 n dd)) ⟨.nil, 0⟩ endG124 = some (.ret, [.bool (!intLt 8 n)]) := by kernel_rfl
theorem er124A : codeA Tryz.prog (semS Tryz.prog W0 1 noTb) 60 e124 (frL (ed124 n dd)) ⟨.nil, 0⟩ false = codeA Tryz.prog (semS Tryz.prog W0 1 noTb) 60 e124 (frL (ed124 n dd)) ⟨.nil, 0⟩ true := by kernel_rfl
end
theorem hd124_ok {ρ : Rho} {n k : Int} {d : Nat → V} {tm : Array Value} (hs : tm.size = 113) (h2 : E ρ (.ptr 2 0) (tm.getD 2 undef)) (h3 : E ρ (.ptr 3 0) (tm.getD 3 undef)) (h5 : E ρ (i64 n) (tm.getD 5 undef)) (hk : E ρ (i64 k) (tm.getD 6 undef)) (hd : ∀ i, E ρ (d i) (tm.getD i undef)) :
    FrE ρ (frL (hd124 n k d)) tm := frL_ok (by rw [hs]; rfl) fun i v hi => match i, hi with
  | 0, hi => Option.some.inj hi ▸ hd 0
  | 1, hi => Option.some.inj hi ▸ hd 1
  | 2, hi => Option.some.inj hi ▸ h2
  | 3, hi => Option.some.inj hi ▸ h3
  | 4, hi => Option.some.inj hi ▸ hd 4
  | 5, hi => Option.some.inj hi ▸ h5
  | 6, hi => Option.some.inj hi ▸ hk
  | 7, hi => Option.some.inj hi ▸ hd 7
  | 8, hi => Option.some.inj hi ▸ hd 8
  | 9, hi => Option.some.inj hi ▸ hd 9
  | 10, hi => Option.some.inj hi ▸ hd 10
  | 11, hi => Option.some.inj hi ▸ hd 11
  | 12, hi => Option.some.inj hi ▸ hd 12
  | 13, hi => Option.some.inj hi ▸ hd 13
  | 14, hi => Option.some.inj hi ▸ hd 14
  | 15, hi => Option.some.inj hi ▸ hd 15
  | 16, hi => Option.some.inj hi ▸ hd 16
  | 17, hi => Option.some.inj hi ▸ hd 17
  | 18, hi => Option.some.inj hi ▸ hd 18
  | 19, hi => Option.some.inj hi ▸ hd 19
  | 20, hi => Option.some.inj hi ▸ hd 20
  | 21, hi => Option.some.inj hi ▸ hd 21
  | 22, hi => Option.some.inj hi ▸ hd 22
  | 23, hi => Option.some.inj hi ▸ hd 23
  | 24, hi => Option.some.inj hi ▸ hd 24
  | 25, hi => Option.some.inj hi ▸ hd 25
  | 26, hi => Option.some.inj hi ▸ hd 26
  | 27, hi => Option.some.inj hi ▸ hd 27
  | 28, hi => Option.some.inj hi ▸ hd 28
  | 29, hi => Option.some.inj hi ▸ hd 29
  | 30, hi => Option.some.inj hi ▸ hd 30
  | 31, hi => Option.some.inj hi ▸ hd 31
  | 32, hi => Option.some.inj hi ▸ hd 32
  | 33, hi => Option.some.inj hi ▸ hd 33
  | 34, hi => Option.some.inj hi ▸ hd 34
  | 35, hi => Option.some.inj hi ▸ hd 35
  | 36, hi => Option.some.inj hi ▸ hd 36
  | 37, hi => Option.some.inj hi ▸ hd 37
  | 38, hi => Option.some.inj hi ▸ hd 38
  | 39, hi => Option.some.inj hi ▸ hd 39
  | 40, hi => Option.some.inj hi ▸ hd 40
  | 41, hi => Option.some.inj hi ▸ hd 41
  | 42, hi => Option.some.inj hi ▸ hd 42
  | 43, hi => Option.some.inj hi ▸ hd 43
  | 44, hi => Option.some.inj hi ▸ hd 44
  | 45, hi => Option.some.inj hi ▸ hd 45
  | 46, hi => Option.some.inj hi ▸ hd 46
  | 47, hi => Option.some.inj hi ▸ hd 47
  | 48, hi => Option.some.inj hi ▸ hd 48
  | 49, hi => Option.some.inj hi ▸ hd 49
  | 50, hi => Option.some.inj hi ▸ hd 50
  | 51, hi => Option.some.inj hi ▸ hd 51
  | 52, hi => Option.some.inj hi ▸ hd 52
  | 53, hi => Option.some.inj hi ▸ hd 53
  | 54, hi => Option.some.inj hi ▸ hd 54
  | 55, hi => Option.some.inj hi ▸ hd 55
  | 56, hi => Option.some.inj hi ▸ hd 56
  | 57, hi => Option.some.inj hi ▸ hd 57
  | 58, hi => Option.some.inj hi ▸ hd 58
  | 59, hi => Option.some.inj hi ▸ hd 59
  | 60, hi => Option.some.inj hi ▸ hd 60
  | 61, hi => Option.some.inj hi ▸ hd 61
  | 62, hi => Option.some.inj hi ▸ hd 62
  | 63, hi => Option.some.inj hi ▸ hd 63
  | 64, hi => Option.some.inj hi ▸ hd 64
  | 65, hi => Option.some.inj hi ▸ hd 65
  | 66, hi => Option.some.inj hi ▸ hd 66
  | 67, hi => Option.some.inj hi ▸ hd 67
  | 68, hi => Option.some.inj hi ▸ hd 68
  | 69, hi => Option.some.inj hi ▸ hd 69
  | 70, hi => Option.some.inj hi ▸ hd 70
  | 71, hi => Option.some.inj hi ▸ hd 71
  | 72, hi => Option.some.inj hi ▸ hd 72
  | 73, hi => Option.some.inj hi ▸ hd 73
  | 74, hi => Option.some.inj hi ▸ hd 74
  | 75, hi => Option.some.inj hi ▸ hd 75
  | 76, hi => Option.some.inj hi ▸ hd 76
  | 77, hi => Option.some.inj hi ▸ hd 77
  | 78, hi => Option.some.inj hi ▸ hd 78
  | 79, hi => Option.some.inj hi ▸ hd 79
  | 80, hi => Option.some.inj hi ▸ hd 80
  | 81, hi => Option.some.inj hi ▸ hd 81
  | 82, hi => Option.some.inj hi ▸ hd 82
  | 83, hi => Option.some.inj hi ▸ hd 83
  | 84, hi => Option.some.inj hi ▸ hd 84
  | 85, hi => Option.some.inj hi ▸ hd 85
  | 86, hi => Option.some.inj hi ▸ hd 86
  | 87, hi => Option.some.inj hi ▸ hd 87
  | 88, hi => Option.some.inj hi ▸ hd 88
  | 89, hi => Option.some.inj hi ▸ hd 89
  | 90, hi => Option.some.inj hi ▸ hd 90
  | 91, hi => Option.some.inj hi ▸ hd 91
  | 92, hi => Option.some.inj hi ▸ hd 92
  | 93, hi => Option.some.inj hi ▸ hd 93
  | 94, hi => Option.some.inj hi ▸ hd 94
  | 95, hi => Option.some.inj hi ▸ hd 95
  | 96, hi => Option.some.inj hi ▸ hd 96
  | 97, hi => Option.some.inj hi ▸ hd 97
  | 98, hi => Option.some.inj hi ▸ hd 98
  | 99, hi => Option.some.inj hi ▸ hd 99
  | 100, hi => Option.some.inj hi ▸ hd 100
  | 101, hi => Option.some.inj hi ▸ hd 101
  | 102, hi => Option.some.inj hi ▸ hd 102
  | 103, hi => Option.some.inj hi ▸ hd 103
  | 104, hi => Option.some.inj hi ▸ hd 104
  | 105, hi => Option.some.inj hi ▸ hd 105
  | 106, hi => Option.some.inj hi ▸ hd 106
  | 107, hi => Option.some.inj hi ▸ hd 107
  | 108, hi => Option.some.inj hi ▸ hd 108
  | 109, hi => Option.some.inj hi ▸ hd 109
  | 110, hi => Option.some.inj hi ▸ hd 110
  | 111, hi => Option.some.inj hi ▸ hd 111
  | 112, hi => Option.some.inj hi ▸ hd 112
  | n + 113, hi => nomatch (show none = some v from hi)
theorem ed124_ok {ρ : Rho} {n : Int} {d : Nat → V} {tm : Array Value} (hs : tm.size = 113) (h5 : E ρ (i64 n) (tm.getD 5 undef)) (hd : ∀ i, E ρ (d i) (tm.getD i undef)) :
    FrE ρ (frL (ed124 n d)) tm := frL_ok (by rw [hs]; rfl) fun i v hi => match i, hi with
  | 0, hi => Option.some.inj hi ▸ hd 0
  | 1, hi => Option.some.inj hi ▸ hd 1
  | 2, hi => Option.some.inj hi ▸ hd 2
  | 3, hi => Option.some.inj hi ▸ hd 3
  | 4, hi => Option.some.inj hi ▸ hd 4
  | 5, hi => Option.some.inj hi ▸ h5
  | 6, hi => Option.some.inj hi ▸ hd 6
  | 7, hi => Option.some.inj hi ▸ hd 7
  | 8, hi => Option.some.inj hi ▸ hd 8
  | 9, hi => Option.some.inj hi ▸ hd 9
  | 10, hi => Option.some.inj hi ▸ hd 10
  | 11, hi => Option.some.inj hi ▸ hd 11
  | 12, hi => Option.some.inj hi ▸ hd 12
  | 13, hi => Option.some.inj hi ▸ hd 13
  | 14, hi => Option.some.inj hi ▸ hd 14
  | 15, hi => Option.some.inj hi ▸ hd 15
  | 16, hi => Option.some.inj hi ▸ hd 16
  | 17, hi => Option.some.inj hi ▸ hd 17
  | 18, hi => Option.some.inj hi ▸ hd 18
  | 19, hi => Option.some.inj hi ▸ hd 19
  | 20, hi => Option.some.inj hi ▸ hd 20
  | 21, hi => Option.some.inj hi ▸ hd 21
  | 22, hi => Option.some.inj hi ▸ hd 22
  | 23, hi => Option.some.inj hi ▸ hd 23
  | 24, hi => Option.some.inj hi ▸ hd 24
  | 25, hi => Option.some.inj hi ▸ hd 25
  | 26, hi => Option.some.inj hi ▸ hd 26
  | 27, hi => Option.some.inj hi ▸ hd 27
  | 28, hi => Option.some.inj hi ▸ hd 28
  | 29, hi => Option.some.inj hi ▸ hd 29
  | 30, hi => Option.some.inj hi ▸ hd 30
  | 31, hi => Option.some.inj hi ▸ hd 31
  | 32, hi => Option.some.inj hi ▸ hd 32
  | 33, hi => Option.some.inj hi ▸ hd 33
  | 34, hi => Option.some.inj hi ▸ hd 34
  | 35, hi => Option.some.inj hi ▸ hd 35
  | 36, hi => Option.some.inj hi ▸ hd 36
  | 37, hi => Option.some.inj hi ▸ hd 37
  | 38, hi => Option.some.inj hi ▸ hd 38
  | 39, hi => Option.some.inj hi ▸ hd 39
  | 40, hi => Option.some.inj hi ▸ hd 40
  | 41, hi => Option.some.inj hi ▸ hd 41
  | 42, hi => Option.some.inj hi ▸ hd 42
  | 43, hi => Option.some.inj hi ▸ hd 43
  | 44, hi => Option.some.inj hi ▸ hd 44
  | 45, hi => Option.some.inj hi ▸ hd 45
  | 46, hi => Option.some.inj hi ▸ hd 46
  | 47, hi => Option.some.inj hi ▸ hd 47
  | 48, hi => Option.some.inj hi ▸ hd 48
  | 49, hi => Option.some.inj hi ▸ hd 49
  | 50, hi => Option.some.inj hi ▸ hd 50
  | 51, hi => Option.some.inj hi ▸ hd 51
  | 52, hi => Option.some.inj hi ▸ hd 52
  | 53, hi => Option.some.inj hi ▸ hd 53
  | 54, hi => Option.some.inj hi ▸ hd 54
  | 55, hi => Option.some.inj hi ▸ hd 55
  | 56, hi => Option.some.inj hi ▸ hd 56
  | 57, hi => Option.some.inj hi ▸ hd 57
  | 58, hi => Option.some.inj hi ▸ hd 58
  | 59, hi => Option.some.inj hi ▸ hd 59
  | 60, hi => Option.some.inj hi ▸ hd 60
  | 61, hi => Option.some.inj hi ▸ hd 61
  | 62, hi => Option.some.inj hi ▸ hd 62
  | 63, hi => Option.some.inj hi ▸ hd 63
  | 64, hi => Option.some.inj hi ▸ hd 64
  | 65, hi => Option.some.inj hi ▸ hd 65
  | 66, hi => Option.some.inj hi ▸ hd 66
  | 67, hi => Option.some.inj hi ▸ hd 67
  | 68, hi => Option.some.inj hi ▸ hd 68
  | 69, hi => Option.some.inj hi ▸ hd 69
  | 70, hi => Option.some.inj hi ▸ hd 70
  | 71, hi => Option.some.inj hi ▸ hd 71
  | 72, hi => Option.some.inj hi ▸ hd 72
  | 73, hi => Option.some.inj hi ▸ hd 73
  | 74, hi => Option.some.inj hi ▸ hd 74
  | 75, hi => Option.some.inj hi ▸ hd 75
  | 76, hi => Option.some.inj hi ▸ hd 76
  | 77, hi => Option.some.inj hi ▸ hd 77
  | 78, hi => Option.some.inj hi ▸ hd 78
  | 79, hi => Option.some.inj hi ▸ hd 79
  | 80, hi => Option.some.inj hi ▸ hd 80
  | 81, hi => Option.some.inj hi ▸ hd 81
  | 82, hi => Option.some.inj hi ▸ hd 82
  | 83, hi => Option.some.inj hi ▸ hd 83
  | 84, hi => Option.some.inj hi ▸ hd 84
  | 85, hi => Option.some.inj hi ▸ hd 85
  | 86, hi => Option.some.inj hi ▸ hd 86
  | 87, hi => Option.some.inj hi ▸ hd 87
  | 88, hi => Option.some.inj hi ▸ hd 88
  | 89, hi => Option.some.inj hi ▸ hd 89
  | 90, hi => Option.some.inj hi ▸ hd 90
  | 91, hi => Option.some.inj hi ▸ hd 91
  | 92, hi => Option.some.inj hi ▸ hd 92
  | 93, hi => Option.some.inj hi ▸ hd 93
  | 94, hi => Option.some.inj hi ▸ hd 94
  | 95, hi => Option.some.inj hi ▸ hd 95
  | 96, hi => Option.some.inj hi ▸ hd 96
  | 97, hi => Option.some.inj hi ▸ hd 97
  | 98, hi => Option.some.inj hi ▸ hd 98
  | 99, hi => Option.some.inj hi ▸ hd 99
  | 100, hi => Option.some.inj hi ▸ hd 100
  | 101, hi => Option.some.inj hi ▸ hd 101
  | 102, hi => Option.some.inj hi ▸ hd 102
  | 103, hi => Option.some.inj hi ▸ hd 103
  | 104, hi => Option.some.inj hi ▸ hd 104
  | 105, hi => Option.some.inj hi ▸ hd 105
  | 106, hi => Option.some.inj hi ▸ hd 106
  | 107, hi => Option.some.inj hi ▸ hd 107
  | 108, hi => Option.some.inj hi ▸ hd 108
  | 109, hi => Option.some.inj hi ▸ hd 109
  | 110, hi => Option.some.inj hi ▸ hd 110
  | 111, hi => Option.some.inj hi ▸ hd 111
  | 112, hi => Option.some.inj hi ▸ hd 112
  | n + 113, hi => nomatch (show none = some v from hi)
end Go.Proofs.YtilfiadkhohfiaaGreatDoor
/- Layer 2: joins of finds, in runs. -/
set_option linter.unusedVariables false
set_option maxRecDepth 100000
namespace Go.Proofs.YtilfiadkhohfiaaGreatDoor
set_option linter.unusedSimpArgs false
set_option linter.unusedVariables false
open Go Go.RowKit Go.Clo

/-- Pieces one behind the other that end in a return. -/
theorem seqs_ret (hmix : Tryz.prog.follows .mixedOrders = true) {W0 : World} {H : Hook} (hH : HookOK Tryz.prog W0 H) {c L e : Code} {Q : Exit → Act → World → Prop} {t' : Fr} {s' : St} {ρ0 : Rho} {s0 : St} {w0 : World}
    (hK : ∀ a' w', Post W0 ρ0 s0 w0 .ret t' s' .ret a' w' → Q .ret a' w') :
    ∀ (l : List Code) (N : Nat) (t : Fr) (s : St), exec Tryz.prog H N (seqs l c) t s = .ok .ret t' s' → ∀ (ρ : Rho) (w : World) (a : Act), Step W0 ρ0 s0 w0 ρ s w → FrE ρ t a.tmps → a.defers = [] → (seqs l (.seq (.seq c L) e)).wp Tryz.prog Q a w
  | [], N, t, s, h, ρ, w, a, hst, hf, hd => by
    have h : exec Tryz.prog H N c t s = .ok .ret t' s' := h
    refine wp_seq (wp_seq (wp_mono (runs_ok hmix hH _ _ _ _ _ _ _ h ρ w a hst.rel hf hd) ?_))
    rintro e' a1 w1 ⟨rfl, hd1, ρ1, hst1, hf1⟩
    exact hK a1 w1 ⟨rfl, hd1, ρ1, hst.trans hst1, hf1⟩
  | d :: l, 0, t, s, h, _, _, _, _, _, _ => by cases h
  | d :: l, N + 1, t, s, h, ρ, w, a, hst, hf, hd => by
    have h : thenV (exec Tryz.prog H N d t s) (exec Tryz.prog H N (seqs l c)) = .ok .ret t' s' := h
    obtain ⟨x1, t1, s1, h1, h2⟩ := thenV_ok h
    rcases h2 with ⟨rfl, h2⟩ | ⟨hne, rfl, rfl, rfl⟩
    · refine wp_seq (wp_mono (runs_ok hmix hH _ _ _ _ _ _ _ h1 ρ w a hst.rel hf hd) ?_)
      rintro e' a1 w1 ⟨rfl, hd1, ρ1, hst1, hf1⟩
      exact seqs_ret hmix hH hK l N t1 s1 h2 ρ1 w1 a1 (hst.trans hst1) hf1 hd1
    · refine wp_seq (wp_mono (runs_ok hmix hH _ _ _ _ _ _ _ h1 ρ w a hst.rel hf hd) ?_)
      rintro e' a1 w1 ⟨rfl, hd1, ρ1, hst1, hf1⟩
      exact hK a1 w1 ⟨rfl, hd1, ρ1, hst.trans hst1, hf1⟩
/-- How many there are. -/
def cntK (P : Nat → Bool) : Nat → Nat
  | 0 => 0
  | j + 1 => cntK P j + cond (P j) 1 0
theorem cntK_le (P : Nat → Bool) : ∀ j, cntK P j ≤ j
  | 0 => Nat.le_refl _
  | j + 1 => by
    have := cntK_le P j
    show cntK P j + cond (P j) 1 0 ≤ j + 1
    cases P j <;> simp <;> omega
theorem filterMap_len (F : Nat → Option Mea) : ∀ n, ((List.range n).filterMap F).length = cntK (fun k => spanB (F k)) n
  | 0 => rfl
  | n + 1 => by
    rw [List.range_succ, List.filterMap_append, List.length_append, filterMap_len F n]
    show _ = cntK _ n + cond (spanB (F n)) 1 0
    cases h : F n <;> simp [h, spanB]
def anyK (a b : List Mea) (k : Nat) : Bool := spanB (getM a k) || spanB (getM b k)
theorem oneM_some (a b : List Mea) (k : Nat) : spanB (oneM a b k) = anyK a b k := by
  unfold anyK
  rw [oneM_O]
  cases getM a (k : Int) <;> cases getM b (k : Int) <;> rfl
theorem joinM_len {a b l : List Mea} (ha : okL (-1) a) (hb : okL (-1) b) (h : joinM a a b = some l) : l.length = cntK (anyK a b) 16 := by
  rw [joinM_byKind ha hb] at h
  split at h
  · cases h
  · injection h with h
    subst h
    unfold byKind
    rw [filterMap_len]
    congr 1
    funext k
    exact oneM_some a b k
theorem joinM_bad {a b : List Mea} (ha : okL (-1) a) (hb : okL (-1) b) : joinM a a b = none ↔ ∃ k : Nat, k < 16 ∧ badM a b k = true := by
  rw [joinM_byKind ha hb]
  constructor
  · intro h
    split at h
    · rename_i hh
      rw [List.any_eq_true] at hh
      obtain ⟨k, hk, hb⟩ := hh
      exact ⟨k, List.mem_range.1 hk, hb⟩
    · cases h
  · rintro ⟨k, hk, hb⟩
    rw [if_pos]
    rw [List.any_eq_true]
    exact ⟨k, List.mem_range.2 hk, hb⟩
structure Head124 (tm : Array Value) (pa pb : Value) (n j : Nat) : Prop where
  size : tm.size = 113
  h2 : tm.getD 2 undef = pa
  h3 : tm.getD 3 undef = pb
  h5 : tm.getD 5 undef = .int .i64 (n : Int)
  hk : tm.getD 6 undef = .int .i64 (j : Int)
theorem kindM_loI {o : Option Mea} (h : ∀ m, o = some m → okV m) : okV (kindM o) := by
  cases o with
  | none => exact ⟨by show (0 : Int) ≤ 0; omega, by show (0 : Int) ≤ 15; omega, by show (0 : Int) ≤ 0; omega, by show (0 : Int) ≤ 100000; omega, by show (0 : Int) ≤ 0; omega, by show (0 : Int) ≤ 1000; omega⟩
  | some m => exact h m rfl
theorem rndJ_eq {f g : Fd} (hvf : f.Valid) (hvg : g.Valid) {n j : Nat} (hn : n ≤ 16) (hj : j ≤ 16) :
    rndJ true true (kindM (getM f.l j)) (kindM (getM g.l j)) (spanB (getM f.l j)) (spanB (getM g.l j)) (n : Int) (j : Int) =
      if j = 16 then leafJ (.exit 0) (n : Int) (j : Int) else if badM f.l g.l j = true then noJ else leafJ .normal ((n + cond (anyK f.l g.l j) 1 0 : Nat) : Int) ((j + 1 : Nat) : Int) := by
  have hx := kindM_loI (getM_okV hvf.list.2.2 (k := (j : Int)))
  have hy := kindM_loI (getM_okV hvg.list.2.2 (k := (j : Int)))
  have e1 : fit .i64 (Int.add (j : Int) 1) = ((j + 1 : Nat) : Int) := by rw [show Int.add (j : Int) 1 = (j : Int) + 1 from rfl, fit_i64 (by omega)]; rfl
  have e2 : fit .i64 (Int.add (n : Int) 1) = ((n + 1 : Nat) : Int) := by rw [show Int.add (n : Int) 1 = (n : Int) + 1 from rfl, fit_i64 (by omega)]; rfl
  unfold rndJ
  rw [e1, e2, hiB_eq hx hy, loB_eq hx hy]
  by_cases h16 : j = 16
  · have : (!intLt 15 (j : Int)) = false := by rw [Bool.not_eq_false', intLt_iff]; omega
    rw [this, if_pos h16]; rfl
  · have : (!intLt 15 (j : Int)) = true := by rw [Bool.not_eq_true', ← Bool.not_eq_true, intLt_iff]; omega
    rw [this, if_neg h16]
    unfold badM anyK
    cases h1 : getM f.l (j : Int) with
    | none =>
      cases h2 : getM g.l (j : Int) with
      | none => rfl
      | some y => rfl
    | some x =>
      cases h2 : getM g.l (j : Int) with
      | none => rfl
      | some y =>
        show cond (intLt (hiM x y) (loM x y)) noJ _ = if decide (hiM x y < loM x y) = true then _ else _
        cases hb : intLt (hiM x y) (loM x y) with
        | true => rw [intLt_iff] at hb; rw [if_pos (decide_eq_true hb)]; rfl
        | false => rw [← Bool.not_eq_true, intLt_iff] at hb; rw [if_neg (by simpa using hb)]; rfl
theorem round124 (hmix : Tryz.prog.follows .mixedOrders = true) {w : World} {act : Act} {f g : Fd} (hf : f.OK) (hg : g.OK) (hvf : f.Valid) (hvg : g.Valid) {msf msg pa pb : Value}
    (hmf : MeaAt w msf f.oc f.l) (hmg : MeaAt w msg g.oc g.l) (hbf : BoxF w pa (f.cs msf)) (hbg : BoxF w pb (g.cs msg)) {n j : Nat} (hn : n ≤ 16) (hj : j ≤ 16) (hh : Head124 act.tmps pa pb n j) (hd : act.defers = []) :
    body124.wp Tryz.prog (fun e a' w' => Below w.heap.size w w' ∧ a'.defers = [] ∧ ((j = 16 ∧ e = .exit 0 ∧ a'.tmps.size = 113 ∧ a'.tmps.getD 5 undef = .int .i64 (n : Int)) ∨ (j < 16 ∧ badM f.l g.l j = true ∧ e = .ret ∧ a'.tmps.getD 4 undef = .bool false) ∨
      (j < 16 ∧ badM f.l g.l j = false ∧ e = .normal ∧ Head124 a'.tmps pa pb (n + cond (anyK f.l g.l j) 1 0) (j + 1)))) act w := by
  have hs0 : 0 < w.heap.size := by
    obtain ⟨blk, _, h1, _⟩ := hbf
    omega
  obtain ⟨ρ1, _, hR1, ea⟩ := hmf.add (Rel.start' (Below.refl w.heap.size w))
  obtain ⟨ρ2, le2, hR2, eb⟩ := hmg.add hR1
  have ea : E ρ2 (mvOf 0 f.oc f.l) msf := E.mono le2 _ ea
  have eb : E ρ2 (mvOf 1 g.oc g.l) msg := eb
  obtain ⟨ρ4, le4, hR4, q2⟩ := hbf.add hR2 (vs := f.vs (mvOf 0 f.oc f.l)) (EL_fin ea)
  obtain ⟨ρ5, le5, hR5, q3⟩ := hbg.add hR4 (vs := g.vs (mvOf 1 g.oc g.l)) (EL_fin (E.mono le4 _ eb))
  have q2 : E ρ5 (.ptr 2 0) pa := E.mono le5 _ q2
  have q3 : E ρ5 (.ptr 3 0) pb := q3
  have hch : ∃ d : Nat → V, ∀ i, E ρ5 (d i) (act.tmps.getD i undef) := ⟨fun i => Classical.choose (E.some ρ5 (act.tmps.getD i undef)), fun i => Classical.choose_spec (E.some ρ5 (act.tmps.getD i undef))⟩
  obtain ⟨d, hdd⟩ := hch
  have hF : FrE ρ5 (frL (hd124 (n : Int) (j : Int) d)) act.tmps := hd124_ok hh.size (by rw [hh.h2]; exact q2) (by rw [hh.h3]; exact q3) (by rw [hh.h5]; exact E_i64 _) (by rw [hh.hk]; exact E_i64 _) hdd
  have hR5 : Rel w ρ5 (st4 (meaC f.l) (meaC g.l) (f.vs (mvOf 0 f.oc f.l)) (g.vs (mvOf 1 g.oc g.l))) w := hR5
  have hvw : ∀ {s : St}, vf174 174 s = [some (.ro (meaC f.l)), some (.ro (meaC g.l))] → s.get 0 = some (.ro (meaC f.l)) ∧ s.get 1 = some (.ro (meaC g.l)) := fun {s} h => ⟨(List.cons.inj h).1, (List.cons.inj (List.cons.inj h).2).1⟩
  have gf : goodN Tryz.prog w vf174 174 [f.iv 0, i64 (j : Int)] [some (.ro (meaC f.l)), some (.ro (meaC g.l))] 0 (kindT (kindM (getM f.l j)) (spanB (getM f.l j))) none = true := goodN_true fun s h _ => good174 hmix hs0 hf hvf (hvw h).1
  have gg : goodN Tryz.prog w vf174 174 [g.iv 1, i64 (j : Int)] [some (.ro (meaC f.l)), some (.ro (meaC g.l))] 0 (kindT (kindM (getM g.l j)) (spanB (getM g.l j))) none = true := goodN_true fun s h _ => good174 hmix hs0 hg hvg (hvw h).2
  have hr := rr124 w (meaC f.l) (meaC g.l) (n : Int) (j : Int) (mvOf 0 f.oc f.l) (mvOf 1 g.oc g.l) f.no f.el f.sd f.a f.b f.d f.e f.lo f.hi f.sex f.wear f.layer f.square g.no g.el g.sd g.a g.b g.d g.e g.lo g.hi g.sex g.wear g.layer g.square (kindM (getM f.l j)) (kindM (getM g.l j)) (spanB (getM f.l j)) (spanB (getM g.l j)) d
  have hA := rr124A w (meaC f.l) (meaC g.l) (n : Int) (j : Int) (mvOf 0 f.oc f.l) (mvOf 1 g.oc g.l) f.no f.el f.sd f.a f.b f.d f.e f.lo f.hi f.sex f.wear f.layer f.square g.no g.el g.sd g.a g.b g.d g.e g.lo g.hi g.sex g.wear g.layer g.square (kindM (getM f.l j)) (kindM (getM g.l j)) (spanB (getM f.l j)) (spanB (getM g.l j)) d
  have hr2 : codeG Tryz.prog (semN Tryz.prog w vf174 (tb174 (kindT (kindM (getM f.l j)) (spanB (getM f.l j))) (kindT (kindM (getM g.l j)) (spanB (getM g.l j))))) 60 body124 (frL (hd124 (n : Int) (j : Int) d)) (st4 (meaC f.l) (meaC g.l) (f.vs (mvOf 0 f.oc f.l)) (g.vs (mvOf 1 g.oc g.l))) rnd124 =
      rndJ (goodN Tryz.prog w vf174 174 [f.iv 0, i64 (j : Int)] [some (.ro (meaC f.l)), some (.ro (meaC g.l))] 0 (kindT (kindM (getM f.l j)) (spanB (getM f.l j))) none) (goodN Tryz.prog w vf174 174 [g.iv 1, i64 (j : Int)] [some (.ro (meaC f.l)), some (.ro (meaC g.l))] 0 (kindT (kindM (getM g.l j)) (spanB (getM g.l j))) none) (kindM (getM f.l j)) (kindM (getM g.l j)) (spanB (getM f.l j)) (spanB (getM g.l j)) (n : Int) (j : Int) := hr
  rw [gf, gg, rndJ_eq hvf hvg hn hj] at hr2
  have noI : ∀ r, ¬ Img ρ5 (st4 (meaC f.l) (meaC g.l) (f.vs (mvOf 0 f.oc f.l)) (g.vs (mvOf 1 g.oc g.l))) r := noImg_alloc (noImg_alloc (noImg_alloc (noImg_alloc fun r ⟨b, x, l, hb, _⟩ => by cases hb)))
  by_cases h16 : j = 16
  · rw [if_pos h16] at hr2
    refine wp_mono (codeG_stepH hmix semN_ok hr2 hA hR5 hF hd) ?_
    rintro e a' w' ⟨x, t', s', ⟨rfl, hd', ρ', hst, hf'⟩, hg⟩
    refine ⟨Step.belowOf hR5 hst noI, hd', .inl ?_⟩
    unfold rnd124 at hg
    split at hg
    · simp only [Prod.mk.injEq] at hg; cases hg.1
    · simp only [Prod.mk.injEq, List.cons.injEq] at hg
      obtain ⟨rfl, gn, g2, g3, g5, gk, _⟩ := hg
      have e5 := hf'.2 5
      rw [g5] at e5
      exact ⟨h16, rfl, hf'.1.trans gn, E_i64_inv e5⟩
  · rw [if_neg h16] at hr2
    by_cases hb : badM f.l g.l (j : Int) = true
    · rw [if_pos hb] at hr2
      refine wp_mono (codeG_stepH hmix semN_ok hr2 hA hR5 hF hd) ?_
      rintro e a' w' ⟨x, t', s', ⟨rfl, hd', ρ', hst, hf'⟩, hg⟩
      refine ⟨Step.belowOf hR5 hst noI, hd', .inr (.inl ⟨by omega, hb, ?_⟩)⟩
      unfold rnd124 at hg
      split at hg
      · simp only [Prod.mk.injEq, List.cons.injEq] at hg
        have e4 := hf'.2 4
        rw [hg.2.2.1] at e4
        exact ⟨rfl, E_bool_inv e4⟩
      · rename_i hne
        simp only [Prod.mk.injEq] at hg
        exact absurd hg.1 hne
    · rw [if_neg hb] at hr2
      refine wp_mono (codeG_stepH hmix semN_ok hr2 hA hR5 hF hd) ?_
      rintro e a' w' ⟨x, t', s', ⟨rfl, hd', ρ', hst, hf'⟩, hg⟩
      refine ⟨Step.belowOf hR5 hst noI, hd', .inr (.inr ⟨by omega, by simpa using hb, ?_⟩)⟩
      unfold rnd124 at hg
      split at hg
      · simp only [Prod.mk.injEq] at hg; cases hg.1
      · simp only [Prod.mk.injEq, List.cons.injEq] at hg
        obtain ⟨rfl, gn, g2, g3, g5, gk, _⟩ := hg
        have e2 := hf'.2 2
        have e3 := hf'.2 3
        have e5 := hf'.2 5
        have e6 := hf'.2 6
        rw [g2] at e2; rw [g3] at e3; rw [g5] at e5; rw [gk] at e6
        exact ⟨rfl, hf'.1.trans gn, ptr_fun e2 (E.mono hst.le _ q2), ptr_fun e3 (E.mono hst.le _ q3), E_i64_inv e5, E_i64_inv e6⟩
end Go.Proofs.YtilfiadkhohfiaaGreatDoor
/- Layer 2: joins of finds, in runs. -/
set_option linter.unusedVariables false
set_option maxRecDepth 100000
namespace Go.Proofs.YtilfiadkhohfiaaGreatDoor
set_option linter.unusedSimpArgs false
set_option linter.unusedVariables false
open Go Go.RowKit Go.Clo
variable {W : World}

theorem rounds124 (hmix : Tryz.prog.follows .mixedOrders = true) {Q : Exit → Act → World → Prop} {f g : Fd} (hf : f.OK) (hg : g.OK) (hvf : f.Valid) (hvg : g.Valid) {msf msg pa pb : Value}
    (hmf : MeaAt W msf f.oc f.l) (hmg : MeaAt W msg g.oc g.l) (hbf : BoxF W pa (f.cs msf)) (hbg : BoxF W pb (g.cs msg))
    (hstop : ∀ a' w', Below W.heap.size W w' → a'.defers = [] → (∃ k : Nat, k < 16 ∧ badM f.l g.l k = true) → a'.tmps.getD 4 undef = .bool false → Q .ret a' w')
    (hend : ∀ a' w', Below W.heap.size W w' → a'.defers = [] → (∀ k : Nat, k < 16 → badM f.l g.l k = false) → a'.tmps.size = 113 → a'.tmps.getD 5 undef = .int .i64 (cntK (anyK f.l g.l) 16 : Nat) → Q (.exit 0) a' w') :
    ∀ (n j : Nat) (w : World) (act : Act), j + n = 16 → Below W.heap.size W w → (∀ k : Nat, k < j → badM f.l g.l k = false) → Head124 act.tmps pa pb (cntK (anyK f.l g.l) j) j → act.defers = [] → Code.rounds Tryz.prog body124 Q (n + 1) act w
  | 0, j, w, act, hj, hw, hno, hh, hd => by
    have hj : j = 16 := by omega
    subst hj
    refine wp_mono (round124 hmix hf hg hvf hvg (hmf.below hw) (hmg.below hw) (hbf.below hw) (hbg.below hw) (cntK_le _ _) (by omega) hh hd) ?_
    rintro e a' w' ⟨hb, hd', ⟨_, rfl, hs, h5⟩ | ⟨h, _⟩ | ⟨h, _⟩⟩
    · exact hend a' w' (below_tr hw hb) hd' hno hs h5
    · omega
    · omega
  | n + 1, j, w, act, hj, hw, hno, hh, hd => by
    refine wp_mono (round124 hmix hf hg hvf hvg (hmf.below hw) (hmg.below hw) (hbf.below hw) (hbg.below hw) (Nat.le_trans (cntK_le _ _) (by omega)) (by omega) hh hd) ?_
    rintro e a' w' ⟨hb, hd', ⟨h, _⟩ | ⟨_, hbad, rfl, h4⟩ | ⟨_, hok, rfl, hh'⟩⟩
    · omega
    · exact hstop a' w' (below_tr hw hb) hd' ⟨j, by omega, hbad⟩ h4
    · refine rounds124 hmix hf hg hvf hvg hmf hmg hbf hbg hstop hend n (j + 1) w' a' (by omega) (below_tr hw hb) (fun k hk => ?_) hh' hd'
      by_cases h : k = j
      · subst h; exact hok
      · exact hno k (by omega)
theorem end124 (hmix : Tryz.prog.follows .mixedOrders = true) {w : World} {act : Act} {n : Nat} (hs : act.tmps.size = 113) (h5 : act.tmps.getD 5 undef = .int .i64 (n : Int)) (hd : act.defers = []) :
    e124.wp Tryz.prog (fun e a' w' => e = .ret ∧ Below w.heap.size w w' ∧ a'.defers = [] ∧ a'.tmps.getD 4 undef = .bool (decide (n ≤ 8))) act w := by
  have hch : ∃ d : Nat → V, ∀ i, E (fun _ => none) (d i) (act.tmps.getD i undef) := ⟨fun i => Classical.choose (E.some (fun _ => none) (act.tmps.getD i undef)), fun i => Classical.choose_spec (E.some (fun _ => none) (act.tmps.getD i undef))⟩
  obtain ⟨d, hdd⟩ := hch
  have hR := Rel.start' (Below.refl w.heap.size w)
  refine wp_mono (codeG_step hmix (er124 w (n : Int) d) (er124A w (n : Int) d) hR (ed124_ok hs (by rw [h5]; exact E_i64 _) hdd) hd) ?_
  rintro e a' w' ⟨x, t', s', ⟨rfl, hd', ρ', hst, hf⟩, hg⟩
  simp only [endG124, Prod.mk.injEq, List.cons.injEq] at hg
  obtain ⟨rfl, g4, _⟩ := hg
  have e4 := hf.2 4
  rw [g4] at e4
  refine ⟨rfl, Step.belowOf hR hst (fun r ⟨b, x, l, hb, _⟩ => by cases hb), hd', ?_⟩
  rw [E_bool_inv e4]
  congr 1
  rw [Bool.eq_iff_iff, Bool.not_eq_true', ← Bool.not_eq_true, intLt_iff, decide_eq_true_iff]
  omega
theorem res4 {fn : Func} (h : fn.results = #[.tmp 4]) (tm : Array Value) (w : World) {P : Program} : (results fn tm).run P w = .ok (tm.getD 4 undef) w := by
  rw [results_eq, h]
  simp [resOne]
/-- Whether the finds themselves can be one, apart from their measurements. -/
def jC0 (f g : Fd) : Bool := intBeq f.el g.el && ((intBeq f.sd g.sd || (intBeq f.sd 3 || intBeq g.sd 3)) && (intBeq (.ofNat (Nat.land f.a g.a)) 0 && !intLt (hiA f.hi g.hi) (loA f.lo g.lo)))
theorem jC0_eq (f g : Fd) (ag : Bool) : jC f g ag = (jC0 f g && ag) := by
  unfold jC jC0
  have e : eqVs (setV4 (Nat.land f.a g.a)) (setV4 0) = intBeq (.ofNat (Nat.land f.a g.a)) 0 := by
    rw [Bool.eq_iff_iff, eqSet_iff, intBeq_iff]
    simp only [Int.ofNat_eq_natCast]
    omega
  rw [e]
  cases intBeq f.el g.el <;> cases intBeq f.sd g.sd <;> cases intBeq f.sd 3 <;> cases intBeq g.sd 3 <;> cases intBeq (.ofNat (Nat.land f.a g.a)) 0 <;> cases intLt (hiA f.hi g.hi) (loA f.lo g.lo) <;> cases ag <;> rfl
theorem preJ_eq {γ : Type} {f g : Fd} (hf : f.OK) (hg : g.OK) (no ok : Option γ) : preJ f.el f.sd f.a f.lo f.hi g.el g.sd g.a g.lo g.hi no ok = cond (jC0 f g) ok no := by
  unfold preJ jC0
  rw [bleT_of hf hg]
  cases intBeq f.el g.el <;> cases intBeq f.sd g.sd <;> cases intBeq f.sd 3 <;> cases intBeq g.sd 3 <;> cases intBeq (.ofNat (Nat.land f.a g.a)) 0 <;> cases intLt (hiA f.hi g.hi) (loA f.lo g.lo) <;> rfl
/-- ref.Joinable. -/
theorem joinable_calls (hmix : Tryz.prog.follows .mixedOrders = true) (hs0 : 0 < W.heap.size) {f g : Fd} (hf : f.OK) (hg : g.OK) (hvf : f.Valid) (hvg : g.Valid) {ms ms' : Value} (hm : MeaAt W ms f.oc f.l) (hm' : MeaAt W ms' g.oc g.l) :
    Calls Tryz.prog 124 #[f.U ms, g.U ms'] W fun e w' => e = .returned (.bool (jC f g (agB f g))) ∧ Below W.heap.size W w' := by
  have e1 := hvf.fin (mvOf 0 f.oc f.l)
  have e2 := hvg.fin (mvOf 1 g.oc g.l)
  obtain ⟨ρ, hR, x1, x2⟩ := pair_rel hm hm'
  have hF : FrE ρ (enterF [f.iv 0, g.iv 1] 113) (#[f.U ms, g.U ms'] ++ Array.replicate (113 - 2) undef) := enterF_ok (EL.cons (Fd.im_E x1) (EL.cons (Fd.im_E x2) EL.nil)) 113
  have hr := pr124 W (meaC f.l) (meaC g.l) (mvOf 0 f.oc f.l) (mvOf 1 g.oc g.l) f.no f.el f.sd f.a f.lo f.hi f.sex f.wear f.layer f.square g.no g.el g.sd g.a g.lo g.hi g.sex g.wear g.layer g.square
  have ha := pr124A W (meaC f.l) (meaC g.l) (mvOf 0 f.oc f.l) (mvOf 1 g.oc g.l) f.no f.el f.sd f.a f.lo f.hi f.sex f.wear f.layer f.square g.no g.el g.sd g.a g.lo g.hi g.sex g.wear g.layer g.square
  rw [← e1, ← e2] at hr ha
  rw [preJ_eq hf hg] at hr
  refine calls_of_wp f124_get f124_body ?_
  rw [b124_eq, f124_tmps]
  cases hc : jC0 f g with
  | false =>
    rw [hc] at hr
    obtain ⟨x, t', s', hx, hgx⟩ := codeG_ok hr ha
    have hxr : x = .ret ∧ t'.get 4 = .bool false := by
      cases x <;> simp only [preG124, Prod.mk.injEq, List.cons.injEq] at hgx
      · cases hgx.1
      · cases hgx.1
      · cases hgx.1
      · exact ⟨rfl, hgx.2.2.1.1⟩
    obtain ⟨rfl, g4⟩ := hxr
    refine seqs_ret hmix semN_ok (t' := t') (s' := s') (ρ0 := ρ) (s0 := st2 (meaC f.l) (meaC g.l)) (w0 := W) ?_ pre124 60 _ _ hx ρ W { tmps := #[f.U ms, g.U ms'] ++ Array.replicate (113 - 2) undef, defers := [] } (Step.refl hR) hF rfl
    rintro a1 w1 ⟨_, hd1, ρ', hst, hf1⟩
    have q4 := hf1.2 4
    rw [g4] at q4
    refine ⟨hd1, _, res4 f124_res a1.tmps w1, ?_⟩
    rw [E_bool_inv q4, jC0_eq, hc]
    exact ⟨rfl, Step.belowOf hR hst pair_noImg⟩
  | true =>
    rw [hc] at hr
    obtain ⟨x, t', s', hx, hgx⟩ := codeG_ok hr ha
    have hxn : x = .normal := by
      cases x <;> simp only [preG124, Prod.mk.injEq] at hgx
      · rfl
      all_goals cases hgx.1
    subst hxn
    simp only [preG124, Prod.mk.injEq, List.cons.injEq] at hgx
    obtain ⟨_, gn, ⟨g2, g3, g5, g6, _⟩, ⟨p2, p3, _⟩⟩ := hgx
    refine seqs_wp hmix semN_ok (t' := t') (s' := s') (ρ0 := ρ) (s0 := st2 (meaC f.l) (meaC g.l)) (w0 := W) ?_ pre124 60 _ _ hx ρ W { tmps := #[f.U ms, g.U ms'] ++ Array.replicate (113 - 2) undef, defers := [] } (Step.refl hR) hF rfl
    rintro a1 w1 ⟨_, hd1, ρ', hst, hf1⟩
    have hb1 := Step.belowOf hR hst pair_noImg
    have q2 := hf1.2 2
    have q3 := hf1.2 3
    have q5 := hf1.2 5
    have q6 := hf1.2 6
    rw [g2] at q2 p2; rw [g3] at q3 p3; rw [g5] at q5; rw [g6] at q6
    obtain ⟨msf, bf, ef⟩ := box_of hst.rel q2 p2
    obtain ⟨msg, bg, eg⟩ := box_of hst.rel q3 p3
    obtain rfl := mv_fun ef (E.mono hst.le _ x1)
    obtain rfl := mv_fun eg (E.mono hst.le _ x2)
    obtain ⟨_, _, wf1, wf2, wf3⟩ := hvf.words
    obtain ⟨_, _, wg1, wg2, wg3⟩ := hvg.words
    have bf : BoxF w1 (a1.tmps.getD 2 undef) (f.cs msf) := by unfold Fd.cs; rw [wf1, wf2, wf3]; exact bf
    have bg : BoxF w1 (a1.tmps.getD 3 undef) (g.cs msg) := by unfold Fd.cs; rw [wg1, wg2, wg3]; exact bg
    have ho1 := hvf.list.2.1
    have ho2 := hvg.list.2.1
    refine wp_block (wp_loop_rounds 17 ?_)
    refine rounds124 hmix hf hg hvf hvg (hm.below hb1) (hm'.below hb1) bf bg ?_ ?_ 16 0 w1 a1 rfl (Below.refl _ _) (fun k hk => by omega) ⟨hf1.1.trans gn, rfl, rfl, by rw [E_i64_inv q5]; rfl, by rw [E_i64_inv q6]; rfl⟩ hd1
    · intro a2 w2 hb2 hd2 hbad h4
      refine ⟨hd2, _, res4 f124_res a2.tmps w2, ?_⟩
      have hJ := (joinM_bad ho1 ho2).2 hbad
      have hag : agB f g = false := by unfold agB; rw [hJ]
      rw [h4, jC0_eq, hag, Bool.and_false]
      exact ⟨rfl, below_tr hb1 hb2⟩
    · intro a2 w2 hb2 hd2 hok hs2 h5
      unfold Exit.inBlock
      simp only [if_true]
      show e124.wp _ _ a2 w2
      refine wp_mono (end124 hmix hs2 h5 hd2) ?_
      rintro e a3 w3 ⟨rfl, hb3, hd3, h4⟩
      refine ⟨hd3, _, res4 f124_res a3.tmps w3, ?_⟩
      have hag : agB f g = decide (cntK (anyK f.l g.l) 16 ≤ 8) := by
        unfold agB
        cases hJ : joinM f.l f.l g.l with
        | none =>
          obtain ⟨k, hk, hb⟩ := (joinM_bad ho1 ho2).1 hJ
          rw [hok k hk] at hb; cases hb
        | some l => rw [← joinM_len ho1 ho2 hJ]
      rw [h4, jC0_eq, hc, hag]
      exact ⟨rfl, below_tr hb1 (below_tr hb2 hb3)⟩
end Go.Proofs.YtilfiadkhohfiaaGreatDoor
