/- Layer 2: joins of finds. -/
import Derived.Test.YtilfiadkhohfiaaGreatDoorP8
/- Layer 2: joins of finds, in runs. -/
set_option linter.unusedVariables false
set_option maxRecDepth 100000
namespace Go.Proofs.YtilfiadkhohfiaaGreatDoor
set_option linter.unusedSimpArgs false
set_option linter.unusedVariables false
open Go Go.RowKit Go.Clo
noncomputable section
def b125 : Code := ((Tryz.prog.funcs[125]?).bind (·.body)).getD .skip
def f125 : Func := (Tryz.prog.funcs[125]?).getD default
def a125 : Code := hdC b125
def pre125 : List Code := [hdC (tlC b125), hdC (tlC (tlC b125))]
def rest125 : Code := tlC (tlC (tlC b125))
def r125 : Code := hdC (hdC rest125)
def e125 : Code := tlC rest125
def body125 : Code := ((some (tlC (hdC rest125))).bind loopOf).getD .skip
def hd125 (o : Nat) (k : Int) (d : Nat → V) : List V := [d 0, d 1, d 2, .ptr 2 0, .ptr 3 0, d 5, .ptr 4 0, .ptr o 0, i64 k, d 9, d 10, d 11, d 12, d 13, d 14, d 15, d 16, d 17, d 18, d 19, d 20, d 21, d 22, d 23, d 24, d 25, d 26, d 27, d 28, d 29, d 30, d 31, d 32, d 33, d 34, d 35, d 36, d 37, d 38, d 39, d 40, d 41, d 42, d 43, d 44, d 45, d 46, d 47, d 48, d 49, d 50, d 51, d 52, d 53, d 54, d 55, d 56, d 57, d 58, d 59, d 60, d 61, d 62, d 63, d 64, d 65, d 66, d 67, d 68, d 69, d 70, d 71, d 72, d 73, d 74, d 75, d 76, d 77, d 78, d 79, d 80, d 81, d 82, d 83, d 84, d 85, d 86, d 87, d 88, d 89, d 90, d 91, d 92, d 93, d 94, d 95, d 96, d 97, d 98, d 99, d 100, d 101, d 102, d 103, d 104, d 105, d 106, d 107, d 108, d 109, d 110, d 111, d 112, d 113, d 114, d 115, d 116, d 117, d 118, d 119, d 120, d 121, d 122, d 123, d 124, d 125, d 126, d 127, d 128, d 129, d 130, d 131, d 132, d 133, d 134, d 135, d 136, d 137]
def tb174b (n0 : Nat) (x y : V) : Tb := fun f => cond (Nat.beq f 174) (some fun _ n => (cond (Nat.beq n n0) x y, none)) none
/-- What lies in a row, and how much of it a slice holds. -/
def rowX (v : V) (s : St) : Option (Nat × List V × Nat) := match v with
  | .nils => some (0, [], 3)
  | .sl r _ len (.open_ _) => (match s.get r with | some (.row c _ sz _ _) => some (len, c, sz) | _ => none)
  | _ => none
def outC (v : V) (s : St) : Option (List V × Nat × Option (Nat × List V × Nat)) := match v with
  | .ptr b _ => (match s.get b with | some (.cells c ty) => some (c, ty, rowX (c.getD 7 .nilp) s) | _ => none)
  | _ => none
abbrev RndB := Option (Ex × Nat × List V × Option (List V × Nat × Option (Nat × List V × Nat)))
def rnd125 (x : Ex) (t : Fr) (s : St) : Ex × Nat × List V × Option (List V × Nat × Option (Nat × List V × Nat)) := (x, t.n, [t.get 3, t.get 4, t.get 6, t.get 7, t.get 8], outC (t.get 7) s)
def stAB (la lb a b : List V) (x : Blk) (o : List V) : St := ((((((( ⟨.nil, 0⟩ : St).alloc (.ro la)).alloc (.ro lb)).alloc (.ro a)).alloc (.ro b)).alloc (.ro [])).alloc x).alloc (.cells o 29)
def stN (la lb a b : List V) (o : List V) : St := (((((( ⟨.nil, 0⟩ : St).alloc (.ro la)).alloc (.ro lb)).alloc (.ro a)).alloc (.ro b)).alloc (.ro [])).alloc (.cells o 29)
def leafB (x : Ex) (o : Nat) (k : Int) (cs : List V) (l : List Mea) : RndB := some (x, 138, [.ptr 2 0, .ptr 3 0, .ptr 4 0, .ptr o 0, i64 k], some (cs, 29, some (l.length, meaC l, 3)))
def bothK (k : Int) (x y : Mea) : Mea := (k, fit .i64 (Int.add (loB x y) (errB x y)), errB x y)
def rndB (ga gb : Bool) (x y : Mea) (ix iy : Bool) (k : Int) (o : Nat) (vs : V → List V) (m : V) (l : List Mea) : RndB :=
  let nxt : Nat → Mea → RndB := fun r z => leafB .normal o (fit .i64 (Int.add k 1)) (vs (.sl r 0 (l.length + 1) (.open_ 0))) (l ++ [z])
  let one : RndB := cond ix (nxt (4 + o) x) (cond iy (nxt (4 + o) y) (leafB .normal o (fit .i64 (Int.add k 1)) (vs m) l))
  cond (!intLt 15 k) (cond ga (cond gb (cond ix (cond iy (cond (!intLt (widB x y) 0 && inR .i64 (widB x y)) (nxt (28 + o) (bothK k x y)) none) one) one) none) none) (leafB (.exit 0) o k (vs m) l)
end
theorem b125_eq : b125 = .seq a125 (seqs pre125 (.seq (.seq r125 (.block 0 (.loop body125))) e125)) := by kernel_rfl
theorem f125_get : Tryz.prog.funcs[125]? = some f125 := by kernel_rfl
theorem f125_body : f125.body = some b125 := by kernel_rfl
theorem f125_res : f125.results = #[.cell 6 29] := by kernel_rfl
theorem f125_tmps : f125.ntmps = 138 := by kernel_rfl
theorem hd125_ok {ρ : Rho} {o : Nat} {k : Int} {d : Nat → V} {tm : Array Value} (hs : tm.size = 138) (h3 : E ρ (.ptr 2 0) (tm.getD 3 undef)) (h4 : E ρ (.ptr 3 0) (tm.getD 4 undef)) (h6 : E ρ (.ptr 4 0) (tm.getD 6 undef)) (h7 : E ρ (.ptr o 0) (tm.getD 7 undef)) (h8 : E ρ (i64 k) (tm.getD 8 undef)) (hd : ∀ i, E ρ (d i) (tm.getD i undef)) :
    FrE ρ (frL (hd125 o k d)) tm := frL_ok (by rw [hs]; rfl) fun i v hi => match i, hi with
  | 0, hi => Option.some.inj hi ▸ hd 0
  | 1, hi => Option.some.inj hi ▸ hd 1
  | 2, hi => Option.some.inj hi ▸ hd 2
  | 3, hi => Option.some.inj hi ▸ h3
  | 4, hi => Option.some.inj hi ▸ h4
  | 5, hi => Option.some.inj hi ▸ hd 5
  | 6, hi => Option.some.inj hi ▸ h6
  | 7, hi => Option.some.inj hi ▸ h7
  | 8, hi => Option.some.inj hi ▸ h8
  | 9, hi => Option.some.inj hi ▸ hd 9
  | 10, hi => Option.some.inj hi ▸ hd 10
  | 11, hi => Option.some.inj hi ▸ hd 11
  | 12, hi => Option.some.inj hi ▸ hd 12
  | 13, hi => Option.some.inj hi ▸ hd 13
  | 14, hi => Option.some.inj hi ▸ hd 14
  | 15, hi => Option.some.inj hi ▸ hd 15
  | 16, hi => Option.some.inj hi ▸ hd 16
  | 17, hi => Option.some.inj hi ▸ hd 17
  | 18, hi => Option.some.inj hi ▸ hd 18
  | 19, hi => Option.some.inj hi ▸ hd 19
  | 20, hi => Option.some.inj hi ▸ hd 20
  | 21, hi => Option.some.inj hi ▸ hd 21
  | 22, hi => Option.some.inj hi ▸ hd 22
  | 23, hi => Option.some.inj hi ▸ hd 23
  | 24, hi => Option.some.inj hi ▸ hd 24
  | 25, hi => Option.some.inj hi ▸ hd 25
  | 26, hi => Option.some.inj hi ▸ hd 26
  | 27, hi => Option.some.inj hi ▸ hd 27
  | 28, hi => Option.some.inj hi ▸ hd 28
  | 29, hi => Option.some.inj hi ▸ hd 29
  | 30, hi => Option.some.inj hi ▸ hd 30
  | 31, hi => Option.some.inj hi ▸ hd 31
  | 32, hi => Option.some.inj hi ▸ hd 32
  | 33, hi => Option.some.inj hi ▸ hd 33
  | 34, hi => Option.some.inj hi ▸ hd 34
  | 35, hi => Option.some.inj hi ▸ hd 35
  | 36, hi => Option.some.inj hi ▸ hd 36
  | 37, hi => Option.some.inj hi ▸ hd 37
  | 38, hi => Option.some.inj hi ▸ hd 38
  | 39, hi => Option.some.inj hi ▸ hd 39
  | 40, hi => Option.some.inj hi ▸ hd 40
  | 41, hi => Option.some.inj hi ▸ hd 41
  | 42, hi => Option.some.inj hi ▸ hd 42
  | 43, hi => Option.some.inj hi ▸ hd 43
  | 44, hi => Option.some.inj hi ▸ hd 44
  | 45, hi => Option.some.inj hi ▸ hd 45
  | 46, hi => Option.some.inj hi ▸ hd 46
  | 47, hi => Option.some.inj hi ▸ hd 47
  | 48, hi => Option.some.inj hi ▸ hd 48
  | 49, hi => Option.some.inj hi ▸ hd 49
  | 50, hi => Option.some.inj hi ▸ hd 50
  | 51, hi => Option.some.inj hi ▸ hd 51
  | 52, hi => Option.some.inj hi ▸ hd 52
  | 53, hi => Option.some.inj hi ▸ hd 53
  | 54, hi => Option.some.inj hi ▸ hd 54
  | 55, hi => Option.some.inj hi ▸ hd 55
  | 56, hi => Option.some.inj hi ▸ hd 56
  | 57, hi => Option.some.inj hi ▸ hd 57
  | 58, hi => Option.some.inj hi ▸ hd 58
  | 59, hi => Option.some.inj hi ▸ hd 59
  | 60, hi => Option.some.inj hi ▸ hd 60
  | 61, hi => Option.some.inj hi ▸ hd 61
  | 62, hi => Option.some.inj hi ▸ hd 62
  | 63, hi => Option.some.inj hi ▸ hd 63
  | 64, hi => Option.some.inj hi ▸ hd 64
  | 65, hi => Option.some.inj hi ▸ hd 65
  | 66, hi => Option.some.inj hi ▸ hd 66
  | 67, hi => Option.some.inj hi ▸ hd 67
  | 68, hi => Option.some.inj hi ▸ hd 68
  | 69, hi => Option.some.inj hi ▸ hd 69
  | 70, hi => Option.some.inj hi ▸ hd 70
  | 71, hi => Option.some.inj hi ▸ hd 71
  | 72, hi => Option.some.inj hi ▸ hd 72
  | 73, hi => Option.some.inj hi ▸ hd 73
  | 74, hi => Option.some.inj hi ▸ hd 74
  | 75, hi => Option.some.inj hi ▸ hd 75
  | 76, hi => Option.some.inj hi ▸ hd 76
  | 77, hi => Option.some.inj hi ▸ hd 77
  | 78, hi => Option.some.inj hi ▸ hd 78
  | 79, hi => Option.some.inj hi ▸ hd 79
  | 80, hi => Option.some.inj hi ▸ hd 80
  | 81, hi => Option.some.inj hi ▸ hd 81
  | 82, hi => Option.some.inj hi ▸ hd 82
  | 83, hi => Option.some.inj hi ▸ hd 83
  | 84, hi => Option.some.inj hi ▸ hd 84
  | 85, hi => Option.some.inj hi ▸ hd 85
  | 86, hi => Option.some.inj hi ▸ hd 86
  | 87, hi => Option.some.inj hi ▸ hd 87
  | 88, hi => Option.some.inj hi ▸ hd 88
  | 89, hi => Option.some.inj hi ▸ hd 89
  | 90, hi => Option.some.inj hi ▸ hd 90
  | 91, hi => Option.some.inj hi ▸ hd 91
  | 92, hi => Option.some.inj hi ▸ hd 92
  | 93, hi => Option.some.inj hi ▸ hd 93
  | 94, hi => Option.some.inj hi ▸ hd 94
  | 95, hi => Option.some.inj hi ▸ hd 95
  | 96, hi => Option.some.inj hi ▸ hd 96
  | 97, hi => Option.some.inj hi ▸ hd 97
  | 98, hi => Option.some.inj hi ▸ hd 98
  | 99, hi => Option.some.inj hi ▸ hd 99
  | 100, hi => Option.some.inj hi ▸ hd 100
  | 101, hi => Option.some.inj hi ▸ hd 101
  | 102, hi => Option.some.inj hi ▸ hd 102
  | 103, hi => Option.some.inj hi ▸ hd 103
  | 104, hi => Option.some.inj hi ▸ hd 104
  | 105, hi => Option.some.inj hi ▸ hd 105
  | 106, hi => Option.some.inj hi ▸ hd 106
  | 107, hi => Option.some.inj hi ▸ hd 107
  | 108, hi => Option.some.inj hi ▸ hd 108
  | 109, hi => Option.some.inj hi ▸ hd 109
  | 110, hi => Option.some.inj hi ▸ hd 110
  | 111, hi => Option.some.inj hi ▸ hd 111
  | 112, hi => Option.some.inj hi ▸ hd 112
  | 113, hi => Option.some.inj hi ▸ hd 113
  | 114, hi => Option.some.inj hi ▸ hd 114
  | 115, hi => Option.some.inj hi ▸ hd 115
  | 116, hi => Option.some.inj hi ▸ hd 116
  | 117, hi => Option.some.inj hi ▸ hd 117
  | 118, hi => Option.some.inj hi ▸ hd 118
  | 119, hi => Option.some.inj hi ▸ hd 119
  | 120, hi => Option.some.inj hi ▸ hd 120
  | 121, hi => Option.some.inj hi ▸ hd 121
  | 122, hi => Option.some.inj hi ▸ hd 122
  | 123, hi => Option.some.inj hi ▸ hd 123
  | 124, hi => Option.some.inj hi ▸ hd 124
  | 125, hi => Option.some.inj hi ▸ hd 125
  | 126, hi => Option.some.inj hi ▸ hd 126
  | 127, hi => Option.some.inj hi ▸ hd 127
  | 128, hi => Option.some.inj hi ▸ hd 128
  | 129, hi => Option.some.inj hi ▸ hd 129
  | 130, hi => Option.some.inj hi ▸ hd 130
  | 131, hi => Option.some.inj hi ▸ hd 131
  | 132, hi => Option.some.inj hi ▸ hd 132
  | 133, hi => Option.some.inj hi ▸ hd 133
  | 134, hi => Option.some.inj hi ▸ hd 134
  | 135, hi => Option.some.inj hi ▸ hd 135
  | 136, hi => Option.some.inj hi ▸ hd 136
  | 137, hi => Option.some.inj hi ▸ hd 137
  | n + 138, hi => nomatch (show none = some v from hi)
section
variable (W0 : World) (c c' : List V) (k : Int) (ma mb : V) (no el sd : Int) (a b d e : Nat) (lo hi sex wear layer square : Int) (no' el' sd' : Int) (a' b' d' e' : Nat) (lo' hi' sex' wear' layer' square' : Int) (no2 el2 sd2 : Int) (a2 b2 d2 e2 : Nat) (lo2 hi2 sex2 wear2 layer2 square2 : Int) (x y : Mea) (ix iy : Bool) (dd : Nat → V)
theorem bk_0 : codeG Tryz.prog (semN Tryz.prog W0 vf174 (tb174b 6 (kindT x ix) (kindT y iy))) 60 body125 (frL (hd125 5 k dd)) (stN c c' (finL no el sd a b d e ma lo hi sex wear layer square) (finL no' el' sd' a' b' d' e' mb lo' hi' sex' wear' layer' square') ((fun m => finL no2 el2 sd2 a2 b2 d2 e2 m lo2 hi2 sex2 wear2 layer2 square2) .nils)) rnd125 = rndB (goodN Tryz.prog W0 vf174 174 [.agg (finL no el sd a b d e ma lo hi sex wear layer square), i64 k] [some (.ro c), some (.ro c')] 0 (kindT x ix) none) (goodN Tryz.prog W0 vf174 174 [.agg (finL no' el' sd' a' b' d' e' mb lo' hi' sex' wear' layer' square'), i64 k] [some (.ro c), some (.ro c')] 0 (kindT y iy) none) x y ix iy k 5 (fun m => finL no2 el2 sd2 a2 b2 d2 e2 m lo2 hi2 sex2 wear2 layer2 square2) .nils [] := by kernel_rfl
theorem bkA_0 : codeA Tryz.prog (semN Tryz.prog W0 vf174 (tb174b 6 (kindT x ix) (kindT y iy))) 60 body125 (frL (hd125 5 k dd)) (stN c c' (finL no el sd a b d e ma lo hi sex wear layer square) (finL no' el' sd' a' b' d' e' mb lo' hi' sex' wear' layer' square') ((fun m => finL no2 el2 sd2 a2 b2 d2 e2 m lo2 hi2 sex2 wear2 layer2 square2) .nils)) false = codeA Tryz.prog (semN Tryz.prog W0 vf174 (tb174b 6 (kindT x ix) (kindT y iy))) 60 body125 (frL (hd125 5 k dd)) (stN c c' (finL no el sd a b d e ma lo hi sex wear layer square) (finL no' el' sd' a' b' d' e' mb lo' hi' sex' wear' layer' square') ((fun m => finL no2 el2 sd2 a2 b2 d2 e2 m lo2 hi2 sex2 wear2 layer2 square2) .nils)) true := by kernel_rfl
theorem bk_1 (m1 : Mea) : codeG Tryz.prog (semN Tryz.prog W0 vf174 (tb174b 7 (kindT x ix) (kindT y iy))) 60 body125 (frL (hd125 6 k dd)) (stAB c c' (finL no el sd a b d e ma lo hi sex wear layer square) (finL no' el' sd' a' b' d' e' mb lo' hi' sex' wear' layer' square') (.row (meaC [m1]) 98 3 false []) ((fun m => finL no2 el2 sd2 a2 b2 d2 e2 m lo2 hi2 sex2 wear2 layer2 square2) (.sl 5 0 1 (.open_ 0)))) rnd125 = rndB (goodN Tryz.prog W0 vf174 174 [.agg (finL no el sd a b d e ma lo hi sex wear layer square), i64 k] [some (.ro c), some (.ro c')] 0 (kindT x ix) none) (goodN Tryz.prog W0 vf174 174 [.agg (finL no' el' sd' a' b' d' e' mb lo' hi' sex' wear' layer' square'), i64 k] [some (.ro c), some (.ro c')] 0 (kindT y iy) none) x y ix iy k 6 (fun m => finL no2 el2 sd2 a2 b2 d2 e2 m lo2 hi2 sex2 wear2 layer2 square2) (.sl 5 0 1 (.open_ 0)) [m1] := by kernel_rfl
theorem bkA_1 (m1 : Mea) : codeA Tryz.prog (semN Tryz.prog W0 vf174 (tb174b 7 (kindT x ix) (kindT y iy))) 60 body125 (frL (hd125 6 k dd)) (stAB c c' (finL no el sd a b d e ma lo hi sex wear layer square) (finL no' el' sd' a' b' d' e' mb lo' hi' sex' wear' layer' square') (.row (meaC [m1]) 98 3 false []) ((fun m => finL no2 el2 sd2 a2 b2 d2 e2 m lo2 hi2 sex2 wear2 layer2 square2) (.sl 5 0 1 (.open_ 0)))) false = codeA Tryz.prog (semN Tryz.prog W0 vf174 (tb174b 7 (kindT x ix) (kindT y iy))) 60 body125 (frL (hd125 6 k dd)) (stAB c c' (finL no el sd a b d e ma lo hi sex wear layer square) (finL no' el' sd' a' b' d' e' mb lo' hi' sex' wear' layer' square') (.row (meaC [m1]) 98 3 false []) ((fun m => finL no2 el2 sd2 a2 b2 d2 e2 m lo2 hi2 sex2 wear2 layer2 square2) (.sl 5 0 1 (.open_ 0)))) true := by kernel_rfl
theorem bk_2 (m1 m2 : Mea) : codeG Tryz.prog (semN Tryz.prog W0 vf174 (tb174b 7 (kindT x ix) (kindT y iy))) 60 body125 (frL (hd125 6 k dd)) (stAB c c' (finL no el sd a b d e ma lo hi sex wear layer square) (finL no' el' sd' a' b' d' e' mb lo' hi' sex' wear' layer' square') (.row (meaC [m1, m2]) 98 3 false []) ((fun m => finL no2 el2 sd2 a2 b2 d2 e2 m lo2 hi2 sex2 wear2 layer2 square2) (.sl 5 0 2 (.open_ 0)))) rnd125 = rndB (goodN Tryz.prog W0 vf174 174 [.agg (finL no el sd a b d e ma lo hi sex wear layer square), i64 k] [some (.ro c), some (.ro c')] 0 (kindT x ix) none) (goodN Tryz.prog W0 vf174 174 [.agg (finL no' el' sd' a' b' d' e' mb lo' hi' sex' wear' layer' square'), i64 k] [some (.ro c), some (.ro c')] 0 (kindT y iy) none) x y ix iy k 6 (fun m => finL no2 el2 sd2 a2 b2 d2 e2 m lo2 hi2 sex2 wear2 layer2 square2) (.sl 5 0 2 (.open_ 0)) [m1, m2] := by kernel_rfl
theorem bkA_2 (m1 m2 : Mea) : codeA Tryz.prog (semN Tryz.prog W0 vf174 (tb174b 7 (kindT x ix) (kindT y iy))) 60 body125 (frL (hd125 6 k dd)) (stAB c c' (finL no el sd a b d e ma lo hi sex wear layer square) (finL no' el' sd' a' b' d' e' mb lo' hi' sex' wear' layer' square') (.row (meaC [m1, m2]) 98 3 false []) ((fun m => finL no2 el2 sd2 a2 b2 d2 e2 m lo2 hi2 sex2 wear2 layer2 square2) (.sl 5 0 2 (.open_ 0)))) false = codeA Tryz.prog (semN Tryz.prog W0 vf174 (tb174b 7 (kindT x ix) (kindT y iy))) 60 body125 (frL (hd125 6 k dd)) (stAB c c' (finL no el sd a b d e ma lo hi sex wear layer square) (finL no' el' sd' a' b' d' e' mb lo' hi' sex' wear' layer' square') (.row (meaC [m1, m2]) 98 3 false []) ((fun m => finL no2 el2 sd2 a2 b2 d2 e2 m lo2 hi2 sex2 wear2 layer2 square2) (.sl 5 0 2 (.open_ 0)))) true := by kernel_rfl
theorem bk_3 (m1 m2 m3 : Mea) : codeG Tryz.prog (semN Tryz.prog W0 vf174 (tb174b 7 (kindT x ix) (kindT y iy))) 60 body125 (frL (hd125 6 k dd)) (stAB c c' (finL no el sd a b d e ma lo hi sex wear layer square) (finL no' el' sd' a' b' d' e' mb lo' hi' sex' wear' layer' square') (.row (meaC [m1, m2, m3]) 98 3 false []) ((fun m => finL no2 el2 sd2 a2 b2 d2 e2 m lo2 hi2 sex2 wear2 layer2 square2) (.sl 5 0 3 (.open_ 0)))) rnd125 = rndB (goodN Tryz.prog W0 vf174 174 [.agg (finL no el sd a b d e ma lo hi sex wear layer square), i64 k] [some (.ro c), some (.ro c')] 0 (kindT x ix) none) (goodN Tryz.prog W0 vf174 174 [.agg (finL no' el' sd' a' b' d' e' mb lo' hi' sex' wear' layer' square'), i64 k] [some (.ro c), some (.ro c')] 0 (kindT y iy) none) x y ix iy k 6 (fun m => finL no2 el2 sd2 a2 b2 d2 e2 m lo2 hi2 sex2 wear2 layer2 square2) (.sl 5 0 3 (.open_ 0)) [m1, m2, m3] := by kernel_rfl
theorem bkA_3 (m1 m2 m3 : Mea) : codeA Tryz.prog (semN Tryz.prog W0 vf174 (tb174b 7 (kindT x ix) (kindT y iy))) 60 body125 (frL (hd125 6 k dd)) (stAB c c' (finL no el sd a b d e ma lo hi sex wear layer square) (finL no' el' sd' a' b' d' e' mb lo' hi' sex' wear' layer' square') (.row (meaC [m1, m2, m3]) 98 3 false []) ((fun m => finL no2 el2 sd2 a2 b2 d2 e2 m lo2 hi2 sex2 wear2 layer2 square2) (.sl 5 0 3 (.open_ 0)))) false = codeA Tryz.prog (semN Tryz.prog W0 vf174 (tb174b 7 (kindT x ix) (kindT y iy))) 60 body125 (frL (hd125 6 k dd)) (stAB c c' (finL no el sd a b d e ma lo hi sex wear layer square) (finL no' el' sd' a' b' d' e' mb lo' hi' sex' wear' layer' square') (.row (meaC [m1, m2, m3]) 98 3 false []) ((fun m => finL no2 el2 sd2 a2 b2 d2 e2 m lo2 hi2 sex2 wear2 layer2 square2) (.sl 5 0 3 (.open_ 0)))) true := by kernel_rfl
theorem bk_4 (m1 m2 m3 m4 : Mea) : codeG Tryz.prog (semN Tryz.prog W0 vf174 (tb174b 7 (kindT x ix) (kindT y iy))) 60 body125 (frL (hd125 6 k dd)) (stAB c c' (finL no el sd a b d e ma lo hi sex wear layer square) (finL no' el' sd' a' b' d' e' mb lo' hi' sex' wear' layer' square') (.row (meaC [m1, m2, m3, m4]) 98 3 false []) ((fun m => finL no2 el2 sd2 a2 b2 d2 e2 m lo2 hi2 sex2 wear2 layer2 square2) (.sl 5 0 4 (.open_ 0)))) rnd125 = rndB (goodN Tryz.prog W0 vf174 174 [.agg (finL no el sd a b d e ma lo hi sex wear layer square), i64 k] [some (.ro c), some (.ro c')] 0 (kindT x ix) none) (goodN Tryz.prog W0 vf174 174 [.agg (finL no' el' sd' a' b' d' e' mb lo' hi' sex' wear' layer' square'), i64 k] [some (.ro c), some (.ro c')] 0 (kindT y iy) none) x y ix iy k 6 (fun m => finL no2 el2 sd2 a2 b2 d2 e2 m lo2 hi2 sex2 wear2 layer2 square2) (.sl 5 0 4 (.open_ 0)) [m1, m2, m3, m4] := by kernel_rfl
theorem bkA_4 (m1 m2 m3 m4 : Mea) : codeA Tryz.prog (semN Tryz.prog W0 vf174 (tb174b 7 (kindT x ix) (kindT y iy))) 60 body125 (frL (hd125 6 k dd)) (stAB c c' (finL no el sd a b d e ma lo hi sex wear layer square) (finL no' el' sd' a' b' d' e' mb lo' hi' sex' wear' layer' square') (.row (meaC [m1, m2, m3, m4]) 98 3 false []) ((fun m => finL no2 el2 sd2 a2 b2 d2 e2 m lo2 hi2 sex2 wear2 layer2 square2) (.sl 5 0 4 (.open_ 0)))) false = codeA Tryz.prog (semN Tryz.prog W0 vf174 (tb174b 7 (kindT x ix) (kindT y iy))) 60 body125 (frL (hd125 6 k dd)) (stAB c c' (finL no el sd a b d e ma lo hi sex wear layer square) (finL no' el' sd' a' b' d' e' mb lo' hi' sex' wear' layer' square') (.row (meaC [m1, m2, m3, m4]) 98 3 false []) ((fun m => finL no2 el2 sd2 a2 b2 d2 e2 m lo2 hi2 sex2 wear2 layer2 square2) (.sl 5 0 4 (.open_ 0)))) true := by kernel_rfl
theorem bk_5 (m1 m2 m3 m4 m5 : Mea) : codeG Tryz.prog (semN Tryz.prog W0 vf174 (tb174b 7 (kindT x ix) (kindT y iy))) 60 body125 (frL (hd125 6 k dd)) (stAB c c' (finL no el sd a b d e ma lo hi sex wear layer square) (finL no' el' sd' a' b' d' e' mb lo' hi' sex' wear' layer' square') (.row (meaC [m1, m2, m3, m4, m5]) 98 3 false []) ((fun m => finL no2 el2 sd2 a2 b2 d2 e2 m lo2 hi2 sex2 wear2 layer2 square2) (.sl 5 0 5 (.open_ 0)))) rnd125 = rndB (goodN Tryz.prog W0 vf174 174 [.agg (finL no el sd a b d e ma lo hi sex wear layer square), i64 k] [some (.ro c), some (.ro c')] 0 (kindT x ix) none) (goodN Tryz.prog W0 vf174 174 [.agg (finL no' el' sd' a' b' d' e' mb lo' hi' sex' wear' layer' square'), i64 k] [some (.ro c), some (.ro c')] 0 (kindT y iy) none) x y ix iy k 6 (fun m => finL no2 el2 sd2 a2 b2 d2 e2 m lo2 hi2 sex2 wear2 layer2 square2) (.sl 5 0 5 (.open_ 0)) [m1, m2, m3, m4, m5] := by kernel_rfl
theorem bkA_5 (m1 m2 m3 m4 m5 : Mea) : codeA Tryz.prog (semN Tryz.prog W0 vf174 (tb174b 7 (kindT x ix) (kindT y iy))) 60 body125 (frL (hd125 6 k dd)) (stAB c c' (finL no el sd a b d e ma lo hi sex wear layer square) (finL no' el' sd' a' b' d' e' mb lo' hi' sex' wear' layer' square') (.row (meaC [m1, m2, m3, m4, m5]) 98 3 false []) ((fun m => finL no2 el2 sd2 a2 b2 d2 e2 m lo2 hi2 sex2 wear2 layer2 square2) (.sl 5 0 5 (.open_ 0)))) false = codeA Tryz.prog (semN Tryz.prog W0 vf174 (tb174b 7 (kindT x ix) (kindT y iy))) 60 body125 (frL (hd125 6 k dd)) (stAB c c' (finL no el sd a b d e ma lo hi sex wear layer square) (finL no' el' sd' a' b' d' e' mb lo' hi' sex' wear' layer' square') (.row (meaC [m1, m2, m3, m4, m5]) 98 3 false []) ((fun m => finL no2 el2 sd2 a2 b2 d2 e2 m lo2 hi2 sex2 wear2 layer2 square2) (.sl 5 0 5 (.open_ 0)))) true := by kernel_rfl
theorem bk_6 (m1 m2 m3 m4 m5 m6 : Mea) : codeG Tryz.prog (semN Tryz.prog W0 vf174 (tb174b 7 (kindT x ix) (kindT y iy))) 60 body125 (frL (hd125 6 k dd)) (stAB c c' (finL no el sd a b d e ma lo hi sex wear layer square) (finL no' el' sd' a' b' d' e' mb lo' hi' sex' wear' layer' square') (.row (meaC [m1, m2, m3, m4, m5, m6]) 98 3 false []) ((fun m => finL no2 el2 sd2 a2 b2 d2 e2 m lo2 hi2 sex2 wear2 layer2 square2) (.sl 5 0 6 (.open_ 0)))) rnd125 = rndB (goodN Tryz.prog W0 vf174 174 [.agg (finL no el sd a b d e ma lo hi sex wear layer square), i64 k] [some (.ro c), some (.ro c')] 0 (kindT x ix) none) (goodN Tryz.prog W0 vf174 174 [.agg (finL no' el' sd' a' b' d' e' mb lo' hi' sex' wear' layer' square'), i64 k] [some (.ro c), some (.ro c')] 0 (kindT y iy) none) x y ix iy k 6 (fun m => finL no2 el2 sd2 a2 b2 d2 e2 m lo2 hi2 sex2 wear2 layer2 square2) (.sl 5 0 6 (.open_ 0)) [m1, m2, m3, m4, m5, m6] := by kernel_rfl
theorem bkA_6 (m1 m2 m3 m4 m5 m6 : Mea) : codeA Tryz.prog (semN Tryz.prog W0 vf174 (tb174b 7 (kindT x ix) (kindT y iy))) 60 body125 (frL (hd125 6 k dd)) (stAB c c' (finL no el sd a b d e ma lo hi sex wear layer square) (finL no' el' sd' a' b' d' e' mb lo' hi' sex' wear' layer' square') (.row (meaC [m1, m2, m3, m4, m5, m6]) 98 3 false []) ((fun m => finL no2 el2 sd2 a2 b2 d2 e2 m lo2 hi2 sex2 wear2 layer2 square2) (.sl 5 0 6 (.open_ 0)))) false = codeA Tryz.prog (semN Tryz.prog W0 vf174 (tb174b 7 (kindT x ix) (kindT y iy))) 60 body125 (frL (hd125 6 k dd)) (stAB c c' (finL no el sd a b d e ma lo hi sex wear layer square) (finL no' el' sd' a' b' d' e' mb lo' hi' sex' wear' layer' square') (.row (meaC [m1, m2, m3, m4, m5, m6]) 98 3 false []) ((fun m => finL no2 el2 sd2 a2 b2 d2 e2 m lo2 hi2 sex2 wear2 layer2 square2) (.sl 5 0 6 (.open_ 0)))) true := by kernel_rfl
theorem bk_7 (m1 m2 m3 m4 m5 m6 m7 : Mea) : codeG Tryz.prog (semN Tryz.prog W0 vf174 (tb174b 7 (kindT x ix) (kindT y iy))) 60 body125 (frL (hd125 6 k dd)) (stAB c c' (finL no el sd a b d e ma lo hi sex wear layer square) (finL no' el' sd' a' b' d' e' mb lo' hi' sex' wear' layer' square') (.row (meaC [m1, m2, m3, m4, m5, m6, m7]) 98 3 false []) ((fun m => finL no2 el2 sd2 a2 b2 d2 e2 m lo2 hi2 sex2 wear2 layer2 square2) (.sl 5 0 7 (.open_ 0)))) rnd125 = rndB (goodN Tryz.prog W0 vf174 174 [.agg (finL no el sd a b d e ma lo hi sex wear layer square), i64 k] [some (.ro c), some (.ro c')] 0 (kindT x ix) none) (goodN Tryz.prog W0 vf174 174 [.agg (finL no' el' sd' a' b' d' e' mb lo' hi' sex' wear' layer' square'), i64 k] [some (.ro c), some (.ro c')] 0 (kindT y iy) none) x y ix iy k 6 (fun m => finL no2 el2 sd2 a2 b2 d2 e2 m lo2 hi2 sex2 wear2 layer2 square2) (.sl 5 0 7 (.open_ 0)) [m1, m2, m3, m4, m5, m6, m7] := by kernel_rfl
theorem bkA_7 (m1 m2 m3 m4 m5 m6 m7 : Mea) : codeA Tryz.prog (semN Tryz.prog W0 vf174 (tb174b 7 (kindT x ix) (kindT y iy))) 60 body125 (frL (hd125 6 k dd)) (stAB c c' (finL no el sd a b d e ma lo hi sex wear layer square) (finL no' el' sd' a' b' d' e' mb lo' hi' sex' wear' layer' square') (.row (meaC [m1, m2, m3, m4, m5, m6, m7]) 98 3 false []) ((fun m => finL no2 el2 sd2 a2 b2 d2 e2 m lo2 hi2 sex2 wear2 layer2 square2) (.sl 5 0 7 (.open_ 0)))) false = codeA Tryz.prog (semN Tryz.prog W0 vf174 (tb174b 7 (kindT x ix) (kindT y iy))) 60 body125 (frL (hd125 6 k dd)) (stAB c c' (finL no el sd a b d e ma lo hi sex wear layer square) (finL no' el' sd' a' b' d' e' mb lo' hi' sex' wear' layer' square') (.row (meaC [m1, m2, m3, m4, m5, m6, m7]) 98 3 false []) ((fun m => finL no2 el2 sd2 a2 b2 d2 e2 m lo2 hi2 sex2 wear2 layer2 square2) (.sl 5 0 7 (.open_ 0)))) true := by kernel_rfl
theorem bk_8 (m1 m2 m3 m4 m5 m6 m7 m8 : Mea) : codeG Tryz.prog (semN Tryz.prog W0 vf174 (tb174b 7 (kindT x ix) (kindT y iy))) 60 body125 (frL (hd125 6 k dd)) (stAB c c' (finL no el sd a b d e ma lo hi sex wear layer square) (finL no' el' sd' a' b' d' e' mb lo' hi' sex' wear' layer' square') (.row (meaC [m1, m2, m3, m4, m5, m6, m7, m8]) 98 3 false []) ((fun m => finL no2 el2 sd2 a2 b2 d2 e2 m lo2 hi2 sex2 wear2 layer2 square2) (.sl 5 0 8 (.open_ 0)))) rnd125 = rndB (goodN Tryz.prog W0 vf174 174 [.agg (finL no el sd a b d e ma lo hi sex wear layer square), i64 k] [some (.ro c), some (.ro c')] 0 (kindT x ix) none) (goodN Tryz.prog W0 vf174 174 [.agg (finL no' el' sd' a' b' d' e' mb lo' hi' sex' wear' layer' square'), i64 k] [some (.ro c), some (.ro c')] 0 (kindT y iy) none) x y ix iy k 6 (fun m => finL no2 el2 sd2 a2 b2 d2 e2 m lo2 hi2 sex2 wear2 layer2 square2) (.sl 5 0 8 (.open_ 0)) [m1, m2, m3, m4, m5, m6, m7, m8] := by kernel_rfl
theorem bkA_8 (m1 m2 m3 m4 m5 m6 m7 m8 : Mea) : codeA Tryz.prog (semN Tryz.prog W0 vf174 (tb174b 7 (kindT x ix) (kindT y iy))) 60 body125 (frL (hd125 6 k dd)) (stAB c c' (finL no el sd a b d e ma lo hi sex wear layer square) (finL no' el' sd' a' b' d' e' mb lo' hi' sex' wear' layer' square') (.row (meaC [m1, m2, m3, m4, m5, m6, m7, m8]) 98 3 false []) ((fun m => finL no2 el2 sd2 a2 b2 d2 e2 m lo2 hi2 sex2 wear2 layer2 square2) (.sl 5 0 8 (.open_ 0)))) false = codeA Tryz.prog (semN Tryz.prog W0 vf174 (tb174b 7 (kindT x ix) (kindT y iy))) 60 body125 (frL (hd125 6 k dd)) (stAB c c' (finL no el sd a b d e ma lo hi sex wear layer square) (finL no' el' sd' a' b' d' e' mb lo' hi' sex' wear' layer' square') (.row (meaC [m1, m2, m3, m4, m5, m6, m7, m8]) 98 3 false []) ((fun m => finL no2 el2 sd2 a2 b2 d2 e2 m lo2 hi2 sex2 wear2 layer2 square2) (.sl 5 0 8 (.open_ 0)))) true := by kernel_rfl
end
end Go.Proofs.YtilfiadkhohfiaaGreatDoor
/- Layer 2: joins of finds, in runs. -/
set_option linter.unusedVariables false
set_option maxRecDepth 100000
namespace Go.Proofs.YtilfiadkhohfiaaGreatDoor
set_option linter.unusedSimpArgs false
set_option linter.unusedVariables false
open Go Go.RowKit Go.Clo
variable {W0 : World}

/-- A block that lies apart from all that is known. -/
theorem rel_addAp {ρ : Rho} {s : St} {w : World} (h : Rel W0 ρ s w) {l : Go.Clo.Loc} {x : Blk} (hal : x.alive) (hl : W0.heap.size ≤ l.blk) (hlt : l.blk < w.heap.size) (hap : ¬ Img ρ s l.blk) (hx : BOK (ρ.upd s.size l) w l x) :
    Rel W0 (ρ.upd s.size l) (s.alloc x) w := by
  have hn : ρ s.size = none := h.fresh _ (Nat.le_refl _)
  have hg : s.get s.size = none := by
    cases hg : s.get s.size with
    | none => rfl
    | some y => have := (h.blk _ _ hg).1; omega
  have h1 := h.place (id := s.size) (n := s.size + 1) l hn hg (by omega) (by omega)
  refine h1.add (id := s.size) (l := l) (x := x) (by show s.size < s.size + 1; omega) hg (Rho.upd_same _ _ _) (Side.of hal hl) hlt ?_ hx
  rintro ⟨b, y, m, hb', ha, hm, hr⟩
  have hb' : s.get b = some y := hb'
  obtain ⟨h0, _⟩ := h.blk b y hb'
  rw [Rho.upd_other _ _ (by omega)] at hm
  exact hap ⟨b, y, m, hb', ha, hm, hr⟩
theorem BoxF.add' {W w : World} {ρ : Rho} {s : St} (hR : Rel W ρ s w) {p : Value} {cs : List Value} {vs : List V} (h : BoxF W p cs) (hE : EL ρ vs cs) : ∃ ρ', ρ.le ρ' ∧ Rel W ρ' (s.alloc (.ro vs)) w ∧ E ρ' (.ptr s.size 0) p := by
  obtain ⟨blk, rfl, h1, h2⟩ := h
  have hn : ρ s.size = none := hR.fresh _ (Nat.le_refl _)
  refine ⟨_, Rho.le_upd ⟨blk, 0, 0⟩ hn, hR.addRo (l := ⟨blk, 0, 0⟩) h1 fun i v hv => ?_, by simp only [E]; exact ⟨⟨blk, 0, 0⟩, Rho.upd_same _ _ _, rfl⟩⟩
  obtain ⟨u, hu, he⟩ := hE.at hv
  exact ⟨u, by rw [Nat.zero_add, World.cell?_of_block (hR.below.block blk h1)]; exact h2 i u hu, he⟩
/-- A find that is being made, and its row. -/
def OutAt (N : Nat) (w : World) (po : Value) (q : Fd) (l : List Mea) : Prop :=
  ∃ blk ms, po = .pointer (some ⟨blk, 0, none⟩) ∧ N ≤ blk ∧ w.heap[blk]? = some (.cells (q.cs ms).toArray 29 (0, 0)) ∧
    ((l = [] ∧ ms = .slice none 0 0) ∨ (l ≠ [] ∧ NewAt N w ms l ∧ ∀ p n k, ms = .slice (some p) n k → p.block ≠ blk))
theorem get_lt {w : World} {b : Nat} {x : Obj} (h : w.heap[b]? = some x) : b < w.heap.size := by
  by_cases hh : b < w.heap.size
  · exact hh
  · rw [Array.getElem?_eq_none (by omega)] at h; cases h
theorem OutAt.add0 {ρ : Rho} {s : St} {w : World} {po : Value} {q : Fd} {N : Nat} (h : OutAt N w po q []) (hN0 : W0.heap.size ≤ N) (hR : Rel W0 ρ s w) (hno : ∀ r, N ≤ r → ¬ Img ρ s r) :
    ∃ ρ', ρ.le ρ' ∧ Rel W0 ρ' (s.alloc (.cells (q.vs .nils) 29)) w ∧ E ρ' (.ptr s.size 0) po := by
  obtain ⟨blk, ms, rfl, hN, hh, ⟨_, rfl⟩ | ⟨hne, _⟩⟩ := h
  · refine ⟨_, Rho.le_upd ⟨blk, 0, 0⟩ (hR.fresh _ (Nat.le_refl _)), rel_addAp hR (l := ⟨blk, 0, 0⟩) (x := .cells (q.vs .nils) 29) trivial (Nat.le_trans hN0 hN) (get_lt hh) (hno _ hN) ⟨rfl, _, hh, EL_fin (by simp only [E])⟩, ?_⟩
    simp only [E]
    exact ⟨_, Rho.upd_same _ _ _, rfl⟩
  · exact absurd rfl hne
theorem OutAt.add1 {ρ : Rho} {s : St} {w : World} {po : Value} {q : Fd} {l : List Mea} {N : Nat} (h : OutAt N w po q l) (hl : l ≠ []) (hN0 : W0.heap.size ≤ N) (hR : Rel W0 ρ s w) (hno : ∀ r, N ≤ r → ¬ Img ρ s r) :
    ∃ ρ', ρ.le ρ' ∧ Rel W0 ρ' ((s.alloc (.row (meaC l) 98 3 false [])).alloc (.cells (q.vs (.sl s.size 0 l.length (.open_ 0))) 29)) w ∧ E ρ' (.ptr (s.size + 1) 0) po := by
  obtain ⟨blk, ms, rfl, hN, hh, ⟨h0, _⟩ | ⟨_, hnew, hap⟩⟩ := h
  · exact absurd h0 hl
  · obtain ⟨rb, off, cap, xs, ty, rfl, hrN, hrh, hrc, hr1, hr2⟩ := hnew
    have hne := hap _ _ _ rfl
    have hle : Rho.le (fun _ => none) (ρ.upd s.size ⟨rb, off, cap⟩) := fun b l hb => by cases hb
    have hR1 := rel_addAp hR (l := ⟨rb, off, cap⟩) (x := .row (meaC l) 98 3 false []) trivial (Nat.le_trans hN0 hrN) (get_lt hrh) (hno _ hrN) ⟨xs, ty, hrh, fun i v hv => (hrc i v hv).imp fun u hu => ⟨hu.1, E.mono hle _ hu.2⟩, hr1, hr2⟩
    have le1 := Rho.le_upd (ρ := ρ) ⟨rb, off, cap⟩ (hR.fresh _ (Nat.le_refl _))
    have le2 := Rho.le_upd (ρ := ρ.upd s.size ⟨rb, off, cap⟩) ⟨blk, 0, 0⟩ (hR1.fresh _ (Nat.le_refl _))
    have hno1 : ¬ Img (ρ.upd s.size ⟨rb, off, cap⟩) (s.alloc (.row (meaC l) 98 3 false [])) blk := by
      rintro ⟨b, y, m, hb, ha, hm, hr⟩
      rw [St.get_alloc] at hb
      by_cases e : b = s.size
      · subst e
        rw [Rho.upd_same] at hm; injection hm with hm; subst hm
        exact hne hr
      · rw [if_neg e] at hb
        rw [Rho.upd_other _ _ e] at hm
        exact hno blk hN ⟨b, y, m, hb, ha, hm, hr⟩
    have em : E ((ρ.upd s.size ⟨rb, off, cap⟩).upd (s.alloc (.row (meaC l) 98 3 false [])).size ⟨blk, 0, 0⟩) (.sl s.size 0 l.length (.open_ 0)) (.slice (some ⟨rb, off, none⟩) l.length cap) := by
      refine E.mono le2 _ ?_
      simp only [E]
      exact ⟨_, Rho.upd_same _ _ _, by simp⟩
    refine ⟨_, Rho.le_trans le1 le2, rel_addAp hR1 (l := ⟨blk, 0, 0⟩) (x := .cells (q.vs (.sl s.size 0 l.length (.open_ 0))) 29) trivial (Nat.le_trans hN0 hN) (get_lt hh) hno1 ⟨rfl, _, hh, EL_fin em⟩, ?_⟩
    simp only [E]
    exact ⟨_, Rho.upd_same _ _ _, rfl⟩
theorem OutAt.of {ρ : Rho} {s : St} {w : World} {po : Value} {q : Fd} {l : List Mea} {o : Nat} {m : V} (hR : Rel W0 ρ s w) (he : E ρ (.ptr o 0) po) (h : outC (.ptr o 0) s = some (q.vs m, 29, some (l.length, meaC l, 3)))
    (hm : (m = .nils ∧ l = []) ∨ ∃ r, m = .sl r 0 l.length (.open_ 0) ∧ l ≠ []) : OutAt W0.heap.size w po q l := by
  unfold outC at h
  simp only at h
  split at h
  · rename_i c ty hb
    simp only [Option.some.injEq, Prod.mk.injEq] at h
    obtain ⟨rfl, rfl, hx⟩ := h
    have hx : rowX m s = some (l.length, meaC l, 3) := hx
    obtain ⟨_, lo, hlo, hside, hlt, h0, us, e1, e2⟩ := hR.blk o _ hb
    obtain ⟨ms, rfl, em⟩ := EL_fin_inv e2
    simp only [E] at he
    obtain ⟨lo', hlo', rfl⟩ := he
    rw [hlo] at hlo'; injection hlo' with hlo'; subst hlo'
    refine ⟨lo.blk, ms, by rw [h0], hside, e1, ?_⟩
    rcases hm with ⟨rfl, rfl⟩ | ⟨r, rfl, hl⟩
    · exact .inl ⟨rfl, by simpa only [E] using em⟩
    · unfold rowX at hx
      simp only at hx
      split at hx
      · rename_i c ty sz nx an hr
        simp only [Option.some.injEq, Prod.mk.injEq, true_and] at hx
        obtain ⟨rfl, rfl⟩ := hx
        refine .inr ⟨hl, row_new hR hl em (rowOf_row hr), ?_⟩
        intro p n k hp
        simp only [E] at em
        obtain ⟨lr, hlr, rfl⟩ := em
        simp only [Value.slice.injEq, Option.some.injEq] at hp
        obtain ⟨rfl, _⟩ := hp
        intro hbb
        have hne : o ≠ r := fun e => by subst e; rw [hb] at hr; cases hr
        rcases hR.dis o r _ _ lo lr hb hr trivial trivial hlo hlr hne hbb.symm with hu | hu
        · exact hu
        · exact hu
      · cases hx
  · cases h
end Go.Proofs.YtilfiadkhohfiaaGreatDoor
/- Layer 2: joins of finds, in runs. -/
set_option linter.unusedVariables false
set_option maxRecDepth 100000
namespace Go.Proofs.YtilfiadkhohfiaaGreatDoor
set_option linter.unusedSimpArgs false
set_option linter.unusedVariables false
open Go Go.RowKit Go.Clo
variable {W : World}

structure Head125 (tm : Array Value) (pa pb p6 po : Value) (j : Nat) : Prop where
  size : tm.size = 138
  h3 : tm.getD 3 undef = pa
  h4 : tm.getD 4 undef = pb
  h6 : tm.getD 6 undef = p6
  h7 : tm.getD 7 undef = po
  h8 : tm.getD 8 undef = .int .i64 (j : Int)
theorem rndB_eq {f g : Fd} (hvf : f.Valid) (hvg : g.Valid) {j : Nat} (hj : j < 16) (hok : badM f.l g.l (j : Int) = false) (o : Nat) (vs : V → List V) (m : V) (l : List Mea) :
    (oneM f.l g.l (j : Int) = none ∧ rndB true true (kindM (getM f.l j)) (kindM (getM g.l j)) (spanB (getM f.l j)) (spanB (getM g.l j)) (j : Int) o vs m l = leafB .normal o ((j + 1 : Nat) : Int) (vs m) l) ∨
    ∃ z r, oneM f.l g.l (j : Int) = some z ∧ rndB true true (kindM (getM f.l j)) (kindM (getM g.l j)) (spanB (getM f.l j)) (spanB (getM g.l j)) (j : Int) o vs m l = leafB .normal o ((j + 1 : Nat) : Int) (vs (.sl r 0 (l.length + 1) (.open_ 0))) (l ++ [z]) := by
  have e1 : fit .i64 (Int.add (j : Int) 1) = ((j + 1 : Nat) : Int) := by rw [show Int.add (j : Int) 1 = (j : Int) + 1 from rfl, fit_i64 (by omega)]; rfl
  have h15 : (!intLt 15 (j : Int)) = true := by rw [Bool.not_eq_true', ← Bool.not_eq_true, intLt_iff]; omega
  unfold rndB
  rw [e1, h15]
  unfold oneM
  unfold badM at hok
  cases h1 : getM f.l (j : Int) with
  | none =>
    cases h2 : getM g.l (j : Int) with
    | none => exact .inl ⟨rfl, rfl⟩
    | some y => exact .inr ⟨y, 4 + o, rfl, rfl⟩
  | some x =>
    cases h2 : getM g.l (j : Int) with
    | none => exact .inr ⟨x, 4 + o, rfl, rfl⟩
    | some y =>
      rw [h1, h2] at hok
      have hok : ¬ hiM x y < loM x y := by simpa using hok
      have hx := getM_okV hvf.list.2.2 _ h1
      have hy := getM_okV hvg.list.2.2 _ h2
      have := span_bounds hx hy
      have hw : (!intLt (widB x y) 0 && inR .i64 (widB x y)) = true := by
        rw [widB_eq hx hy, Bool.and_eq_true, Bool.not_eq_true', ← Bool.not_eq_true, intLt_iff]
        refine ⟨by omega, ?_⟩
        obtain ⟨k, hk⟩ : ∃ k : Nat, hiM x y - loM x y + 1 = Int.ofNat k := ⟨(hiM x y - loM x y + 1).toNat, by simp only [Int.ofNat_eq_natCast]; omega⟩
        rw [hk]
        show Nat.ble k (top .i64) = true
        rw [Nat.ble_eq]
        show k ≤ 9223372036854775807
        simp only [Int.ofNat_eq_natCast] at hk
        omega
      have hb : bothK (j : Int) x y = bothM x y := by
        rw [← bothI_eq hx hy hok]
        unfold bothK bothI
        rw [getM_kind h2]
      refine .inr ⟨bothM x y, 28 + o, rfl, ?_⟩
      show cond (!intLt (widB x y) 0 && inR .i64 (widB x y)) _ none = _
      rw [hw, show bothK (j : Int) (kindM (some x)) (kindM (some y)) = bothM x y from hb]
      rfl
theorem leaf125 {ρ ρ' : Rho} {w' : World} {a' : Act} {x x0 : Ex} {t' : Fr} {s' : St} {pa pb p6 po : Value} {q : Fd} {o : Nat} {k : Int} {m : V} {l : List Mea} (q2 : E ρ (.ptr 2 0) pa) (q3 : E ρ (.ptr 3 0) pb) (q6 : E ρ (.ptr 4 0) p6) (qo : E ρ (.ptr o 0) po)
    (hf' : FrE ρ' t' a'.tmps) (hR' : Rel W ρ' s' w') (hle : ρ.le ρ') (hm : (m = .nils ∧ l = []) ∨ ∃ r, m = .sl r 0 l.length (.open_ 0) ∧ l ≠ [])
    (hg : some (rnd125 x t' s') = leafB x0 o k (q.vs m) l) :
    x = x0 ∧ a'.tmps.size = 138 ∧ a'.tmps.getD 3 undef = pa ∧ a'.tmps.getD 4 undef = pb ∧ a'.tmps.getD 6 undef = p6 ∧ a'.tmps.getD 7 undef = po ∧ a'.tmps.getD 8 undef = .int .i64 k ∧ OutAt W.heap.size w' po q l := by
  simp only [rnd125, leafB, Option.some.injEq, Prod.mk.injEq, List.cons.injEq] at hg
  obtain ⟨rfl, gn, ⟨g3, g4, g6, g7, g8, _⟩, hc⟩ := hg
  have e3 := hf'.2 3
  have e4 := hf'.2 4
  have e6 := hf'.2 6
  have e7 := hf'.2 7
  have e8 := hf'.2 8
  rw [g3] at e3; rw [g4] at e4; rw [g6] at e6; rw [g7] at e7 hc; rw [g8] at e8
  have h7 := ptr_fun e7 (E.mono hle _ qo)
  exact ⟨rfl, hf'.1.trans gn, ptr_fun e3 (E.mono hle _ q2), ptr_fun e4 (E.mono hle _ q3), ptr_fun e6 (E.mono hle _ q6), h7, E_i64_inv e8, OutAt.of hR' (E.mono hle _ qo) hc hm⟩
theorem round125_core (hmix : Tryz.prog.follows .mixedOrders = true) {w : World} {act : Act} {f g q : Fd} (hf : f.OK) (hg : g.OK) (hvf : f.Valid) (hvg : g.Valid) (hok : ∀ k : Nat, k < 16 → badM f.l g.l k = false) {pa pb p6 po : Value} {j : Nat} (hj : j ≤ 16)
    {s : St} {ρ : Rho} {o : Nat} {m : V} {l : List Mea} (hR : Rel W ρ s w) (q2 : E ρ (.ptr 2 0) pa) (q3 : E ρ (.ptr 3 0) pb) (q6 : E ρ (.ptr 4 0) p6) (qo : E ρ (.ptr o 0) po) {d : Nat → V} (hdd : ∀ i, E ρ (d i) (act.tmps.getD i undef)) (hh : Head125 act.tmps pa pb p6 po j) (hd : act.defers = []) {n0 : Nat} {tx ty : V} {ga gb : Bool}
    (hr : codeG Tryz.prog (semN Tryz.prog W vf174 (tb174b n0 tx ty)) 60 body125 (frL (hd125 o (j : Int) d)) s rnd125 = rndB ga gb (kindM (getM f.l j)) (kindM (getM g.l j)) (spanB (getM f.l j)) (spanB (getM g.l j)) (j : Int) o q.vs m l)
    (hA : codeA Tryz.prog (semN Tryz.prog W vf174 (tb174b n0 tx ty)) 60 body125 (frL (hd125 o (j : Int) d)) s false = codeA Tryz.prog (semN Tryz.prog W vf174 (tb174b n0 tx ty)) 60 body125 (frL (hd125 o (j : Int) d)) s true)
    (hga : ga = true) (hgb : gb = true) (hm : (m = .nils ∧ l = []) ∨ ∃ r, m = .sl r 0 l.length (.open_ 0) ∧ l ≠ []) :
    body125.wp Tryz.prog (fun e a' w' => Below W.heap.size W w' ∧ a'.defers = [] ∧ ((j = 16 ∧ e = .exit 0 ∧ a'.tmps.size = 138 ∧ a'.tmps.getD 6 undef = p6 ∧ a'.tmps.getD 7 undef = po ∧ OutAt W.heap.size w' po q l) ∨
      (j < 16 ∧ e = .normal ∧ Head125 a'.tmps pa pb p6 po (j + 1) ∧ OutAt W.heap.size w' po q (l ++ (oneM f.l g.l (j : Int)).toList)))) act w := by
  subst hga hgb
  have hF : FrE ρ (frL (hd125 o (j : Int) d)) act.tmps := hd125_ok hh.size (by rw [hh.h3]; exact q2) (by rw [hh.h4]; exact q3) (by rw [hh.h6]; exact q6) (by rw [hh.h7]; exact qo) (by rw [hh.h8]; exact E_i64 _) hdd
  by_cases h16 : j = 16
  · have h15 : (!intLt 15 (j : Int)) = false := by rw [Bool.not_eq_false', intLt_iff]; omega
    have hr2 : codeG Tryz.prog (semN Tryz.prog W vf174 (tb174b n0 tx ty)) 60 body125 (frL (hd125 o (j : Int) d)) s rnd125 = leafB (.exit 0) o (j : Int) (q.vs m) l := by rw [hr]; unfold rndB; rw [h15]; rfl
    refine wp_mono (codeG_stepH hmix semN_ok hr2 hA hR hF hd) ?_
    rintro e a' w' ⟨x, t', s', ⟨rfl, hd', ρ', hst, hf'⟩, hg⟩
    obtain ⟨rfl, hs, _, _, h6, h7, _, ho⟩ := leaf125 q2 q3 q6 qo hf' hst.rel hst.le hm (congrArg some hg)
    exact ⟨hst.rel.below, hd', .inl ⟨h16, rfl, hs, h6, h7, ho⟩⟩
  · rcases rndB_eq hvf hvg (show j < 16 by omega) (hok j (by omega)) o q.vs m l with ⟨h1, h2⟩ | ⟨z, r, h1, h2⟩
    · refine wp_mono (codeG_stepH hmix semN_ok (hr.trans h2) hA hR hF hd) ?_
      rintro e a' w' ⟨x, t', s', ⟨rfl, hd', ρ', hst, hf'⟩, hg⟩
      obtain ⟨rfl, hs, h3, h4, h6, h7, h8, ho⟩ := leaf125 q2 q3 q6 qo hf' hst.rel hst.le hm (congrArg some hg)
      refine ⟨hst.rel.below, hd', .inr ⟨by omega, rfl, ⟨hs, h3, h4, h6, h7, h8⟩, ?_⟩⟩
      rw [h1]
      simpa using ho
    · refine wp_mono (codeG_stepH hmix semN_ok (hr.trans h2) hA hR hF hd) ?_
      rintro e a' w' ⟨x, t', s', ⟨rfl, hd', ρ', hst, hf'⟩, hg⟩
      obtain ⟨rfl, hs, h3, h4, h6, h7, h8, ho⟩ := leaf125 q2 q3 q6 qo hf' hst.rel hst.le (.inr ⟨r, by rw [List.length_append]; rfl, by simp⟩) (congrArg some hg)
      refine ⟨hst.rel.below, hd', .inr ⟨by omega, rfl, ⟨hs, h3, h4, h6, h7, h8⟩, ?_⟩⟩
      rw [h1]
      exact ho
theorem round125 (hmix : Tryz.prog.follows .mixedOrders = true) {w : World} {act : Act} {f g q : Fd} (hf : f.OK) (hg : g.OK) (hvf : f.Valid) (hvg : g.Valid) (hok : ∀ k : Nat, k < 16 → badM f.l g.l k = false) {msf msg pa pb p6 po : Value}
    (hb : Below W.heap.size W w) (hmf : MeaAt W msf f.oc f.l) (hmg : MeaAt W msg g.oc g.l) (hbf : BoxF W pa (f.cs msf)) (hbg : BoxF W pb (g.cs msg)) (hb6 : BoxF W p6 []) {j : Nat} (hj : j ≤ 16) (hh : Head125 act.tmps pa pb p6 po j) (hd : act.defers = []) (l : List Mea) (ho : OutAt W.heap.size w po q l) (hl : l.length ≤ 8) :
    body125.wp Tryz.prog (fun e a' w' => Below W.heap.size W w' ∧ a'.defers = [] ∧ ((j = 16 ∧ e = .exit 0 ∧ a'.tmps.size = 138 ∧ a'.tmps.getD 6 undef = p6 ∧ a'.tmps.getD 7 undef = po ∧ OutAt W.heap.size w' po q l) ∨
      (j < 16 ∧ e = .normal ∧ Head125 a'.tmps pa pb p6 po (j + 1) ∧ OutAt W.heap.size w' po q (l ++ (oneM f.l g.l (j : Int)).toList)))) act w := by
  have hs0 : 0 < W.heap.size := by
    obtain ⟨blk, _, h1, _⟩ := hbf
    omega
  obtain ⟨ρ1, _, hR1, ea⟩ := hmf.add (Rel.start' hb)
  obtain ⟨ρ2, le2, hR2, eb⟩ := hmg.add hR1
  have ea : E ρ2 (mvOf 0 f.oc f.l) msf := E.mono le2 _ ea
  have eb : E ρ2 (mvOf 1 g.oc g.l) msg := eb
  obtain ⟨ρ4, le4, hR4, q2⟩ := hbf.add' hR2 (vs := f.vs (mvOf 0 f.oc f.l)) (EL_fin ea)
  obtain ⟨ρ5, le5, hR5, q3⟩ := hbg.add' hR4 (vs := g.vs (mvOf 1 g.oc g.l)) (EL_fin (E.mono le4 _ eb))
  obtain ⟨ρ7, le7, hR7, q6⟩ := hb6.add' hR5 (vs := []) EL.nil
  have q2 : E ρ7 (.ptr 2 0) pa := E.mono le7 _ (E.mono le5 _ q2)
  have q3 : E ρ7 (.ptr 3 0) pb := E.mono le7 _ q3
  have q6 : E ρ7 (.ptr 4 0) p6 := q6
  have hch : ∃ d : Nat → V, ∀ i, E ρ7 (d i) (act.tmps.getD i undef) := ⟨fun i => Classical.choose (E.some ρ7 (act.tmps.getD i undef)), fun i => Classical.choose_spec (E.some ρ7 (act.tmps.getD i undef))⟩
  obtain ⟨d, hdd⟩ := hch
  have hR5 : Rel W ρ7 ((st4 (meaC f.l) (meaC g.l) (f.vs (mvOf 0 f.oc f.l)) (g.vs (mvOf 1 g.oc g.l))).alloc (.ro [])) w := hR7
  have hvw : ∀ {s : St}, vf174 174 s = [some (.ro (meaC f.l)), some (.ro (meaC g.l))] → s.get 0 = some (.ro (meaC f.l)) ∧ s.get 1 = some (.ro (meaC g.l)) := fun {s} h => ⟨(List.cons.inj h).1, (List.cons.inj (List.cons.inj h).2).1⟩
  have gf : goodN Tryz.prog W vf174 174 [f.iv 0, i64 (j : Int)] [some (.ro (meaC f.l)), some (.ro (meaC g.l))] 0 (kindT (kindM (getM f.l j)) (spanB (getM f.l j))) none = true := goodN_true fun s h _ => good174 hmix hs0 hf hvf (hvw h).1
  have gg : goodN Tryz.prog W vf174 174 [g.iv 1, i64 (j : Int)] [some (.ro (meaC f.l)), some (.ro (meaC g.l))] 0 (kindT (kindM (getM g.l j)) (spanB (getM g.l j))) none = true := goodN_true fun s h _ => good174 hmix hs0 hg hvg (hvw h).2
  have noI : ∀ r, ¬ Img ρ7 ((st4 (meaC f.l) (meaC g.l) (f.vs (mvOf 0 f.oc f.l)) (g.vs (mvOf 1 g.oc g.l))).alloc (.ro [])) r := noImg_alloc (noImg_alloc (noImg_alloc (noImg_alloc (noImg_alloc fun r ⟨b, x, l, hb, _⟩ => by cases hb))))
  exact match l, ho, hl with
  | [], ho, _ => by
    obtain ⟨ρ6, le6, hR6, qo⟩ := ho.add0 (Nat.le_refl _) hR5 fun r _ => noI r
    exact round125_core hmix hf hg hvf hvg hok hj hR6 (E.mono le6 _ q2) (E.mono le6 _ q3) (E.mono le6 _ q6) qo (fun i => E.mono le6 _ (hdd i)) hh hd (bk_0 W (meaC f.l) (meaC g.l) (j : Int) (mvOf 0 f.oc f.l) (mvOf 1 g.oc g.l) f.no f.el f.sd f.a f.b f.d f.e f.lo f.hi f.sex f.wear f.layer f.square g.no g.el g.sd g.a g.b g.d g.e g.lo g.hi g.sex g.wear g.layer g.square q.no q.el q.sd q.a q.b q.d q.e q.lo q.hi q.sex q.wear q.layer q.square (kindM (getM f.l j)) (kindM (getM g.l j)) (spanB (getM f.l j)) (spanB (getM g.l j)) d) (bkA_0 W (meaC f.l) (meaC g.l) (j : Int) (mvOf 0 f.oc f.l) (mvOf 1 g.oc g.l) f.no f.el f.sd f.a f.b f.d f.e f.lo f.hi f.sex f.wear f.layer f.square g.no g.el g.sd g.a g.b g.d g.e g.lo g.hi g.sex g.wear g.layer g.square q.no q.el q.sd q.a q.b q.d q.e q.lo q.hi q.sex q.wear q.layer q.square (kindM (getM f.l j)) (kindM (getM g.l j)) (spanB (getM f.l j)) (spanB (getM g.l j)) d) gf gg (.inl ⟨rfl, rfl⟩)
  | [m1], ho, _ => by
    obtain ⟨ρ6, le6, hR6, qo⟩ := ho.add1 (List.cons_ne_nil _ _) (Nat.le_refl _) hR5 fun r _ => noI r
    exact round125_core hmix hf hg hvf hvg hok hj hR6 (E.mono le6 _ q2) (E.mono le6 _ q3) (E.mono le6 _ q6) qo (fun i => E.mono le6 _ (hdd i)) hh hd (bk_1 W (meaC f.l) (meaC g.l) (j : Int) (mvOf 0 f.oc f.l) (mvOf 1 g.oc g.l) f.no f.el f.sd f.a f.b f.d f.e f.lo f.hi f.sex f.wear f.layer f.square g.no g.el g.sd g.a g.b g.d g.e g.lo g.hi g.sex g.wear g.layer g.square q.no q.el q.sd q.a q.b q.d q.e q.lo q.hi q.sex q.wear q.layer q.square (kindM (getM f.l j)) (kindM (getM g.l j)) (spanB (getM f.l j)) (spanB (getM g.l j)) d m1) (bkA_1 W (meaC f.l) (meaC g.l) (j : Int) (mvOf 0 f.oc f.l) (mvOf 1 g.oc g.l) f.no f.el f.sd f.a f.b f.d f.e f.lo f.hi f.sex f.wear f.layer f.square g.no g.el g.sd g.a g.b g.d g.e g.lo g.hi g.sex g.wear g.layer g.square q.no q.el q.sd q.a q.b q.d q.e q.lo q.hi q.sex q.wear q.layer q.square (kindM (getM f.l j)) (kindM (getM g.l j)) (spanB (getM f.l j)) (spanB (getM g.l j)) d m1) gf gg (.inr ⟨5, rfl, List.cons_ne_nil _ _⟩)
  | [m1, m2], ho, _ => by
    obtain ⟨ρ6, le6, hR6, qo⟩ := ho.add1 (List.cons_ne_nil _ _) (Nat.le_refl _) hR5 fun r _ => noI r
    exact round125_core hmix hf hg hvf hvg hok hj hR6 (E.mono le6 _ q2) (E.mono le6 _ q3) (E.mono le6 _ q6) qo (fun i => E.mono le6 _ (hdd i)) hh hd (bk_2 W (meaC f.l) (meaC g.l) (j : Int) (mvOf 0 f.oc f.l) (mvOf 1 g.oc g.l) f.no f.el f.sd f.a f.b f.d f.e f.lo f.hi f.sex f.wear f.layer f.square g.no g.el g.sd g.a g.b g.d g.e g.lo g.hi g.sex g.wear g.layer g.square q.no q.el q.sd q.a q.b q.d q.e q.lo q.hi q.sex q.wear q.layer q.square (kindM (getM f.l j)) (kindM (getM g.l j)) (spanB (getM f.l j)) (spanB (getM g.l j)) d m1 m2) (bkA_2 W (meaC f.l) (meaC g.l) (j : Int) (mvOf 0 f.oc f.l) (mvOf 1 g.oc g.l) f.no f.el f.sd f.a f.b f.d f.e f.lo f.hi f.sex f.wear f.layer f.square g.no g.el g.sd g.a g.b g.d g.e g.lo g.hi g.sex g.wear g.layer g.square q.no q.el q.sd q.a q.b q.d q.e q.lo q.hi q.sex q.wear q.layer q.square (kindM (getM f.l j)) (kindM (getM g.l j)) (spanB (getM f.l j)) (spanB (getM g.l j)) d m1 m2) gf gg (.inr ⟨5, rfl, List.cons_ne_nil _ _⟩)
  | [m1, m2, m3], ho, _ => by
    obtain ⟨ρ6, le6, hR6, qo⟩ := ho.add1 (List.cons_ne_nil _ _) (Nat.le_refl _) hR5 fun r _ => noI r
    exact round125_core hmix hf hg hvf hvg hok hj hR6 (E.mono le6 _ q2) (E.mono le6 _ q3) (E.mono le6 _ q6) qo (fun i => E.mono le6 _ (hdd i)) hh hd (bk_3 W (meaC f.l) (meaC g.l) (j : Int) (mvOf 0 f.oc f.l) (mvOf 1 g.oc g.l) f.no f.el f.sd f.a f.b f.d f.e f.lo f.hi f.sex f.wear f.layer f.square g.no g.el g.sd g.a g.b g.d g.e g.lo g.hi g.sex g.wear g.layer g.square q.no q.el q.sd q.a q.b q.d q.e q.lo q.hi q.sex q.wear q.layer q.square (kindM (getM f.l j)) (kindM (getM g.l j)) (spanB (getM f.l j)) (spanB (getM g.l j)) d m1 m2 m3) (bkA_3 W (meaC f.l) (meaC g.l) (j : Int) (mvOf 0 f.oc f.l) (mvOf 1 g.oc g.l) f.no f.el f.sd f.a f.b f.d f.e f.lo f.hi f.sex f.wear f.layer f.square g.no g.el g.sd g.a g.b g.d g.e g.lo g.hi g.sex g.wear g.layer g.square q.no q.el q.sd q.a q.b q.d q.e q.lo q.hi q.sex q.wear q.layer q.square (kindM (getM f.l j)) (kindM (getM g.l j)) (spanB (getM f.l j)) (spanB (getM g.l j)) d m1 m2 m3) gf gg (.inr ⟨5, rfl, List.cons_ne_nil _ _⟩)
  | [m1, m2, m3, m4], ho, _ => by
    obtain ⟨ρ6, le6, hR6, qo⟩ := ho.add1 (List.cons_ne_nil _ _) (Nat.le_refl _) hR5 fun r _ => noI r
    exact round125_core hmix hf hg hvf hvg hok hj hR6 (E.mono le6 _ q2) (E.mono le6 _ q3) (E.mono le6 _ q6) qo (fun i => E.mono le6 _ (hdd i)) hh hd (bk_4 W (meaC f.l) (meaC g.l) (j : Int) (mvOf 0 f.oc f.l) (mvOf 1 g.oc g.l) f.no f.el f.sd f.a f.b f.d f.e f.lo f.hi f.sex f.wear f.layer f.square g.no g.el g.sd g.a g.b g.d g.e g.lo g.hi g.sex g.wear g.layer g.square q.no q.el q.sd q.a q.b q.d q.e q.lo q.hi q.sex q.wear q.layer q.square (kindM (getM f.l j)) (kindM (getM g.l j)) (spanB (getM f.l j)) (spanB (getM g.l j)) d m1 m2 m3 m4) (bkA_4 W (meaC f.l) (meaC g.l) (j : Int) (mvOf 0 f.oc f.l) (mvOf 1 g.oc g.l) f.no f.el f.sd f.a f.b f.d f.e f.lo f.hi f.sex f.wear f.layer f.square g.no g.el g.sd g.a g.b g.d g.e g.lo g.hi g.sex g.wear g.layer g.square q.no q.el q.sd q.a q.b q.d q.e q.lo q.hi q.sex q.wear q.layer q.square (kindM (getM f.l j)) (kindM (getM g.l j)) (spanB (getM f.l j)) (spanB (getM g.l j)) d m1 m2 m3 m4) gf gg (.inr ⟨5, rfl, List.cons_ne_nil _ _⟩)
  | [m1, m2, m3, m4, m5], ho, _ => by
    obtain ⟨ρ6, le6, hR6, qo⟩ := ho.add1 (List.cons_ne_nil _ _) (Nat.le_refl _) hR5 fun r _ => noI r
    exact round125_core hmix hf hg hvf hvg hok hj hR6 (E.mono le6 _ q2) (E.mono le6 _ q3) (E.mono le6 _ q6) qo (fun i => E.mono le6 _ (hdd i)) hh hd (bk_5 W (meaC f.l) (meaC g.l) (j : Int) (mvOf 0 f.oc f.l) (mvOf 1 g.oc g.l) f.no f.el f.sd f.a f.b f.d f.e f.lo f.hi f.sex f.wear f.layer f.square g.no g.el g.sd g.a g.b g.d g.e g.lo g.hi g.sex g.wear g.layer g.square q.no q.el q.sd q.a q.b q.d q.e q.lo q.hi q.sex q.wear q.layer q.square (kindM (getM f.l j)) (kindM (getM g.l j)) (spanB (getM f.l j)) (spanB (getM g.l j)) d m1 m2 m3 m4 m5) (bkA_5 W (meaC f.l) (meaC g.l) (j : Int) (mvOf 0 f.oc f.l) (mvOf 1 g.oc g.l) f.no f.el f.sd f.a f.b f.d f.e f.lo f.hi f.sex f.wear f.layer f.square g.no g.el g.sd g.a g.b g.d g.e g.lo g.hi g.sex g.wear g.layer g.square q.no q.el q.sd q.a q.b q.d q.e q.lo q.hi q.sex q.wear q.layer q.square (kindM (getM f.l j)) (kindM (getM g.l j)) (spanB (getM f.l j)) (spanB (getM g.l j)) d m1 m2 m3 m4 m5) gf gg (.inr ⟨5, rfl, List.cons_ne_nil _ _⟩)
  | [m1, m2, m3, m4, m5, m6], ho, _ => by
    obtain ⟨ρ6, le6, hR6, qo⟩ := ho.add1 (List.cons_ne_nil _ _) (Nat.le_refl _) hR5 fun r _ => noI r
    exact round125_core hmix hf hg hvf hvg hok hj hR6 (E.mono le6 _ q2) (E.mono le6 _ q3) (E.mono le6 _ q6) qo (fun i => E.mono le6 _ (hdd i)) hh hd (bk_6 W (meaC f.l) (meaC g.l) (j : Int) (mvOf 0 f.oc f.l) (mvOf 1 g.oc g.l) f.no f.el f.sd f.a f.b f.d f.e f.lo f.hi f.sex f.wear f.layer f.square g.no g.el g.sd g.a g.b g.d g.e g.lo g.hi g.sex g.wear g.layer g.square q.no q.el q.sd q.a q.b q.d q.e q.lo q.hi q.sex q.wear q.layer q.square (kindM (getM f.l j)) (kindM (getM g.l j)) (spanB (getM f.l j)) (spanB (getM g.l j)) d m1 m2 m3 m4 m5 m6) (bkA_6 W (meaC f.l) (meaC g.l) (j : Int) (mvOf 0 f.oc f.l) (mvOf 1 g.oc g.l) f.no f.el f.sd f.a f.b f.d f.e f.lo f.hi f.sex f.wear f.layer f.square g.no g.el g.sd g.a g.b g.d g.e g.lo g.hi g.sex g.wear g.layer g.square q.no q.el q.sd q.a q.b q.d q.e q.lo q.hi q.sex q.wear q.layer q.square (kindM (getM f.l j)) (kindM (getM g.l j)) (spanB (getM f.l j)) (spanB (getM g.l j)) d m1 m2 m3 m4 m5 m6) gf gg (.inr ⟨5, rfl, List.cons_ne_nil _ _⟩)
  | [m1, m2, m3, m4, m5, m6, m7], ho, _ => by
    obtain ⟨ρ6, le6, hR6, qo⟩ := ho.add1 (List.cons_ne_nil _ _) (Nat.le_refl _) hR5 fun r _ => noI r
    exact round125_core hmix hf hg hvf hvg hok hj hR6 (E.mono le6 _ q2) (E.mono le6 _ q3) (E.mono le6 _ q6) qo (fun i => E.mono le6 _ (hdd i)) hh hd (bk_7 W (meaC f.l) (meaC g.l) (j : Int) (mvOf 0 f.oc f.l) (mvOf 1 g.oc g.l) f.no f.el f.sd f.a f.b f.d f.e f.lo f.hi f.sex f.wear f.layer f.square g.no g.el g.sd g.a g.b g.d g.e g.lo g.hi g.sex g.wear g.layer g.square q.no q.el q.sd q.a q.b q.d q.e q.lo q.hi q.sex q.wear q.layer q.square (kindM (getM f.l j)) (kindM (getM g.l j)) (spanB (getM f.l j)) (spanB (getM g.l j)) d m1 m2 m3 m4 m5 m6 m7) (bkA_7 W (meaC f.l) (meaC g.l) (j : Int) (mvOf 0 f.oc f.l) (mvOf 1 g.oc g.l) f.no f.el f.sd f.a f.b f.d f.e f.lo f.hi f.sex f.wear f.layer f.square g.no g.el g.sd g.a g.b g.d g.e g.lo g.hi g.sex g.wear g.layer g.square q.no q.el q.sd q.a q.b q.d q.e q.lo q.hi q.sex q.wear q.layer q.square (kindM (getM f.l j)) (kindM (getM g.l j)) (spanB (getM f.l j)) (spanB (getM g.l j)) d m1 m2 m3 m4 m5 m6 m7) gf gg (.inr ⟨5, rfl, List.cons_ne_nil _ _⟩)
  | [m1, m2, m3, m4, m5, m6, m7, m8], ho, _ => by
    obtain ⟨ρ6, le6, hR6, qo⟩ := ho.add1 (List.cons_ne_nil _ _) (Nat.le_refl _) hR5 fun r _ => noI r
    exact round125_core hmix hf hg hvf hvg hok hj hR6 (E.mono le6 _ q2) (E.mono le6 _ q3) (E.mono le6 _ q6) qo (fun i => E.mono le6 _ (hdd i)) hh hd (bk_8 W (meaC f.l) (meaC g.l) (j : Int) (mvOf 0 f.oc f.l) (mvOf 1 g.oc g.l) f.no f.el f.sd f.a f.b f.d f.e f.lo f.hi f.sex f.wear f.layer f.square g.no g.el g.sd g.a g.b g.d g.e g.lo g.hi g.sex g.wear g.layer g.square q.no q.el q.sd q.a q.b q.d q.e q.lo q.hi q.sex q.wear q.layer q.square (kindM (getM f.l j)) (kindM (getM g.l j)) (spanB (getM f.l j)) (spanB (getM g.l j)) d m1 m2 m3 m4 m5 m6 m7 m8) (bkA_8 W (meaC f.l) (meaC g.l) (j : Int) (mvOf 0 f.oc f.l) (mvOf 1 g.oc g.l) f.no f.el f.sd f.a f.b f.d f.e f.lo f.hi f.sex f.wear f.layer f.square g.no g.el g.sd g.a g.b g.d g.e g.lo g.hi g.sex g.wear g.layer g.square q.no q.el q.sd q.a q.b q.d q.e q.lo q.hi q.sex q.wear q.layer q.square (kindM (getM f.l j)) (kindM (getM g.l j)) (spanB (getM f.l j)) (spanB (getM g.l j)) d m1 m2 m3 m4 m5 m6 m7 m8) gf gg (.inr ⟨5, rfl, List.cons_ne_nil _ _⟩)
  | m1 :: m2 :: m3 :: m4 :: m5 :: m6 :: m7 :: m8 :: m9 :: r, _, hl => by simp only [List.length_cons] at hl; omega
end Go.Proofs.YtilfiadkhohfiaaGreatDoor
/- Layer 2: joins of finds, in runs. -/
set_option linter.unusedVariables false
set_option maxRecDepth 100000
namespace Go.Proofs.YtilfiadkhohfiaaGreatDoor
set_option linter.unusedSimpArgs false
set_option linter.unusedVariables false
open Go Go.RowKit Go.Clo
noncomputable section
def hp125 (num : Int) (d : Nat → V) : List V := [d 0, d 1, i64 num, .ptr 2 0, .ptr 3 0, d 5, .ptr 4 0, d 7, d 8, d 9, d 10, d 11, d 12, d 13, d 14, d 15, d 16, d 17, d 18, d 19, d 20, d 21, d 22, d 23, d 24, d 25, d 26, d 27, d 28, d 29, d 30, d 31, d 32, d 33, d 34, d 35, d 36, d 37, d 38, d 39, d 40, d 41, d 42, d 43, d 44, d 45, d 46, d 47, d 48, d 49, d 50, d 51, d 52, d 53, d 54, d 55, d 56, d 57, d 58, d 59, d 60, d 61, d 62, d 63, d 64, d 65, d 66, d 67, d 68, d 69, d 70, d 71, d 72, d 73, d 74, d 75, d 76, d 77, d 78, d 79, d 80, d 81, d 82, d 83, d 84, d 85, d 86, d 87, d 88, d 89, d 90, d 91, d 92, d 93, d 94, d 95, d 96, d 97, d 98, d 99, d 100, d 101, d 102, d 103, d 104, d 105, d 106, d 107, d 108, d 109, d 110, d 111, d 112, d 113, d 114, d 115, d 116, d 117, d 118, d 119, d 120, d 121, d 122, d 123, d 124, d 125, d 126, d 127, d 128, d 129, d 130, d 131, d 132, d 133, d 134, d 135, d 136, d 137]
def he125 (o : Nat) (d : Nat → V) : List V := [d 0, d 1, d 2, d 3, d 4, d 5, .ptr 0 0, .ptr o 0, d 8, d 9, d 10, d 11, d 12, d 13, d 14, d 15, d 16, d 17, d 18, d 19, d 20, d 21, d 22, d 23, d 24, d 25, d 26, d 27, d 28, d 29, d 30, d 31, d 32, d 33, d 34, d 35, d 36, d 37, d 38, d 39, d 40, d 41, d 42, d 43, d 44, d 45, d 46, d 47, d 48, d 49, d 50, d 51, d 52, d 53, d 54, d 55, d 56, d 57, d 58, d 59, d 60, d 61, d 62, d 63, d 64, d 65, d 66, d 67, d 68, d 69, d 70, d 71, d 72, d 73, d 74, d 75, d 76, d 77, d 78, d 79, d 80, d 81, d 82, d 83, d 84, d 85, d 86, d 87, d 88, d 89, d 90, d 91, d 92, d 93, d 94, d 95, d 96, d 97, d 98, d 99, d 100, d 101, d 102, d 103, d 104, d 105, d 106, d 107, d 108, d 109, d 110, d 111, d 112, d 113, d 114, d 115, d 116, d 117, d 118, d 119, d 120, d 121, d 122, d 123, d 124, d 125, d 126, d 127, d 128, d 129, d 130, d 131, d 132, d 133, d 134, d 135, d 136, d 137]
def tb175 (x : V) : Tb := fun f => cond (Nat.beq f 175) (some fun _ n => (x, none)) none
def noTbN : Tb := fun _ => none
def vfN (f : FuncId) (s : St) : List (Option Blk) := []
def st5 (la lb a b : List V) : St := (st4 la lb a b).alloc (.ro [])
def zeroF : List V := finL 0 0 0 0 0 0 0 .nils 0 0 0 0 0 0
def ag125 (x : Ex) (t : Fr) (s : St) : Ex × Nat × List V × List (Option (List V)) × Option (List V × Nat × Option (Nat × List V × Nat)) := (x, t.n, [t.get 2, t.get 3, t.get 4, t.get 6], [ptrC (t.get 3) s, ptrC (t.get 4) s], outC (t.get 6) s)
def eg125 (x : Ex) (t : Fr) (s : St) : Ex × M (List V) × Option Blk := (x, resV Tryz.prog t s f125.results.toList, s.get 1)
/-- ref's sex. -/
def sxR (s s' : Int) : Option V :=
  let D : Option V := cond (intBeq s 1) (oI s) (cond (intBeq s 4) (oI s) (cond (intBeq s' 1) (oI s') (cond (intBeq s' 4) (oI s') (cond (intBeq s 0) (oI s') (oI s)))))
  let C : Option V := cond (intBeq s' 1) (oI 0) (cond (intBeq s' 2) (oI 0) D)
  let B : Option V := cond (intBeq s 3) C (cond (intBeq s 4) C D)
  let A : Option V := cond (intBeq s' 3) (oI 0) (cond (intBeq s' 4) (oI 0) B)
  cond (intBeq s 1) A (cond (intBeq s 2) A B)
end
section
variable (W0 : World) (s s' : Int)
theorem sr175 : valG Tryz.prog (semN Tryz.prog W0 vfN noTbN) 60 175 [i64 s, i64 s'] (st2 [] []) (fun v _ => v) = sxR s s' := by kernel_rfl
theorem sr175A : askK Tryz.prog (semN Tryz.prog W0 vfN noTbN) 60 175 [i64 s, i64 s'] (st2 [] []) false = askK Tryz.prog (semN Tryz.prog W0 vfN noTbN) 60 175 [i64 s, i64 s'] (st2 [] []) true := by kernel_rfl
end
section
variable (W0 : World) (c c' : List V) (n : Nat) (num sx : Int) (ma mb : V) (no el sd : Int) (a b d e : Nat) (lo hi sex wear layer square : Int) (no' el' sd' : Int) (a' b' d' e' : Nat) (lo' hi' sex' wear' layer' square' : Int) (no2 el2 sd2 : Int) (a2 b2 d2 e2 : Nat) (lo2 hi2 sex2 wear2 layer2 square2 : Int) (dd : Nat → V)
theorem ar125 : codeG Tryz.prog (semN Tryz.prog W0 vfN noTbN) 60 a125 (enterF [fin1 no el sd a ma lo hi sex wear layer square, fin1 no' el' sd' a' mb lo' hi' sex' wear' layer' square', i64 num] 138) (st2 c c') ag125 = some (.normal, 138, [i64 num, .ptr 2 0, .ptr 3 0, .ptr 4 0], [some (finL no el sd a 0 0 0 ma lo hi sex wear layer square), some (finL no' el' sd' a' 0 0 0 mb lo' hi' sex' wear' layer' square')], some (zeroF, 29, some (0, [], 3))) := by kernel_rfl
theorem ar125A : codeA Tryz.prog (semN Tryz.prog W0 vfN noTbN) 60 a125 (enterF [fin1 no el sd a ma lo hi sex wear layer square, fin1 no' el' sd' a' mb lo' hi' sex' wear' layer' square', i64 num] 138) (st2 c c') false = codeA Tryz.prog (semN Tryz.prog W0 vfN noTbN) 60 a125 (enterF [fin1 no el sd a ma lo hi sex wear layer square, fin1 no' el' sd' a' mb lo' hi' sex' wear' layer' square', i64 num] 138) (st2 c c') true := by kernel_rfl
theorem pr125 : codeG Tryz.prog (semN Tryz.prog W0 vfN (tb175 (i64 sx))) 60 (seqs pre125 r125) (frL (hp125 num dd)) (st5 c c' (finL no el sd a b d e ma lo hi sex wear layer square) (finL no' el' sd' a' b' d' e' mb lo' hi' sex' wear' layer' square')) rnd125 = cond (bleT a a') (cond (goodN Tryz.prog W0 vfN 175 [i64 sex, i64 sex'] [] 0 (i64 sx) none) (cond (intBeq sd 3)
    (leafB .normal 48 0 (finL num el sd' (Nat.lor a a') 0 0 0 .nils (loA lo lo') (hiA hi hi') sx (cond (intLt wear wear') wear' wear) layer square) [])
    (leafB .normal 48 0 (finL num el sd (Nat.lor a a') 0 0 0 .nils (loA lo lo') (hiA hi hi') sx (cond (intLt wear wear') wear' wear) layer square) [])) none) none := by kernel_rfl
theorem pr125A : codeA Tryz.prog (semN Tryz.prog W0 vfN (tb175 (i64 sx))) 60 (seqs pre125 r125) (frL (hp125 num dd)) (st5 c c' (finL no el sd a b d e ma lo hi sex wear layer square) (finL no' el' sd' a' b' d' e' mb lo' hi' sex' wear' layer' square')) false = codeA Tryz.prog (semN Tryz.prog W0 vfN (tb175 (i64 sx))) 60 (seqs pre125 r125) (frL (hp125 num dd)) (st5 c c' (finL no el sd a b d e ma lo hi sex wear layer square) (finL no' el' sd' a' b' d' e' mb lo' hi' sex' wear' layer' square')) true := by kernel_rfl
theorem er125_0 : codeG Tryz.prog (semN Tryz.prog W0 vfN noTbN) 60 e125 (frL (he125 1 dd)) (((⟨.nil, 0⟩ : St).alloc (.cells zeroF 29)).alloc (.cells (finL no2 el2 sd2 a2 b2 d2 e2 .nils lo2 hi2 sex2 wear2 layer2 square2) 29)) eg125 = some (.ret, .ok [.agg (finL no2 el2 sd2 a2 b2 d2 e2 .nils lo2 hi2 sex2 wear2 layer2 square2)], some (.cells (finL no2 el2 sd2 a2 b2 d2 e2 .nils lo2 hi2 sex2 wear2 layer2 square2) 29)) := by kernel_rfl
theorem er125_0A : codeA Tryz.prog (semN Tryz.prog W0 vfN noTbN) 60 e125 (frL (he125 1 dd)) (((⟨.nil, 0⟩ : St).alloc (.cells zeroF 29)).alloc (.cells (finL no2 el2 sd2 a2 b2 d2 e2 .nils lo2 hi2 sex2 wear2 layer2 square2) 29)) false = codeA Tryz.prog (semN Tryz.prog W0 vfN noTbN) 60 e125 (frL (he125 1 dd)) (((⟨.nil, 0⟩ : St).alloc (.cells zeroF 29)).alloc (.cells (finL no2 el2 sd2 a2 b2 d2 e2 .nils lo2 hi2 sex2 wear2 layer2 square2) 29)) true := by kernel_rfl
theorem er125_1 : codeG Tryz.prog (semN Tryz.prog W0 vfN noTbN) 60 e125 (frL (he125 2 dd)) ((((⟨.nil, 0⟩ : St).alloc (.cells zeroF 29)).alloc (.row c 98 3 false [])).alloc (.cells (finL no2 el2 sd2 a2 b2 d2 e2 (.sl 1 0 n (.open_ 0)) lo2 hi2 sex2 wear2 layer2 square2) 29)) eg125 = some (.ret, .ok [.agg (finL no2 el2 sd2 a2 b2 d2 e2 (.sl 1 0 n (.open_ 0)) lo2 hi2 sex2 wear2 layer2 square2)], some (.row c 98 3 false [])) := by kernel_rfl
theorem er125_1A : codeA Tryz.prog (semN Tryz.prog W0 vfN noTbN) 60 e125 (frL (he125 2 dd)) ((((⟨.nil, 0⟩ : St).alloc (.cells zeroF 29)).alloc (.row c 98 3 false [])).alloc (.cells (finL no2 el2 sd2 a2 b2 d2 e2 (.sl 1 0 n (.open_ 0)) lo2 hi2 sex2 wear2 layer2 square2) 29)) false = codeA Tryz.prog (semN Tryz.prog W0 vfN noTbN) 60 e125 (frL (he125 2 dd)) ((((⟨.nil, 0⟩ : St).alloc (.cells zeroF 29)).alloc (.row c 98 3 false [])).alloc (.cells (finL no2 el2 sd2 a2 b2 d2 e2 (.sl 1 0 n (.open_ 0)) lo2 hi2 sex2 wear2 layer2 square2) 29)) true := by kernel_rfl
end
theorem hp125_ok {ρ : Rho} {num : Int} {d : Nat → V} {tm : Array Value} (hs : tm.size = 138) (h2 : E ρ (i64 num) (tm.getD 2 undef)) (h3 : E ρ (.ptr 2 0) (tm.getD 3 undef)) (h4 : E ρ (.ptr 3 0) (tm.getD 4 undef)) (h6 : E ρ (.ptr 4 0) (tm.getD 6 undef)) (hd : ∀ i, E ρ (d i) (tm.getD i undef)) :
    FrE ρ (frL (hp125 num d)) tm := frL_ok (by rw [hs]; rfl) fun i v hi => match i, hi with
  | 0, hi => Option.some.inj hi ▸ hd 0
  | 1, hi => Option.some.inj hi ▸ hd 1
  | 2, hi => Option.some.inj hi ▸ h2
  | 3, hi => Option.some.inj hi ▸ h3
  | 4, hi => Option.some.inj hi ▸ h4
  | 5, hi => Option.some.inj hi ▸ hd 5
  | 6, hi => Option.some.inj hi ▸ h6
  | 7, hi => Option.some.inj hi ▸ hd 7
  | 8, hi => Option.some.inj hi ▸ hd 8
  | 9, hi => Option.some.inj hi ▸ hd 9
  | 10, hi => Option.some.inj hi ▸ hd 10
  | 11, hi => Option.some.inj hi ▸ hd 11
  | 12, hi => Option.some.inj hi ▸ hd 12
  | 13, hi => Option.some.inj hi ▸ hd 13
  | 14, hi => Option.some.inj hi ▸ hd 14
  | 15, hi => Option.some.inj hi ▸ hd 15
  | 16, hi => Option.some.inj hi ▸ hd 16
  | 17, hi => Option.some.inj hi ▸ hd 17
  | 18, hi => Option.some.inj hi ▸ hd 18
  | 19, hi => Option.some.inj hi ▸ hd 19
  | 20, hi => Option.some.inj hi ▸ hd 20
  | 21, hi => Option.some.inj hi ▸ hd 21
  | 22, hi => Option.some.inj hi ▸ hd 22
  | 23, hi => Option.some.inj hi ▸ hd 23
  | 24, hi => Option.some.inj hi ▸ hd 24
  | 25, hi => Option.some.inj hi ▸ hd 25
  | 26, hi => Option.some.inj hi ▸ hd 26
  | 27, hi => Option.some.inj hi ▸ hd 27
  | 28, hi => Option.some.inj hi ▸ hd 28
  | 29, hi => Option.some.inj hi ▸ hd 29
  | 30, hi => Option.some.inj hi ▸ hd 30
  | 31, hi => Option.some.inj hi ▸ hd 31
  | 32, hi => Option.some.inj hi ▸ hd 32
  | 33, hi => Option.some.inj hi ▸ hd 33
  | 34, hi => Option.some.inj hi ▸ hd 34
  | 35, hi => Option.some.inj hi ▸ hd 35
  | 36, hi => Option.some.inj hi ▸ hd 36
  | 37, hi => Option.some.inj hi ▸ hd 37
  | 38, hi => Option.some.inj hi ▸ hd 38
  | 39, hi => Option.some.inj hi ▸ hd 39
  | 40, hi => Option.some.inj hi ▸ hd 40
  | 41, hi => Option.some.inj hi ▸ hd 41
  | 42, hi => Option.some.inj hi ▸ hd 42
  | 43, hi => Option.some.inj hi ▸ hd 43
  | 44, hi => Option.some.inj hi ▸ hd 44
  | 45, hi => Option.some.inj hi ▸ hd 45
  | 46, hi => Option.some.inj hi ▸ hd 46
  | 47, hi => Option.some.inj hi ▸ hd 47
  | 48, hi => Option.some.inj hi ▸ hd 48
  | 49, hi => Option.some.inj hi ▸ hd 49
  | 50, hi => Option.some.inj hi ▸ hd 50
  | 51, hi => Option.some.inj hi ▸ hd 51
  | 52, hi => Option.some.inj hi ▸ hd 52
  | 53, hi => Option.some.inj hi ▸ hd 53
  | 54, hi => Option.some.inj hi ▸ hd 54
  | 55, hi => Option.some.inj hi ▸ hd 55
  | 56, hi => Option.some.inj hi ▸ hd 56
  | 57, hi => Option.some.inj hi ▸ hd 57
  | 58, hi => Option.some.inj hi ▸ hd 58
  | 59, hi => Option.some.inj hi ▸ hd 59
  | 60, hi => Option.some.inj hi ▸ hd 60
  | 61, hi => Option.some.inj hi ▸ hd 61
  | 62, hi => Option.some.inj hi ▸ hd 62
  | 63, hi => Option.some.inj hi ▸ hd 63
  | 64, hi => Option.some.inj hi ▸ hd 64
  | 65, hi => Option.some.inj hi ▸ hd 65
  | 66, hi => Option.some.inj hi ▸ hd 66
  | 67, hi => Option.some.inj hi ▸ hd 67
  | 68, hi => Option.some.inj hi ▸ hd 68
  | 69, hi => Option.some.inj hi ▸ hd 69
  | 70, hi => Option.some.inj hi ▸ hd 70
  | 71, hi => Option.some.inj hi ▸ hd 71
  | 72, hi => Option.some.inj hi ▸ hd 72
  | 73, hi => Option.some.inj hi ▸ hd 73
  | 74, hi => Option.some.inj hi ▸ hd 74
  | 75, hi => Option.some.inj hi ▸ hd 75
  | 76, hi => Option.some.inj hi ▸ hd 76
  | 77, hi => Option.some.inj hi ▸ hd 77
  | 78, hi => Option.some.inj hi ▸ hd 78
  | 79, hi => Option.some.inj hi ▸ hd 79
  | 80, hi => Option.some.inj hi ▸ hd 80
  | 81, hi => Option.some.inj hi ▸ hd 81
  | 82, hi => Option.some.inj hi ▸ hd 82
  | 83, hi => Option.some.inj hi ▸ hd 83
  | 84, hi => Option.some.inj hi ▸ hd 84
  | 85, hi => Option.some.inj hi ▸ hd 85
  | 86, hi => Option.some.inj hi ▸ hd 86
  | 87, hi => Option.some.inj hi ▸ hd 87
  | 88, hi => Option.some.inj hi ▸ hd 88
  | 89, hi => Option.some.inj hi ▸ hd 89
  | 90, hi => Option.some.inj hi ▸ hd 90
  | 91, hi => Option.some.inj hi ▸ hd 91
  | 92, hi => Option.some.inj hi ▸ hd 92
  | 93, hi => Option.some.inj hi ▸ hd 93
  | 94, hi => Option.some.inj hi ▸ hd 94
  | 95, hi => Option.some.inj hi ▸ hd 95
  | 96, hi => Option.some.inj hi ▸ hd 96
  | 97, hi => Option.some.inj hi ▸ hd 97
  | 98, hi => Option.some.inj hi ▸ hd 98
  | 99, hi => Option.some.inj hi ▸ hd 99
  | 100, hi => Option.some.inj hi ▸ hd 100
  | 101, hi => Option.some.inj hi ▸ hd 101
  | 102, hi => Option.some.inj hi ▸ hd 102
  | 103, hi => Option.some.inj hi ▸ hd 103
  | 104, hi => Option.some.inj hi ▸ hd 104
  | 105, hi => Option.some.inj hi ▸ hd 105
  | 106, hi => Option.some.inj hi ▸ hd 106
  | 107, hi => Option.some.inj hi ▸ hd 107
  | 108, hi => Option.some.inj hi ▸ hd 108
  | 109, hi => Option.some.inj hi ▸ hd 109
  | 110, hi => Option.some.inj hi ▸ hd 110
  | 111, hi => Option.some.inj hi ▸ hd 111
  | 112, hi => Option.some.inj hi ▸ hd 112
  | 113, hi => Option.some.inj hi ▸ hd 113
  | 114, hi => Option.some.inj hi ▸ hd 114
  | 115, hi => Option.some.inj hi ▸ hd 115
  | 116, hi => Option.some.inj hi ▸ hd 116
  | 117, hi => Option.some.inj hi ▸ hd 117
  | 118, hi => Option.some.inj hi ▸ hd 118
  | 119, hi => Option.some.inj hi ▸ hd 119
  | 120, hi => Option.some.inj hi ▸ hd 120
  | 121, hi => Option.some.inj hi ▸ hd 121
  | 122, hi => Option.some.inj hi ▸ hd 122
  | 123, hi => Option.some.inj hi ▸ hd 123
  | 124, hi => Option.some.inj hi ▸ hd 124
  | 125, hi => Option.some.inj hi ▸ hd 125
  | 126, hi => Option.some.inj hi ▸ hd 126
  | 127, hi => Option.some.inj hi ▸ hd 127
  | 128, hi => Option.some.inj hi ▸ hd 128
  | 129, hi => Option.some.inj hi ▸ hd 129
  | 130, hi => Option.some.inj hi ▸ hd 130
  | 131, hi => Option.some.inj hi ▸ hd 131
  | 132, hi => Option.some.inj hi ▸ hd 132
  | 133, hi => Option.some.inj hi ▸ hd 133
  | 134, hi => Option.some.inj hi ▸ hd 134
  | 135, hi => Option.some.inj hi ▸ hd 135
  | 136, hi => Option.some.inj hi ▸ hd 136
  | 137, hi => Option.some.inj hi ▸ hd 137
  | n + 138, hi => nomatch (show none = some v from hi)
theorem he125_ok {ρ : Rho} {o : Nat} {d : Nat → V} {tm : Array Value} (hs : tm.size = 138) (h6 : E ρ (.ptr 0 0) (tm.getD 6 undef)) (h7 : E ρ (.ptr o 0) (tm.getD 7 undef)) (hd : ∀ i, E ρ (d i) (tm.getD i undef)) :
    FrE ρ (frL (he125 o d)) tm := frL_ok (by rw [hs]; rfl) fun i v hi => match i, hi with
  | 0, hi => Option.some.inj hi ▸ hd 0
  | 1, hi => Option.some.inj hi ▸ hd 1
  | 2, hi => Option.some.inj hi ▸ hd 2
  | 3, hi => Option.some.inj hi ▸ hd 3
  | 4, hi => Option.some.inj hi ▸ hd 4
  | 5, hi => Option.some.inj hi ▸ hd 5
  | 6, hi => Option.some.inj hi ▸ h6
  | 7, hi => Option.some.inj hi ▸ h7
  | 8, hi => Option.some.inj hi ▸ hd 8
  | 9, hi => Option.some.inj hi ▸ hd 9
  | 10, hi => Option.some.inj hi ▸ hd 10
  | 11, hi => Option.some.inj hi ▸ hd 11
  | 12, hi => Option.some.inj hi ▸ hd 12
  | 13, hi => Option.some.inj hi ▸ hd 13
  | 14, hi => Option.some.inj hi ▸ hd 14
  | 15, hi => Option.some.inj hi ▸ hd 15
  | 16, hi => Option.some.inj hi ▸ hd 16
  | 17, hi => Option.some.inj hi ▸ hd 17
  | 18, hi => Option.some.inj hi ▸ hd 18
  | 19, hi => Option.some.inj hi ▸ hd 19
  | 20, hi => Option.some.inj hi ▸ hd 20
  | 21, hi => Option.some.inj hi ▸ hd 21
  | 22, hi => Option.some.inj hi ▸ hd 22
  | 23, hi => Option.some.inj hi ▸ hd 23
  | 24, hi => Option.some.inj hi ▸ hd 24
  | 25, hi => Option.some.inj hi ▸ hd 25
  | 26, hi => Option.some.inj hi ▸ hd 26
  | 27, hi => Option.some.inj hi ▸ hd 27
  | 28, hi => Option.some.inj hi ▸ hd 28
  | 29, hi => Option.some.inj hi ▸ hd 29
  | 30, hi => Option.some.inj hi ▸ hd 30
  | 31, hi => Option.some.inj hi ▸ hd 31
  | 32, hi => Option.some.inj hi ▸ hd 32
  | 33, hi => Option.some.inj hi ▸ hd 33
  | 34, hi => Option.some.inj hi ▸ hd 34
  | 35, hi => Option.some.inj hi ▸ hd 35
  | 36, hi => Option.some.inj hi ▸ hd 36
  | 37, hi => Option.some.inj hi ▸ hd 37
  | 38, hi => Option.some.inj hi ▸ hd 38
  | 39, hi => Option.some.inj hi ▸ hd 39
  | 40, hi => Option.some.inj hi ▸ hd 40
  | 41, hi => Option.some.inj hi ▸ hd 41
  | 42, hi => Option.some.inj hi ▸ hd 42
  | 43, hi => Option.some.inj hi ▸ hd 43
  | 44, hi => Option.some.inj hi ▸ hd 44
  | 45, hi => Option.some.inj hi ▸ hd 45
  | 46, hi => Option.some.inj hi ▸ hd 46
  | 47, hi => Option.some.inj hi ▸ hd 47
  | 48, hi => Option.some.inj hi ▸ hd 48
  | 49, hi => Option.some.inj hi ▸ hd 49
  | 50, hi => Option.some.inj hi ▸ hd 50
  | 51, hi => Option.some.inj hi ▸ hd 51
  | 52, hi => Option.some.inj hi ▸ hd 52
  | 53, hi => Option.some.inj hi ▸ hd 53
  | 54, hi => Option.some.inj hi ▸ hd 54
  | 55, hi => Option.some.inj hi ▸ hd 55
  | 56, hi => Option.some.inj hi ▸ hd 56
  | 57, hi => Option.some.inj hi ▸ hd 57
  | 58, hi => Option.some.inj hi ▸ hd 58
  | 59, hi => Option.some.inj hi ▸ hd 59
  | 60, hi => Option.some.inj hi ▸ hd 60
  | 61, hi => Option.some.inj hi ▸ hd 61
  | 62, hi => Option.some.inj hi ▸ hd 62
  | 63, hi => Option.some.inj hi ▸ hd 63
  | 64, hi => Option.some.inj hi ▸ hd 64
  | 65, hi => Option.some.inj hi ▸ hd 65
  | 66, hi => Option.some.inj hi ▸ hd 66
  | 67, hi => Option.some.inj hi ▸ hd 67
  | 68, hi => Option.some.inj hi ▸ hd 68
  | 69, hi => Option.some.inj hi ▸ hd 69
  | 70, hi => Option.some.inj hi ▸ hd 70
  | 71, hi => Option.some.inj hi ▸ hd 71
  | 72, hi => Option.some.inj hi ▸ hd 72
  | 73, hi => Option.some.inj hi ▸ hd 73
  | 74, hi => Option.some.inj hi ▸ hd 74
  | 75, hi => Option.some.inj hi ▸ hd 75
  | 76, hi => Option.some.inj hi ▸ hd 76
  | 77, hi => Option.some.inj hi ▸ hd 77
  | 78, hi => Option.some.inj hi ▸ hd 78
  | 79, hi => Option.some.inj hi ▸ hd 79
  | 80, hi => Option.some.inj hi ▸ hd 80
  | 81, hi => Option.some.inj hi ▸ hd 81
  | 82, hi => Option.some.inj hi ▸ hd 82
  | 83, hi => Option.some.inj hi ▸ hd 83
  | 84, hi => Option.some.inj hi ▸ hd 84
  | 85, hi => Option.some.inj hi ▸ hd 85
  | 86, hi => Option.some.inj hi ▸ hd 86
  | 87, hi => Option.some.inj hi ▸ hd 87
  | 88, hi => Option.some.inj hi ▸ hd 88
  | 89, hi => Option.some.inj hi ▸ hd 89
  | 90, hi => Option.some.inj hi ▸ hd 90
  | 91, hi => Option.some.inj hi ▸ hd 91
  | 92, hi => Option.some.inj hi ▸ hd 92
  | 93, hi => Option.some.inj hi ▸ hd 93
  | 94, hi => Option.some.inj hi ▸ hd 94
  | 95, hi => Option.some.inj hi ▸ hd 95
  | 96, hi => Option.some.inj hi ▸ hd 96
  | 97, hi => Option.some.inj hi ▸ hd 97
  | 98, hi => Option.some.inj hi ▸ hd 98
  | 99, hi => Option.some.inj hi ▸ hd 99
  | 100, hi => Option.some.inj hi ▸ hd 100
  | 101, hi => Option.some.inj hi ▸ hd 101
  | 102, hi => Option.some.inj hi ▸ hd 102
  | 103, hi => Option.some.inj hi ▸ hd 103
  | 104, hi => Option.some.inj hi ▸ hd 104
  | 105, hi => Option.some.inj hi ▸ hd 105
  | 106, hi => Option.some.inj hi ▸ hd 106
  | 107, hi => Option.some.inj hi ▸ hd 107
  | 108, hi => Option.some.inj hi ▸ hd 108
  | 109, hi => Option.some.inj hi ▸ hd 109
  | 110, hi => Option.some.inj hi ▸ hd 110
  | 111, hi => Option.some.inj hi ▸ hd 111
  | 112, hi => Option.some.inj hi ▸ hd 112
  | 113, hi => Option.some.inj hi ▸ hd 113
  | 114, hi => Option.some.inj hi ▸ hd 114
  | 115, hi => Option.some.inj hi ▸ hd 115
  | 116, hi => Option.some.inj hi ▸ hd 116
  | 117, hi => Option.some.inj hi ▸ hd 117
  | 118, hi => Option.some.inj hi ▸ hd 118
  | 119, hi => Option.some.inj hi ▸ hd 119
  | 120, hi => Option.some.inj hi ▸ hd 120
  | 121, hi => Option.some.inj hi ▸ hd 121
  | 122, hi => Option.some.inj hi ▸ hd 122
  | 123, hi => Option.some.inj hi ▸ hd 123
  | 124, hi => Option.some.inj hi ▸ hd 124
  | 125, hi => Option.some.inj hi ▸ hd 125
  | 126, hi => Option.some.inj hi ▸ hd 126
  | 127, hi => Option.some.inj hi ▸ hd 127
  | 128, hi => Option.some.inj hi ▸ hd 128
  | 129, hi => Option.some.inj hi ▸ hd 129
  | 130, hi => Option.some.inj hi ▸ hd 130
  | 131, hi => Option.some.inj hi ▸ hd 131
  | 132, hi => Option.some.inj hi ▸ hd 132
  | 133, hi => Option.some.inj hi ▸ hd 133
  | 134, hi => Option.some.inj hi ▸ hd 134
  | 135, hi => Option.some.inj hi ▸ hd 135
  | 136, hi => Option.some.inj hi ▸ hd 136
  | 137, hi => Option.some.inj hi ▸ hd 137
  | n + 138, hi => nomatch (show none = some v from hi)
end Go.Proofs.YtilfiadkhohfiaaGreatDoor
