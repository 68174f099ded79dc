/- Layer 2: joins of finds. -/
import Derived.Test.YtilfiadkhohfiaaGreatDoorPz
/- Layer 2: joins of finds, in runs. -/
set_option linter.unusedVariables false
namespace Go.Proofs.YtilfiadkhohfiaaGreatDoor
set_option linter.unusedSimpArgs false
set_option linter.unusedVariables false
open Go Go.RowKit Go.Clo
noncomputable section
/-- The slots at the loop's head. -/
def hd14 (k : Int) (d : Nat → V) : List V := [d 0, d 1, d 2, .ptr 3 0, .ptr 4 0, d 5, d 6, .ptr 5 0, d 8, d 9, d 10, d 11, d 12, d 13, d 14, d 15, d 16, d 17, d 18, d 19, d 20, d 21, d 22, d 23, d 24, d 25, d 26, d 27, d 28, d 29, d 30, d 31, d 32, d 33, d 34, d 35, d 36, d 37, d 38, d 39, d 40, d 41, d 42, d 43, d 44, d 45, d 46, d 47, d 48, d 49, d 50, d 51, d 52, d 53, d 54, d 55, d 56, d 57, d 58, d 59, d 60, d 61, d 62, d 63, d 64, d 65, d 66, d 67, d 68, d 69, d 70, d 71, d 72, d 73, d 74, d 75, d 76, d 77, d 78, d 79, d 80, d 81, d 82, d 83, d 84, d 85, d 86, d 87, d 88, d 89, d 90, d 91, d 92, d 93, d 94, d 95, d 96, d 97, d 98, d 99, d 100, d 101, d 102, d 103, d 104, d 105, d 106, d 107, d 108, d 109, d 110, d 111, d 112, d 113, d 114, d 115, d 116, d 117, d 118, d 119, d 120, d 121, d 122, d 123, d 124, d 125, d 126, d 127, d 128, d 129, d 130, d 131, d 132, d 133, d 134, d 135, d 136, i64 k, d 138, d 139, d 140, d 141, d 142, d 143, d 144, d 145, d 146, d 147, d 148, d 149, d 150, d 151, d 152, d 153, d 154, d 155, d 156, d 157, d 158, d 159, d 160, d 161, d 162, d 163, d 164, d 165, d 166, d 167, d 168, d 169, d 170, d 171, d 172, d 173, d 174, d 175, d 176, d 177, d 178, d 179, d 180, d 181, d 182, d 183, d 184, d 185, d 186, d 187, d 188, d 189, d 190, d 191, d 192, d 193, d 194, d 195, d 196, d 197, d 198, d 199, d 200, d 201, d 202, d 203, d 204, d 205, d 206, d 207, d 208, d 209, d 210, d 211, d 212, d 213, d 214]
abbrev Rnd := Option (Option (Ex × Nat × List V))
def rnd14 (x : Ex) (t : Fr) (s : St) : Option (Ex × Nat × List V) := match x with
  | .ret => none
  | x => some (x, t.n, [t.get 3, t.get 4, t.get 7, t.get 137])
def vf72 (f : FuncId) (s : St) : List (Option Blk) := [s.get 0, s.get 1, s.get 2]
def tb72 (x y z : V) : Tb := fun f => cond (Nat.beq f 72) (some fun _ n => (cond (Nat.beq n 6) x (cond (Nat.beq n 7) y z), none)) none
def st6 (la lb lp a b p : List V) : St := ((((((⟨.nil, 0⟩ : St).alloc (.ro la)).alloc (.ro lb)).alloc (.ro lp)).alloc (.ro a)).alloc (.ro b)).alloc (.ro p)
def leaf14 (x : Ex) (k : Int) : Rnd := some (some (x, 215, [.ptr 3 0, .ptr 4 0, .ptr 5 0, i64 k]))
def chk14 (lz hz : Int) (iz : Bool) (lo hi : Int) (ok : Rnd) : Rnd :=
  cond (!iz) (some none) (cond (intLt hi lo) (some none) (cond (!intBeq lz lo) (some none) (cond (intLt hz hi) (some none) (cond (intLt (fit .i64 (Int.add hi 1)) hz) (some none) ok))))
def rndT (gx gy gz : Bool) (lx hx ly hy lz hz : Int) (ix iy iz : Bool) (k : Int) : Rnd :=
  let ok : Rnd := leaf14 .normal (fit .i64 (Int.add k 1))
  let rest : Rnd := cond (!ix) (chk14 lz hz iz ly hy ok) (cond iy (chk14 lz hz iz (loA lx ly) (hiA hx hy) ok) (chk14 lz hz iz lx hx ok))
  cond (intLt k 16) (cond gx (cond gy (cond gz (cond (!ix) (cond (!iy) (cond iz (some none) ok) rest) rest) none) none) none) (leaf14 (.exit 0) k)
end
set_option maxRecDepth 100000
section
variable (W0 : World) (c c' c'' : List V) (k : Int) (d : Nat → V) (ma mb mp : V) (no el sd : Int) (a b d e : Nat) (lo hi sex wear layer square : Int) (no' el' sd' : Int) (a' b' d' e' : Nat) (lo' hi' sex' wear' layer' square' : Int) (no2 el2 sd2 : Int) (a2 b2 d2 e2 : Nat) (lo2 hi2 sex2 wear2 layer2 square2 : Int) (lx hx ly hy lz hz : Int) (ix iy iz : Bool) (dd : Nat → V)
theorem rr14 : codeG Tryz.prog (semN Tryz.prog W0 vf72 (tb72 (spanT lx hx ix) (spanT ly hy iy) (spanT lz hz iz))) 60 body14 (frL (hd14 k dd)) (st6 c c' c'' (finL no el sd a b d e ma lo hi sex wear layer square) (finL no' el' sd' a' b' d' e' mb lo' hi' sex' wear' layer' square') (finL no2 el2 sd2 a2 b2 d2 e2 mp lo2 hi2 sex2 wear2 layer2 square2)) rnd14 = rndT (goodN Tryz.prog W0 vf72 72 [.agg (finL no el sd a b d e ma lo hi sex wear layer square), i64 k] [some (.ro c), some (.ro c'), some (.ro c'')] 0 (spanT lx hx ix) none) (goodN Tryz.prog W0 vf72 72 [.agg (finL no' el' sd' a' b' d' e' mb lo' hi' sex' wear' layer' square'), i64 k] [some (.ro c), some (.ro c'), some (.ro c'')] 0 (spanT ly hy iy) none) (goodN Tryz.prog W0 vf72 72 [.agg (finL no2 el2 sd2 a2 b2 d2 e2 mp lo2 hi2 sex2 wear2 layer2 square2), i64 k] [some (.ro c), some (.ro c'), some (.ro c'')] 0 (spanT lz hz iz) none) lx hx ly hy lz hz ix iy iz k := by kernel_rfl
theorem rr14A : codeA Tryz.prog (semN Tryz.prog W0 vf72 (tb72 (spanT lx hx ix) (spanT ly hy iy) (spanT lz hz iz))) 60 body14 (frL (hd14 k dd)) (st6 c c' c'' (finL no el sd a b d e ma lo hi sex wear layer square) (finL no' el' sd' a' b' d' e' mb lo' hi' sex' wear' layer' square') (finL no2 el2 sd2 a2 b2 d2 e2 mp lo2 hi2 sex2 wear2 layer2 square2)) false = codeA Tryz.prog (semN Tryz.prog W0 vf72 (tb72 (spanT lx hx ix) (spanT ly hy iy) (spanT lz hz iz))) 60 body14 (frL (hd14 k dd)) (st6 c c' c'' (finL no el sd a b d e ma lo hi sex wear layer square) (finL no' el' sd' a' b' d' e' mb lo' hi' sex' wear' layer' square') (finL no2 el2 sd2 a2 b2 d2 e2 mp lo2 hi2 sex2 wear2 layer2 square2)) true := by kernel_rfl
end
theorem hd14_ok {ρ : Rho} {k : Int} {d : Nat → V} {tm : Array Value} (hs : tm.size = 215) (h3 : E ρ (.ptr 3 0) (tm.getD 3 undef)) (h4 : E ρ (.ptr 4 0) (tm.getD 4 undef)) (h7 : E ρ (.ptr 5 0) (tm.getD 7 undef)) (hk : E ρ (i64 k) (tm.getD 137 undef)) (hd : ∀ i, E ρ (d i) (tm.getD i undef)) :
    FrE ρ (frL (hd14 k d)) tm := frL_ok (by rw [hs]; rfl) fun i v hi => match i, hi with
  | 0, hi => Option.some.inj hi ▸ hd 0
  | 1, hi => Option.some.inj hi ▸ hd 1
  | 2, hi => Option.some.inj hi ▸ hd 2
  | 3, hi => Option.some.inj hi ▸ h3
  | 4, hi => Option.some.inj hi ▸ h4
  | 5, hi => Option.some.inj hi ▸ hd 5
  | 6, hi => Option.some.inj hi ▸ hd 6
  | 7, hi => Option.some.inj hi ▸ h7
  | 8, hi => Option.some.inj hi ▸ hd 8
  | 9, hi => Option.some.inj hi ▸ hd 9
  | 10, hi => Option.some.inj hi ▸ hd 10
  | 11, hi => Option.some.inj hi ▸ hd 11
  | 12, hi => Option.some.inj hi ▸ hd 12
  | 13, hi => Option.some.inj hi ▸ hd 13
  | 14, hi => Option.some.inj hi ▸ hd 14
  | 15, hi => Option.some.inj hi ▸ hd 15
  | 16, hi => Option.some.inj hi ▸ hd 16
  | 17, hi => Option.some.inj hi ▸ hd 17
  | 18, hi => Option.some.inj hi ▸ hd 18
  | 19, hi => Option.some.inj hi ▸ hd 19
  | 20, hi => Option.some.inj hi ▸ hd 20
  | 21, hi => Option.some.inj hi ▸ hd 21
  | 22, hi => Option.some.inj hi ▸ hd 22
  | 23, hi => Option.some.inj hi ▸ hd 23
  | 24, hi => Option.some.inj hi ▸ hd 24
  | 25, hi => Option.some.inj hi ▸ hd 25
  | 26, hi => Option.some.inj hi ▸ hd 26
  | 27, hi => Option.some.inj hi ▸ hd 27
  | 28, hi => Option.some.inj hi ▸ hd 28
  | 29, hi => Option.some.inj hi ▸ hd 29
  | 30, hi => Option.some.inj hi ▸ hd 30
  | 31, hi => Option.some.inj hi ▸ hd 31
  | 32, hi => Option.some.inj hi ▸ hd 32
  | 33, hi => Option.some.inj hi ▸ hd 33
  | 34, hi => Option.some.inj hi ▸ hd 34
  | 35, hi => Option.some.inj hi ▸ hd 35
  | 36, hi => Option.some.inj hi ▸ hd 36
  | 37, hi => Option.some.inj hi ▸ hd 37
  | 38, hi => Option.some.inj hi ▸ hd 38
  | 39, hi => Option.some.inj hi ▸ hd 39
  | 40, hi => Option.some.inj hi ▸ hd 40
  | 41, hi => Option.some.inj hi ▸ hd 41
  | 42, hi => Option.some.inj hi ▸ hd 42
  | 43, hi => Option.some.inj hi ▸ hd 43
  | 44, hi => Option.some.inj hi ▸ hd 44
  | 45, hi => Option.some.inj hi ▸ hd 45
  | 46, hi => Option.some.inj hi ▸ hd 46
  | 47, hi => Option.some.inj hi ▸ hd 47
  | 48, hi => Option.some.inj hi ▸ hd 48
  | 49, hi => Option.some.inj hi ▸ hd 49
  | 50, hi => Option.some.inj hi ▸ hd 50
  | 51, hi => Option.some.inj hi ▸ hd 51
  | 52, hi => Option.some.inj hi ▸ hd 52
  | 53, hi => Option.some.inj hi ▸ hd 53
  | 54, hi => Option.some.inj hi ▸ hd 54
  | 55, hi => Option.some.inj hi ▸ hd 55
  | 56, hi => Option.some.inj hi ▸ hd 56
  | 57, hi => Option.some.inj hi ▸ hd 57
  | 58, hi => Option.some.inj hi ▸ hd 58
  | 59, hi => Option.some.inj hi ▸ hd 59
  | 60, hi => Option.some.inj hi ▸ hd 60
  | 61, hi => Option.some.inj hi ▸ hd 61
  | 62, hi => Option.some.inj hi ▸ hd 62
  | 63, hi => Option.some.inj hi ▸ hd 63
  | 64, hi => Option.some.inj hi ▸ hd 64
  | 65, hi => Option.some.inj hi ▸ hd 65
  | 66, hi => Option.some.inj hi ▸ hd 66
  | 67, hi => Option.some.inj hi ▸ hd 67
  | 68, hi => Option.some.inj hi ▸ hd 68
  | 69, hi => Option.some.inj hi ▸ hd 69
  | 70, hi => Option.some.inj hi ▸ hd 70
  | 71, hi => Option.some.inj hi ▸ hd 71
  | 72, hi => Option.some.inj hi ▸ hd 72
  | 73, hi => Option.some.inj hi ▸ hd 73
  | 74, hi => Option.some.inj hi ▸ hd 74
  | 75, hi => Option.some.inj hi ▸ hd 75
  | 76, hi => Option.some.inj hi ▸ hd 76
  | 77, hi => Option.some.inj hi ▸ hd 77
  | 78, hi => Option.some.inj hi ▸ hd 78
  | 79, hi => Option.some.inj hi ▸ hd 79
  | 80, hi => Option.some.inj hi ▸ hd 80
  | 81, hi => Option.some.inj hi ▸ hd 81
  | 82, hi => Option.some.inj hi ▸ hd 82
  | 83, hi => Option.some.inj hi ▸ hd 83
  | 84, hi => Option.some.inj hi ▸ hd 84
  | 85, hi => Option.some.inj hi ▸ hd 85
  | 86, hi => Option.some.inj hi ▸ hd 86
  | 87, hi => Option.some.inj hi ▸ hd 87
  | 88, hi => Option.some.inj hi ▸ hd 88
  | 89, hi => Option.some.inj hi ▸ hd 89
  | 90, hi => Option.some.inj hi ▸ hd 90
  | 91, hi => Option.some.inj hi ▸ hd 91
  | 92, hi => Option.some.inj hi ▸ hd 92
  | 93, hi => Option.some.inj hi ▸ hd 93
  | 94, hi => Option.some.inj hi ▸ hd 94
  | 95, hi => Option.some.inj hi ▸ hd 95
  | 96, hi => Option.some.inj hi ▸ hd 96
  | 97, hi => Option.some.inj hi ▸ hd 97
  | 98, hi => Option.some.inj hi ▸ hd 98
  | 99, hi => Option.some.inj hi ▸ hd 99
  | 100, hi => Option.some.inj hi ▸ hd 100
  | 101, hi => Option.some.inj hi ▸ hd 101
  | 102, hi => Option.some.inj hi ▸ hd 102
  | 103, hi => Option.some.inj hi ▸ hd 103
  | 104, hi => Option.some.inj hi ▸ hd 104
  | 105, hi => Option.some.inj hi ▸ hd 105
  | 106, hi => Option.some.inj hi ▸ hd 106
  | 107, hi => Option.some.inj hi ▸ hd 107
  | 108, hi => Option.some.inj hi ▸ hd 108
  | 109, hi => Option.some.inj hi ▸ hd 109
  | 110, hi => Option.some.inj hi ▸ hd 110
  | 111, hi => Option.some.inj hi ▸ hd 111
  | 112, hi => Option.some.inj hi ▸ hd 112
  | 113, hi => Option.some.inj hi ▸ hd 113
  | 114, hi => Option.some.inj hi ▸ hd 114
  | 115, hi => Option.some.inj hi ▸ hd 115
  | 116, hi => Option.some.inj hi ▸ hd 116
  | 117, hi => Option.some.inj hi ▸ hd 117
  | 118, hi => Option.some.inj hi ▸ hd 118
  | 119, hi => Option.some.inj hi ▸ hd 119
  | 120, hi => Option.some.inj hi ▸ hd 120
  | 121, hi => Option.some.inj hi ▸ hd 121
  | 122, hi => Option.some.inj hi ▸ hd 122
  | 123, hi => Option.some.inj hi ▸ hd 123
  | 124, hi => Option.some.inj hi ▸ hd 124
  | 125, hi => Option.some.inj hi ▸ hd 125
  | 126, hi => Option.some.inj hi ▸ hd 126
  | 127, hi => Option.some.inj hi ▸ hd 127
  | 128, hi => Option.some.inj hi ▸ hd 128
  | 129, hi => Option.some.inj hi ▸ hd 129
  | 130, hi => Option.some.inj hi ▸ hd 130
  | 131, hi => Option.some.inj hi ▸ hd 131
  | 132, hi => Option.some.inj hi ▸ hd 132
  | 133, hi => Option.some.inj hi ▸ hd 133
  | 134, hi => Option.some.inj hi ▸ hd 134
  | 135, hi => Option.some.inj hi ▸ hd 135
  | 136, hi => Option.some.inj hi ▸ hd 136
  | 137, hi => Option.some.inj hi ▸ hk
  | 138, hi => Option.some.inj hi ▸ hd 138
  | 139, hi => Option.some.inj hi ▸ hd 139
  | 140, hi => Option.some.inj hi ▸ hd 140
  | 141, hi => Option.some.inj hi ▸ hd 141
  | 142, hi => Option.some.inj hi ▸ hd 142
  | 143, hi => Option.some.inj hi ▸ hd 143
  | 144, hi => Option.some.inj hi ▸ hd 144
  | 145, hi => Option.some.inj hi ▸ hd 145
  | 146, hi => Option.some.inj hi ▸ hd 146
  | 147, hi => Option.some.inj hi ▸ hd 147
  | 148, hi => Option.some.inj hi ▸ hd 148
  | 149, hi => Option.some.inj hi ▸ hd 149
  | 150, hi => Option.some.inj hi ▸ hd 150
  | 151, hi => Option.some.inj hi ▸ hd 151
  | 152, hi => Option.some.inj hi ▸ hd 152
  | 153, hi => Option.some.inj hi ▸ hd 153
  | 154, hi => Option.some.inj hi ▸ hd 154
  | 155, hi => Option.some.inj hi ▸ hd 155
  | 156, hi => Option.some.inj hi ▸ hd 156
  | 157, hi => Option.some.inj hi ▸ hd 157
  | 158, hi => Option.some.inj hi ▸ hd 158
  | 159, hi => Option.some.inj hi ▸ hd 159
  | 160, hi => Option.some.inj hi ▸ hd 160
  | 161, hi => Option.some.inj hi ▸ hd 161
  | 162, hi => Option.some.inj hi ▸ hd 162
  | 163, hi => Option.some.inj hi ▸ hd 163
  | 164, hi => Option.some.inj hi ▸ hd 164
  | 165, hi => Option.some.inj hi ▸ hd 165
  | 166, hi => Option.some.inj hi ▸ hd 166
  | 167, hi => Option.some.inj hi ▸ hd 167
  | 168, hi => Option.some.inj hi ▸ hd 168
  | 169, hi => Option.some.inj hi ▸ hd 169
  | 170, hi => Option.some.inj hi ▸ hd 170
  | 171, hi => Option.some.inj hi ▸ hd 171
  | 172, hi => Option.some.inj hi ▸ hd 172
  | 173, hi => Option.some.inj hi ▸ hd 173
  | 174, hi => Option.some.inj hi ▸ hd 174
  | 175, hi => Option.some.inj hi ▸ hd 175
  | 176, hi => Option.some.inj hi ▸ hd 176
  | 177, hi => Option.some.inj hi ▸ hd 177
  | 178, hi => Option.some.inj hi ▸ hd 178
  | 179, hi => Option.some.inj hi ▸ hd 179
  | 180, hi => Option.some.inj hi ▸ hd 180
  | 181, hi => Option.some.inj hi ▸ hd 181
  | 182, hi => Option.some.inj hi ▸ hd 182
  | 183, hi => Option.some.inj hi ▸ hd 183
  | 184, hi => Option.some.inj hi ▸ hd 184
  | 185, hi => Option.some.inj hi ▸ hd 185
  | 186, hi => Option.some.inj hi ▸ hd 186
  | 187, hi => Option.some.inj hi ▸ hd 187
  | 188, hi => Option.some.inj hi ▸ hd 188
  | 189, hi => Option.some.inj hi ▸ hd 189
  | 190, hi => Option.some.inj hi ▸ hd 190
  | 191, hi => Option.some.inj hi ▸ hd 191
  | 192, hi => Option.some.inj hi ▸ hd 192
  | 193, hi => Option.some.inj hi ▸ hd 193
  | 194, hi => Option.some.inj hi ▸ hd 194
  | 195, hi => Option.some.inj hi ▸ hd 195
  | 196, hi => Option.some.inj hi ▸ hd 196
  | 197, hi => Option.some.inj hi ▸ hd 197
  | 198, hi => Option.some.inj hi ▸ hd 198
  | 199, hi => Option.some.inj hi ▸ hd 199
  | 200, hi => Option.some.inj hi ▸ hd 200
  | 201, hi => Option.some.inj hi ▸ hd 201
  | 202, hi => Option.some.inj hi ▸ hd 202
  | 203, hi => Option.some.inj hi ▸ hd 203
  | 204, hi => Option.some.inj hi ▸ hd 204
  | 205, hi => Option.some.inj hi ▸ hd 205
  | 206, hi => Option.some.inj hi ▸ hd 206
  | 207, hi => Option.some.inj hi ▸ hd 207
  | 208, hi => Option.some.inj hi ▸ hd 208
  | 209, hi => Option.some.inj hi ▸ hd 209
  | 210, hi => Option.some.inj hi ▸ hd 210
  | 211, hi => Option.some.inj hi ▸ hd 211
  | 212, hi => Option.some.inj hi ▸ hd 212
  | 213, hi => Option.some.inj hi ▸ hd 213
  | 214, hi => Option.some.inj hi ▸ hd 214
  | n + 215, hi => nomatch (show none = some v from hi)
end Go.Proofs.YtilfiadkhohfiaaGreatDoor
/- Layer 2: joins of finds, in runs. -/
set_option linter.unusedVariables false
set_option maxRecDepth 100000
namespace Go.Proofs.YtilfiadkhohfiaaGreatDoor
set_option linter.unusedSimpArgs false
set_option linter.unusedVariables false
open Go Go.RowKit Go.Clo

theorem chk14_ok {lz hz lo hi : Int} {ok : Rnd} (h1 : lo ≤ hi) (h2 : lz = lo) (h3 : hi ≤ hz) (h4 : hz ≤ hi + 1) (h5 : -9223372036854775808 ≤ hi + 1 ∧ hi + 1 ≤ 9223372036854775807) : chk14 lz hz true lo hi ok = ok := by
  unfold chk14
  have e1 : intLt hi lo = false := by rw [← Bool.not_eq_true, intLt_iff]; omega
  have e2 : intBeq lz lo = true := by rw [intBeq_iff]; exact h2
  have e3 : intLt hz hi = false := by rw [← Bool.not_eq_true, intLt_iff]; omega
  have e4 : intLt (fit .i64 (Int.add hi 1)) hz = false := by rw [show Int.add hi 1 = hi + 1 from rfl, fit_i64 h5, ← Bool.not_eq_true, intLt_iff]; omega
  rw [e1, e2, e3, e4]; rfl
/-- What is said of a kind in both lists. -/
def pairO (x y : Option Mea) : Option Mea := match y with
  | none => x
  | some m => match x with
    | none => some m
    | some x => some (bothM x m)
theorem rndT_eq {x y : Option Mea} {k : Int} (hx : ∀ m, x = some m → okV m) (hy : ∀ m, y = some m → okV m) (hb : ∀ a b, x = some a → y = some b → ¬ hiM a b < loM a b) :
    rndT true true true (spanL x) (spanH x) (spanL y) (spanH y) (spanL (pairO x y)) (spanH (pairO x y)) (spanB x) (spanB y) (spanB (pairO x y)) k = cond (intLt k 16) (leaf14 .normal (fit .i64 (Int.add k 1))) (leaf14 (.exit 0) k) := by
  unfold rndT
  cases x with
  | none =>
    cases y with
    | none => rfl
    | some b =>
      obtain ⟨b1, b2, b3, b4, b5, b6⟩ := hy b rfl
      have h := chk14_ok (lz := b.2.1 - b.2.2) (hz := b.2.1 + b.2.2) (lo := b.2.1 - b.2.2) (hi := b.2.1 + b.2.2) (ok := leaf14 .normal (fit .i64 (Int.add k 1))) (by omega) rfl (by omega) (by omega) (by omega)
      show cond (intLt k 16) (chk14 (b.2.1 - b.2.2) (b.2.1 + b.2.2) true (b.2.1 - b.2.2) (b.2.1 + b.2.2) (leaf14 .normal (fit .i64 (Int.add k 1)))) _ = _
      rw [h]
  | some a =>
    obtain ⟨a1, a2, a3, a4, a5, a6⟩ := hx a rfl
    cases y with
    | none =>
      have h := chk14_ok (lz := a.2.1 - a.2.2) (hz := a.2.1 + a.2.2) (lo := a.2.1 - a.2.2) (hi := a.2.1 + a.2.2) (ok := leaf14 .normal (fit .i64 (Int.add k 1))) (by omega) rfl (by omega) (by omega) (by omega)
      show cond (intLt k 16) (chk14 (a.2.1 - a.2.2) (a.2.1 + a.2.2) true (a.2.1 - a.2.2) (a.2.1 + a.2.2) (leaf14 .normal (fit .i64 (Int.add k 1)))) _ = _
      rw [h]
    | some b =>
      obtain ⟨b1, b2, b3, b4, b5, b6⟩ := hy b rfl
      have hn := hb a b rfl rfl
      have hs := span_bounds (hx a rfl) (hy b rfl)
      have elo : loA (a.2.1 - a.2.2) (b.2.1 - b.2.2) = loM a b := loA_eq _ _
      have ehi : hiA (a.2.1 + a.2.2) (b.2.1 + b.2.2) = hiM a b := hiA_eq _ _
      have h := chk14_ok (lz := (bothM a b).2.1 - (bothM a b).2.2) (hz := (bothM a b).2.1 + (bothM a b).2.2) (lo := loM a b) (hi := hiM a b) (ok := leaf14 .normal (fit .i64 (Int.add k 1))) (by omega) (by show loM a b + (hiM a b - loM a b + 1) / 2 - (hiM a b - loM a b + 1) / 2 = _; omega) (by show _ ≤ loM a b + (hiM a b - loM a b + 1) / 2 + (hiM a b - loM a b + 1) / 2; omega) (by show loM a b + (hiM a b - loM a b + 1) / 2 + (hiM a b - loM a b + 1) / 2 ≤ _; omega) (by omega)
      show cond (intLt k 16) (chk14 ((bothM a b).2.1 - (bothM a b).2.2) ((bothM a b).2.1 + (bothM a b).2.2) true (loA (a.2.1 - a.2.2) (b.2.1 - b.2.2)) (hiA (a.2.1 + a.2.2) (b.2.1 + b.2.2)) (leaf14 .normal (fit .i64 (Int.add k 1)))) _ = _
      rw [elo, ehi, h]
/-- The cells of a find. -/
def Fd.cs (f : Fd) (ms : Value) : List Value := finVs f.no f.el f.sd f.a f.b f.d f.e ms f.lo f.hi f.sex f.wear f.layer f.square
def Fd.vs (f : Fd) (mv : V) : List V := finL f.no f.el f.sd f.a f.b f.d f.e mv f.lo f.hi f.sex f.wear f.layer f.square
/-- A variable that holds a find. -/
def BoxF (w : World) (p : Value) (cs : List Value) : Prop := ∃ blk, p = .pointer (some ⟨blk, 0, none⟩) ∧ blk < w.heap.size ∧ ∀ (i : Nat) (u : Value), cs[i]? = some u → w.cell? ⟨blk, i, none⟩ = some u
theorem BoxF.below {w w' : World} {p : Value} {cs : List Value} (h : BoxF w p cs) (hb : Below w.heap.size w w') : BoxF w' p cs := by
  obtain ⟨blk, e, h1, h2⟩ := h
  exact ⟨blk, e, Nat.lt_of_lt_of_le h1 hb.size, fun i u hu => by rw [World.cell?_of_block (hb.block blk h1)]; exact h2 i u hu⟩
theorem BoxF.add {W : World} {ρ : Rho} {s : St} (hR : Rel W ρ s W) {p : Value} {cs : List Value} {vs : List V} (h : BoxF W p cs) (hE : EL ρ vs cs) : ∃ ρ', ρ.le ρ' ∧ Rel W ρ' (s.alloc (.ro vs)) W ∧ E ρ' (.ptr s.size 0) p := by
  obtain ⟨blk, rfl, h1, h2⟩ := h
  have hn : ρ s.size = none := hR.fresh _ (Nat.le_refl _)
  refine ⟨_, Rho.le_upd ⟨blk, 0, 0⟩ hn, hR.addRo (l := ⟨blk, 0, 0⟩) h1 fun i v hv => ?_, by simp only [E]; exact ⟨⟨blk, 0, 0⟩, Rho.upd_same _ _ _, rfl⟩⟩
  obtain ⟨u, hu, he⟩ := hE.at hv
  exact ⟨u, by rw [Nat.zero_add]; exact h2 i u hu, he⟩
theorem ptr_fun {ρ : Rho} {b o : Nat} {u u' : Value} (h : E ρ (.ptr b o) u) (h' : E ρ (.ptr b o) u') : u = u' := by
  simp only [E] at h h'
  obtain ⟨l, hl, rfl⟩ := h
  obtain ⟨l', hl', rfl⟩ := h'
  rw [hl] at hl'; injection hl' with hl'; rw [hl']
structure Head14 (tm : Array Value) (pa pb pp : Value) (j : Nat) : Prop where
  size : tm.size = 215
  h3 : tm.getD 3 undef = pa
  h4 : tm.getD 4 undef = pb
  h7 : tm.getD 7 undef = pp
  hk : tm.getD 137 undef = .int .i64 (j : Int)
theorem good72 {W : World} (hmix : Tryz.prog.follows .mixedOrders = true) (hs0 : 0 < W.heap.size) {f : Fd} (hf : f.OK) (hv : f.Valid) {i : Nat} {k : Int} {s : St} (hi : s.get i = some (.ro (meaC f.l))) :
    GoodM Tryz.prog W 72 [f.iv i, i64 k] s (spanT (spanL (getM f.l k)) (spanH (getM f.l k)) (spanB (getM f.l k))) s := GoodM.same fun ρ w us hR he => by
  obtain ⟨u, r, rfl, e1, h2⟩ := EL.cons_inv he
  obtain ⟨u', r', rfl, e2, h3⟩ := EL.cons_inv h2
  obtain rfl := EL.nil_inv h3
  obtain ⟨ms, rfl, hm⟩ := Fd.im_of e1
  obtain rfl := E_i64_inv e2
  refine ⟨_, ?_, span_calls hmix hf hv k ((meaAt_of hR hs0 hf.ho hi hm).below hR.below)⟩
  unfold spanT
  simp only [E]
  exact ⟨[_, _], rfl, EL.cons (by simp only [E]; exact ⟨[_, _], rfl, EL.cons (E_i64 _) (EL.cons (E_i64 _) EL.nil)⟩) (EL.cons (by simp only [E]) EL.nil)⟩
theorem getM_okV {l : List Mea} (h : ∀ x ∈ l, okV x) {k : Int} : ∀ m, getM l k = some m → okV m := fun m hm => h m (getM_mem hm)
theorem oneM_O (a b : List Mea) (k : Int) : oneM a b k = pairO (getM a k) (getM b k) := by
  unfold oneM pairO
  cases getM b k <;> cases getM a k <;> rfl
/-- A round of the law's loop. -/
theorem round14 (hmix : Tryz.prog.follows .mixedOrders = true) {w : World} {act : Act} {f g p : Fd} (hf : f.OK) (hg : g.OK) (hp : p.OK) (hvf : f.Valid) (hvg : g.Valid) (hvp : p.Valid) {msf msg msp pa pb pp : Value}
    (hmf : MeaAt w msf f.oc f.l) (hmg : MeaAt w msg g.oc g.l) (hmp : MeaAt w msp p.oc p.l) (hbf : BoxF w pa (f.cs msf)) (hbg : BoxF w pb (g.cs msg)) (hbp : BoxF w pp (p.cs msp))
    (hm : ∀ k, badM f.l g.l k = false ∧ getM p.l k = oneM f.l g.l k) {j : Nat} (hj : j ≤ 16) (hh : Head14 act.tmps pa pb pp j) (hd : act.defers = []) :
    body14.wp Tryz.prog (fun e a' w' => Below w.heap.size w w' ∧ a'.defers = [] ∧ ((j = 16 ∧ e = .exit 0 ∧ a'.tmps.size = 215) ∨ (j < 16 ∧ e = .normal ∧ Head14 a'.tmps pa pb pp (j + 1)))) act w := by
  have hs0 : 0 < w.heap.size := by
    obtain ⟨blk, _, h1, _⟩ := hbf
    omega
  obtain ⟨ρ1, _, hR1, ea⟩ := hmf.add (Rel.start' (Below.refl w.heap.size w))
  obtain ⟨ρ2, le2, hR2, eb⟩ := hmg.add hR1
  obtain ⟨ρ3, le3, hR3, ep⟩ := hmp.add hR2
  have ea : E ρ3 (mvOf 0 f.oc f.l) msf := E.mono (Rho.le_trans le2 le3) _ ea
  have eb : E ρ3 (mvOf 1 g.oc g.l) msg := E.mono le3 _ eb
  have ep : E ρ3 (mvOf 2 p.oc p.l) msp := ep
  obtain ⟨ρ4, le4, hR4, q3⟩ := hbf.add hR3 (vs := f.vs (mvOf 0 f.oc f.l)) (EL_fin ea)
  obtain ⟨ρ5, le5, hR5, q4⟩ := hbg.add hR4 (vs := g.vs (mvOf 1 g.oc g.l)) (EL_fin (E.mono le4 _ eb))
  obtain ⟨ρ6, le6, hR6, q7⟩ := hbp.add hR5 (vs := p.vs (mvOf 2 p.oc p.l)) (EL_fin (E.mono (Rho.le_trans le4 le5) _ ep))
  have q3 : E ρ6 (.ptr 3 0) pa := E.mono (Rho.le_trans le5 le6) _ q3
  have q4 : E ρ6 (.ptr 4 0) pb := E.mono le6 _ q4
  have q7 : E ρ6 (.ptr 5 0) pp := q7
  have hch : ∃ d : Nat → V, ∀ i, E ρ6 (d i) (act.tmps.getD i undef) := ⟨fun i => Classical.choose (E.some ρ6 (act.tmps.getD i undef)), fun i => Classical.choose_spec (E.some ρ6 (act.tmps.getD i undef))⟩
  obtain ⟨d, hdd⟩ := hch
  have hF : FrE ρ6 (frL (hd14 (j : Int) d)) act.tmps := hd14_ok hh.size (by rw [hh.h3]; exact q3) (by rw [hh.h4]; exact q4) (by rw [hh.h7]; exact q7) (by rw [hh.hk]; exact E_i64 _) hdd
  have hR6 : Rel w ρ6 (st6 (meaC f.l) (meaC g.l) (meaC p.l) (f.vs (mvOf 0 f.oc f.l)) (g.vs (mvOf 1 g.oc g.l)) (p.vs (mvOf 2 p.oc p.l))) w := hR6
  have hvw : ∀ {s : St}, vf72 72 s = [some (.ro (meaC f.l)), some (.ro (meaC g.l)), some (.ro (meaC p.l))] → s.get 0 = some (.ro (meaC f.l)) ∧ s.get 1 = some (.ro (meaC g.l)) ∧ s.get 2 = some (.ro (meaC p.l)) := fun {s} h => ⟨(List.cons.inj h).1, (List.cons.inj (List.cons.inj h).2).1, (List.cons.inj (List.cons.inj (List.cons.inj h).2).2).1⟩
  have gf : goodN Tryz.prog w vf72 72 [f.iv 0, i64 (j : Int)] [some (.ro (meaC f.l)), some (.ro (meaC g.l)), some (.ro (meaC p.l))] 0 (spanT (spanL (getM f.l j)) (spanH (getM f.l j)) (spanB (getM f.l j))) none = true := goodN_true fun s h _ => good72 hmix hs0 hf hvf (hvw h).1
  have gg : goodN Tryz.prog w vf72 72 [g.iv 1, i64 (j : Int)] [some (.ro (meaC f.l)), some (.ro (meaC g.l)), some (.ro (meaC p.l))] 0 (spanT (spanL (getM g.l j)) (spanH (getM g.l j)) (spanB (getM g.l j))) none = true := goodN_true fun s h _ => good72 hmix hs0 hg hvg (hvw h).2.1
  have gp : goodN Tryz.prog w vf72 72 [p.iv 2, i64 (j : Int)] [some (.ro (meaC f.l)), some (.ro (meaC g.l)), some (.ro (meaC p.l))] 0 (spanT (spanL (getM p.l j)) (spanH (getM p.l j)) (spanB (getM p.l j))) none = true := goodN_true fun s h _ => good72 hmix hs0 hp hvp (hvw h).2.2
  have hr := rr14 w (meaC f.l) (meaC g.l) (meaC p.l) (j : Int) (mvOf 0 f.oc f.l) (mvOf 1 g.oc g.l) (mvOf 2 p.oc p.l) f.no f.el f.sd f.a f.b f.d f.e f.lo f.hi f.sex f.wear f.layer f.square g.no g.el g.sd g.a g.b g.d g.e g.lo g.hi g.sex g.wear g.layer g.square p.no p.el p.sd p.a p.b p.d p.e p.lo p.hi p.sex p.wear p.layer p.square (spanL (getM f.l j)) (spanH (getM f.l j)) (spanL (getM g.l j)) (spanH (getM g.l j)) (spanL (getM p.l j)) (spanH (getM p.l j)) (spanB (getM f.l j)) (spanB (getM g.l j)) (spanB (getM p.l j)) d
  have hA := rr14A w (meaC f.l) (meaC g.l) (meaC p.l) (j : Int) (mvOf 0 f.oc f.l) (mvOf 1 g.oc g.l) (mvOf 2 p.oc p.l) f.no f.el f.sd f.a f.b f.d f.e f.lo f.hi f.sex f.wear f.layer f.square g.no g.el g.sd g.a g.b g.d g.e g.lo g.hi g.sex g.wear g.layer g.square p.no p.el p.sd p.a p.b p.d p.e p.lo p.hi p.sex p.wear p.layer p.square (spanL (getM f.l j)) (spanH (getM f.l j)) (spanL (getM g.l j)) (spanH (getM g.l j)) (spanL (getM p.l j)) (spanH (getM p.l j)) (spanB (getM f.l j)) (spanB (getM g.l j)) (spanB (getM p.l j)) d
  have hb := hm (j : Int)
  have ht := rndT_eq (k := (j : Int)) (getM_okV hvf.list.2.2 (k := (j : Int))) (getM_okV hvg.list.2.2 (k := (j : Int))) fun x y hx hy => by
    have := hb.1
    unfold badM at this
    rw [hx, hy] at this
    exact of_decide_eq_false this
  rw [← oneM_O, ← hb.2] at ht
  have hr2 : codeG Tryz.prog (semN Tryz.prog w vf72 (tb72 (spanT (spanL (getM f.l j)) (spanH (getM f.l j)) (spanB (getM f.l j))) (spanT (spanL (getM g.l j)) (spanH (getM g.l j)) (spanB (getM g.l j))) (spanT (spanL (getM p.l j)) (spanH (getM p.l j)) (spanB (getM p.l j))))) 60 body14 (frL (hd14 (j : Int) d)) (st6 (meaC f.l) (meaC g.l) (meaC p.l) (f.vs (mvOf 0 f.oc f.l)) (g.vs (mvOf 1 g.oc g.l)) (p.vs (mvOf 2 p.oc p.l))) rnd14 =
      rndT (goodN Tryz.prog w vf72 72 [f.iv 0, i64 (j : Int)] [some (.ro (meaC f.l)), some (.ro (meaC g.l)), some (.ro (meaC p.l))] 0 (spanT (spanL (getM f.l j)) (spanH (getM f.l j)) (spanB (getM f.l j))) none) (goodN Tryz.prog w vf72 72 [g.iv 1, i64 (j : Int)] [some (.ro (meaC f.l)), some (.ro (meaC g.l)), some (.ro (meaC p.l))] 0 (spanT (spanL (getM g.l j)) (spanH (getM g.l j)) (spanB (getM g.l j))) none) (goodN Tryz.prog w vf72 72 [p.iv 2, i64 (j : Int)] [some (.ro (meaC f.l)), some (.ro (meaC g.l)), some (.ro (meaC p.l))] 0 (spanT (spanL (getM p.l j)) (spanH (getM p.l j)) (spanB (getM p.l j))) none) (spanL (getM f.l j)) (spanH (getM f.l j)) (spanL (getM g.l j)) (spanH (getM g.l j)) (spanL (getM p.l j)) (spanH (getM p.l j)) (spanB (getM f.l j)) (spanB (getM g.l j)) (spanB (getM p.l j)) (j : Int) := hr
  rw [gf, gg, gp, ht] at hr2
  have noI : ∀ r, ¬ Img ρ6 (st6 (meaC f.l) (meaC g.l) (meaC p.l) (f.vs (mvOf 0 f.oc f.l)) (g.vs (mvOf 1 g.oc g.l)) (p.vs (mvOf 2 p.oc p.l))) r := noImg_alloc (noImg_alloc (noImg_alloc (noImg_alloc (noImg_alloc (noImg_alloc fun r ⟨b, x, l, hb, _⟩ => by cases hb)))))
  by_cases h16 : j = 16
  · have e : intLt (j : Int) 16 = false := by rw [← Bool.not_eq_true, intLt_iff]; omega
    rw [e] at hr2
    refine wp_mono (codeG_stepH hmix semN_ok hr2 hA hR6 hF hd) ?_
    rintro e a' w' ⟨x, t', s', ⟨rfl, hd', ρ', hst, hf'⟩, hg⟩
    refine ⟨Step.belowOf hR6 hst noI, hd', .inl ?_⟩
    unfold rnd14 at hg
    split at hg
    · cases hg
    · injection hg with hg
      simp only [Prod.mk.injEq] at hg
      exact ⟨h16, by rw [hg.1]; rfl, hf'.1.trans hg.2.1⟩
  · have e : intLt (j : Int) 16 = true := by rw [intLt_iff]; omega
    rw [e] at hr2
    refine wp_mono (codeG_stepH hmix semN_ok hr2 hA hR6 hF hd) ?_
    rintro e a' w' ⟨x, t', s', ⟨rfl, hd', ρ', hst, hf'⟩, hg⟩
    refine ⟨Step.belowOf hR6 hst noI, hd', .inr ⟨by omega, ?_⟩⟩
    unfold rnd14 at hg
    split at hg
    · cases hg
    · injection hg with hg
      simp only [Prod.mk.injEq, List.cons.injEq] at hg
      obtain ⟨rfl, gn, g3, g4, g7, gk, _⟩ := hg
      have e3 := hf'.2 3
      have e4 := hf'.2 4
      have e7 := hf'.2 7
      have ek := hf'.2 137
      rw [g3] at e3; rw [g4] at e4; rw [g7] at e7; rw [gk] at ek
      refine ⟨rfl, hf'.1.trans gn, ptr_fun e3 (E.mono hst.le _ q3), ptr_fun e4 (E.mono hst.le _ q4), ptr_fun e7 (E.mono hst.le _ q7), ?_⟩
      rw [E_i64_inv ek, show Int.add (j : Int) 1 = (j : Int) + 1 from rfl, fit_i64 (by omega)]
      rfl
end Go.Proofs.YtilfiadkhohfiaaGreatDoor
