/- Layer 2: joins of finds. -/
import Derived.Test.YtilfiadkhohfiaaGreatDoorP5
/- Layer 2: joins of finds, in runs. -/
set_option linter.unusedVariables false
set_option maxRecDepth 100000
namespace Go.Proofs.YtilfiadkhohfiaaGreatDoor
set_option linter.unusedSimpArgs false
set_option linter.unusedVariables false
open Go Go.RowKit Go.Clo
noncomputable section
def tbE (z : Int) : Tb := fun f => cond (Nat.beq f 18) (some fun _ _ => (.bool true, none)) (cond (Nat.beq f 48) (some fun _ _ => (.tup [zFind, i64 z], none)) none)
def all215 (d : Nat → V) : List V := [d 0, d 1, d 2, d 3, d 4, d 5, d 6, d 7, d 8, d 9, d 10, d 11, d 12, d 13, d 14, d 15, d 16, d 17, d 18, d 19, d 20, d 21, d 22, d 23, d 24, d 25, d 26, d 27, d 28, d 29, d 30, d 31, d 32, d 33, d 34, d 35, d 36, d 37, d 38, d 39, d 40, d 41, d 42, d 43, d 44, d 45, d 46, d 47, d 48, d 49, d 50, d 51, d 52, d 53, d 54, d 55, d 56, d 57, d 58, d 59, d 60, d 61, d 62, d 63, d 64, d 65, d 66, d 67, d 68, d 69, d 70, d 71, d 72, d 73, d 74, d 75, d 76, d 77, d 78, d 79, d 80, d 81, d 82, d 83, d 84, d 85, d 86, d 87, d 88, d 89, d 90, d 91, d 92, d 93, d 94, d 95, d 96, d 97, d 98, d 99, d 100, d 101, d 102, d 103, d 104, d 105, d 106, d 107, d 108, d 109, d 110, d 111, d 112, d 113, d 114, d 115, d 116, d 117, d 118, d 119, d 120, d 121, d 122, d 123, d 124, d 125, d 126, d 127, d 128, d 129, d 130, d 131, d 132, d 133, d 134, d 135, d 136, d 137, d 138, d 139, d 140, d 141, d 142, d 143, d 144, d 145, d 146, d 147, d 148, d 149, d 150, d 151, d 152, d 153, d 154, d 155, d 156, d 157, d 158, d 159, d 160, d 161, d 162, d 163, d 164, d 165, d 166, d 167, d 168, d 169, d 170, d 171, d 172, d 173, d 174, d 175, d 176, d 177, d 178, d 179, d 180, d 181, d 182, d 183, d 184, d 185, d 186, d 187, d 188, d 189, d 190, d 191, d 192, d 193, d 194, d 195, d 196, d 197, d 198, d 199, d 200, d 201, d 202, d 203, d 204, d 205, d 206, d 207, d 208, d 209, d 210, d 211, d 212, d 213, d 214]
def endG14 (x : Ex) (t : Fr) (s : St) : Ex × List V := (x, [t.get 6])
end
section
variable (W0 : World) (c c' : List V) (ma mb : V) (no el sd : Int) (a b d e : Nat) (lo hi sex wear layer square : Int) (no' el' sd' : Int) (a' b' d' e' : Nat) (lo' hi' sex' wear' layer' square' : Int) (num : Int)
theorem le_1 : valK Tryz.prog (semN Tryz.prog W0 vfA (tbE 1)) 60 14 [(.agg (finL no el sd a b d e ma lo hi sex wear layer square)), (.agg (finL no' el' sd' a' b' d' e' mb lo' hi' sex' wear' layer' square')), i64 num] (st2 c c') = cond (goodN Tryz.prog W0 vfA 18 [] (vwA c c') 0 (.bool true) none) (cond (goodN Tryz.prog W0 vfA 48 [(.agg (finL no el sd a b d e ma lo hi sex wear layer square)), (.agg (finL no' el' sd' a' b' d' e' mb lo' hi' sex' wear' layer' square')), i64 num] (vwA c c') 0 (.tup [zFind, i64 1]) none) (cond (goodN Tryz.prog W0 vfA 48 [(.agg (finL no' el' sd' a' b' d' e' mb lo' hi' sex' wear' layer' square')), (.agg (finL no el sd a b d e ma lo hi sex wear layer square)), i64 num] (vwA c c') 0 (.tup [zFind, i64 1]) none) (some (.bool true)) none) none) none := by kernel_rfl
theorem leA_1 : askK Tryz.prog (semN Tryz.prog W0 vfA (tbE 1)) 60 14 [(.agg (finL no el sd a b d e ma lo hi sex wear layer square)), (.agg (finL no' el' sd' a' b' d' e' mb lo' hi' sex' wear' layer' square')), i64 num] (st2 c c') false = askK Tryz.prog (semN Tryz.prog W0 vfA (tbE 1)) 60 14 [(.agg (finL no el sd a b d e ma lo hi sex wear layer square)), (.agg (finL no' el' sd' a' b' d' e' mb lo' hi' sex' wear' layer' square')), i64 num] (st2 c c') true := by kernel_rfl
theorem le_20 : valK Tryz.prog (semN Tryz.prog W0 vfA (tbE 20)) 60 14 [(.agg (finL no el sd a b d e ma lo hi sex wear layer square)), (.agg (finL no' el' sd' a' b' d' e' mb lo' hi' sex' wear' layer' square')), i64 num] (st2 c c') = cond (goodN Tryz.prog W0 vfA 18 [] (vwA c c') 0 (.bool true) none) (cond (goodN Tryz.prog W0 vfA 48 [(.agg (finL no el sd a b d e ma lo hi sex wear layer square)), (.agg (finL no' el' sd' a' b' d' e' mb lo' hi' sex' wear' layer' square')), i64 num] (vwA c c') 0 (.tup [zFind, i64 20]) none) (cond (goodN Tryz.prog W0 vfA 48 [(.agg (finL no' el' sd' a' b' d' e' mb lo' hi' sex' wear' layer' square')), (.agg (finL no el sd a b d e ma lo hi sex wear layer square)), i64 num] (vwA c c') 0 (.tup [zFind, i64 20]) none) (some (.bool true)) none) none) none := by kernel_rfl
theorem leA_20 : askK Tryz.prog (semN Tryz.prog W0 vfA (tbE 20)) 60 14 [(.agg (finL no el sd a b d e ma lo hi sex wear layer square)), (.agg (finL no' el' sd' a' b' d' e' mb lo' hi' sex' wear' layer' square')), i64 num] (st2 c c') false = askK Tryz.prog (semN Tryz.prog W0 vfA (tbE 20)) 60 14 [(.agg (finL no el sd a b d e ma lo hi sex wear layer square)), (.agg (finL no' el' sd' a' b' d' e' mb lo' hi' sex' wear' layer' square')), i64 num] (st2 c c') true := by kernel_rfl
theorem le_22 : valK Tryz.prog (semN Tryz.prog W0 vfA (tbE 22)) 60 14 [(.agg (finL no el sd a b d e ma lo hi sex wear layer square)), (.agg (finL no' el' sd' a' b' d' e' mb lo' hi' sex' wear' layer' square')), i64 num] (st2 c c') = cond (goodN Tryz.prog W0 vfA 18 [] (vwA c c') 0 (.bool true) none) (cond (goodN Tryz.prog W0 vfA 48 [(.agg (finL no el sd a b d e ma lo hi sex wear layer square)), (.agg (finL no' el' sd' a' b' d' e' mb lo' hi' sex' wear' layer' square')), i64 num] (vwA c c') 0 (.tup [zFind, i64 22]) none) (cond (goodN Tryz.prog W0 vfA 48 [(.agg (finL no' el' sd' a' b' d' e' mb lo' hi' sex' wear' layer' square')), (.agg (finL no el sd a b d e ma lo hi sex wear layer square)), i64 num] (vwA c c') 0 (.tup [zFind, i64 22]) none) (some (.bool true)) none) none) none := by kernel_rfl
theorem leA_22 : askK Tryz.prog (semN Tryz.prog W0 vfA (tbE 22)) 60 14 [(.agg (finL no el sd a b d e ma lo hi sex wear layer square)), (.agg (finL no' el' sd' a' b' d' e' mb lo' hi' sex' wear' layer' square')), i64 num] (st2 c c') false = askK Tryz.prog (semN Tryz.prog W0 vfA (tbE 22)) 60 14 [(.agg (finL no el sd a b d e ma lo hi sex wear layer square)), (.agg (finL no' el' sd' a' b' d' e' mb lo' hi' sex' wear' layer' square')), i64 num] (st2 c c') true := by kernel_rfl
end
theorem end14 (W0 : World) (d : Nat → V) : codeG Tryz.prog (semS Tryz.prog W0 1 noTb) 60 e14 (frL (all215 d)) ⟨.nil, 0⟩ endG14 = some (.ret, [.bool true]) := by kernel_rfl
theorem end14A (W0 : World) (d : Nat → V) : codeA Tryz.prog (semS Tryz.prog W0 1 noTb) 60 e14 (frL (all215 d)) ⟨.nil, 0⟩ false = codeA Tryz.prog (semS Tryz.prog W0 1 noTb) 60 e14 (frL (all215 d)) ⟨.nil, 0⟩ true := by kernel_rfl
theorem all215_ok {ρ : Rho} {d : Nat → V} {tm : Array Value} (hs : tm.size = 215) (hd : ∀ i, E ρ (d i) (tm.getD i undef)) : FrE ρ (frL (all215 d)) tm := frL_ok (by rw [hs]; rfl) fun i v hi => match i, hi with
  | 0, hi => Option.some.inj hi ▸ hd 0
  | 1, hi => Option.some.inj hi ▸ hd 1
  | 2, hi => Option.some.inj hi ▸ hd 2
  | 3, hi => Option.some.inj hi ▸ hd 3
  | 4, hi => Option.some.inj hi ▸ hd 4
  | 5, hi => Option.some.inj hi ▸ hd 5
  | 6, hi => Option.some.inj hi ▸ hd 6
  | 7, hi => Option.some.inj hi ▸ hd 7
  | 8, hi => Option.some.inj hi ▸ hd 8
  | 9, hi => Option.some.inj hi ▸ hd 9
  | 10, hi => Option.some.inj hi ▸ hd 10
  | 11, hi => Option.some.inj hi ▸ hd 11
  | 12, hi => Option.some.inj hi ▸ hd 12
  | 13, hi => Option.some.inj hi ▸ hd 13
  | 14, hi => Option.some.inj hi ▸ hd 14
  | 15, hi => Option.some.inj hi ▸ hd 15
  | 16, hi => Option.some.inj hi ▸ hd 16
  | 17, hi => Option.some.inj hi ▸ hd 17
  | 18, hi => Option.some.inj hi ▸ hd 18
  | 19, hi => Option.some.inj hi ▸ hd 19
  | 20, hi => Option.some.inj hi ▸ hd 20
  | 21, hi => Option.some.inj hi ▸ hd 21
  | 22, hi => Option.some.inj hi ▸ hd 22
  | 23, hi => Option.some.inj hi ▸ hd 23
  | 24, hi => Option.some.inj hi ▸ hd 24
  | 25, hi => Option.some.inj hi ▸ hd 25
  | 26, hi => Option.some.inj hi ▸ hd 26
  | 27, hi => Option.some.inj hi ▸ hd 27
  | 28, hi => Option.some.inj hi ▸ hd 28
  | 29, hi => Option.some.inj hi ▸ hd 29
  | 30, hi => Option.some.inj hi ▸ hd 30
  | 31, hi => Option.some.inj hi ▸ hd 31
  | 32, hi => Option.some.inj hi ▸ hd 32
  | 33, hi => Option.some.inj hi ▸ hd 33
  | 34, hi => Option.some.inj hi ▸ hd 34
  | 35, hi => Option.some.inj hi ▸ hd 35
  | 36, hi => Option.some.inj hi ▸ hd 36
  | 37, hi => Option.some.inj hi ▸ hd 37
  | 38, hi => Option.some.inj hi ▸ hd 38
  | 39, hi => Option.some.inj hi ▸ hd 39
  | 40, hi => Option.some.inj hi ▸ hd 40
  | 41, hi => Option.some.inj hi ▸ hd 41
  | 42, hi => Option.some.inj hi ▸ hd 42
  | 43, hi => Option.some.inj hi ▸ hd 43
  | 44, hi => Option.some.inj hi ▸ hd 44
  | 45, hi => Option.some.inj hi ▸ hd 45
  | 46, hi => Option.some.inj hi ▸ hd 46
  | 47, hi => Option.some.inj hi ▸ hd 47
  | 48, hi => Option.some.inj hi ▸ hd 48
  | 49, hi => Option.some.inj hi ▸ hd 49
  | 50, hi => Option.some.inj hi ▸ hd 50
  | 51, hi => Option.some.inj hi ▸ hd 51
  | 52, hi => Option.some.inj hi ▸ hd 52
  | 53, hi => Option.some.inj hi ▸ hd 53
  | 54, hi => Option.some.inj hi ▸ hd 54
  | 55, hi => Option.some.inj hi ▸ hd 55
  | 56, hi => Option.some.inj hi ▸ hd 56
  | 57, hi => Option.some.inj hi ▸ hd 57
  | 58, hi => Option.some.inj hi ▸ hd 58
  | 59, hi => Option.some.inj hi ▸ hd 59
  | 60, hi => Option.some.inj hi ▸ hd 60
  | 61, hi => Option.some.inj hi ▸ hd 61
  | 62, hi => Option.some.inj hi ▸ hd 62
  | 63, hi => Option.some.inj hi ▸ hd 63
  | 64, hi => Option.some.inj hi ▸ hd 64
  | 65, hi => Option.some.inj hi ▸ hd 65
  | 66, hi => Option.some.inj hi ▸ hd 66
  | 67, hi => Option.some.inj hi ▸ hd 67
  | 68, hi => Option.some.inj hi ▸ hd 68
  | 69, hi => Option.some.inj hi ▸ hd 69
  | 70, hi => Option.some.inj hi ▸ hd 70
  | 71, hi => Option.some.inj hi ▸ hd 71
  | 72, hi => Option.some.inj hi ▸ hd 72
  | 73, hi => Option.some.inj hi ▸ hd 73
  | 74, hi => Option.some.inj hi ▸ hd 74
  | 75, hi => Option.some.inj hi ▸ hd 75
  | 76, hi => Option.some.inj hi ▸ hd 76
  | 77, hi => Option.some.inj hi ▸ hd 77
  | 78, hi => Option.some.inj hi ▸ hd 78
  | 79, hi => Option.some.inj hi ▸ hd 79
  | 80, hi => Option.some.inj hi ▸ hd 80
  | 81, hi => Option.some.inj hi ▸ hd 81
  | 82, hi => Option.some.inj hi ▸ hd 82
  | 83, hi => Option.some.inj hi ▸ hd 83
  | 84, hi => Option.some.inj hi ▸ hd 84
  | 85, hi => Option.some.inj hi ▸ hd 85
  | 86, hi => Option.some.inj hi ▸ hd 86
  | 87, hi => Option.some.inj hi ▸ hd 87
  | 88, hi => Option.some.inj hi ▸ hd 88
  | 89, hi => Option.some.inj hi ▸ hd 89
  | 90, hi => Option.some.inj hi ▸ hd 90
  | 91, hi => Option.some.inj hi ▸ hd 91
  | 92, hi => Option.some.inj hi ▸ hd 92
  | 93, hi => Option.some.inj hi ▸ hd 93
  | 94, hi => Option.some.inj hi ▸ hd 94
  | 95, hi => Option.some.inj hi ▸ hd 95
  | 96, hi => Option.some.inj hi ▸ hd 96
  | 97, hi => Option.some.inj hi ▸ hd 97
  | 98, hi => Option.some.inj hi ▸ hd 98
  | 99, hi => Option.some.inj hi ▸ hd 99
  | 100, hi => Option.some.inj hi ▸ hd 100
  | 101, hi => Option.some.inj hi ▸ hd 101
  | 102, hi => Option.some.inj hi ▸ hd 102
  | 103, hi => Option.some.inj hi ▸ hd 103
  | 104, hi => Option.some.inj hi ▸ hd 104
  | 105, hi => Option.some.inj hi ▸ hd 105
  | 106, hi => Option.some.inj hi ▸ hd 106
  | 107, hi => Option.some.inj hi ▸ hd 107
  | 108, hi => Option.some.inj hi ▸ hd 108
  | 109, hi => Option.some.inj hi ▸ hd 109
  | 110, hi => Option.some.inj hi ▸ hd 110
  | 111, hi => Option.some.inj hi ▸ hd 111
  | 112, hi => Option.some.inj hi ▸ hd 112
  | 113, hi => Option.some.inj hi ▸ hd 113
  | 114, hi => Option.some.inj hi ▸ hd 114
  | 115, hi => Option.some.inj hi ▸ hd 115
  | 116, hi => Option.some.inj hi ▸ hd 116
  | 117, hi => Option.some.inj hi ▸ hd 117
  | 118, hi => Option.some.inj hi ▸ hd 118
  | 119, hi => Option.some.inj hi ▸ hd 119
  | 120, hi => Option.some.inj hi ▸ hd 120
  | 121, hi => Option.some.inj hi ▸ hd 121
  | 122, hi => Option.some.inj hi ▸ hd 122
  | 123, hi => Option.some.inj hi ▸ hd 123
  | 124, hi => Option.some.inj hi ▸ hd 124
  | 125, hi => Option.some.inj hi ▸ hd 125
  | 126, hi => Option.some.inj hi ▸ hd 126
  | 127, hi => Option.some.inj hi ▸ hd 127
  | 128, hi => Option.some.inj hi ▸ hd 128
  | 129, hi => Option.some.inj hi ▸ hd 129
  | 130, hi => Option.some.inj hi ▸ hd 130
  | 131, hi => Option.some.inj hi ▸ hd 131
  | 132, hi => Option.some.inj hi ▸ hd 132
  | 133, hi => Option.some.inj hi ▸ hd 133
  | 134, hi => Option.some.inj hi ▸ hd 134
  | 135, hi => Option.some.inj hi ▸ hd 135
  | 136, hi => Option.some.inj hi ▸ hd 136
  | 137, hi => Option.some.inj hi ▸ hd 137
  | 138, hi => Option.some.inj hi ▸ hd 138
  | 139, hi => Option.some.inj hi ▸ hd 139
  | 140, hi => Option.some.inj hi ▸ hd 140
  | 141, hi => Option.some.inj hi ▸ hd 141
  | 142, hi => Option.some.inj hi ▸ hd 142
  | 143, hi => Option.some.inj hi ▸ hd 143
  | 144, hi => Option.some.inj hi ▸ hd 144
  | 145, hi => Option.some.inj hi ▸ hd 145
  | 146, hi => Option.some.inj hi ▸ hd 146
  | 147, hi => Option.some.inj hi ▸ hd 147
  | 148, hi => Option.some.inj hi ▸ hd 148
  | 149, hi => Option.some.inj hi ▸ hd 149
  | 150, hi => Option.some.inj hi ▸ hd 150
  | 151, hi => Option.some.inj hi ▸ hd 151
  | 152, hi => Option.some.inj hi ▸ hd 152
  | 153, hi => Option.some.inj hi ▸ hd 153
  | 154, hi => Option.some.inj hi ▸ hd 154
  | 155, hi => Option.some.inj hi ▸ hd 155
  | 156, hi => Option.some.inj hi ▸ hd 156
  | 157, hi => Option.some.inj hi ▸ hd 157
  | 158, hi => Option.some.inj hi ▸ hd 158
  | 159, hi => Option.some.inj hi ▸ hd 159
  | 160, hi => Option.some.inj hi ▸ hd 160
  | 161, hi => Option.some.inj hi ▸ hd 161
  | 162, hi => Option.some.inj hi ▸ hd 162
  | 163, hi => Option.some.inj hi ▸ hd 163
  | 164, hi => Option.some.inj hi ▸ hd 164
  | 165, hi => Option.some.inj hi ▸ hd 165
  | 166, hi => Option.some.inj hi ▸ hd 166
  | 167, hi => Option.some.inj hi ▸ hd 167
  | 168, hi => Option.some.inj hi ▸ hd 168
  | 169, hi => Option.some.inj hi ▸ hd 169
  | 170, hi => Option.some.inj hi ▸ hd 170
  | 171, hi => Option.some.inj hi ▸ hd 171
  | 172, hi => Option.some.inj hi ▸ hd 172
  | 173, hi => Option.some.inj hi ▸ hd 173
  | 174, hi => Option.some.inj hi ▸ hd 174
  | 175, hi => Option.some.inj hi ▸ hd 175
  | 176, hi => Option.some.inj hi ▸ hd 176
  | 177, hi => Option.some.inj hi ▸ hd 177
  | 178, hi => Option.some.inj hi ▸ hd 178
  | 179, hi => Option.some.inj hi ▸ hd 179
  | 180, hi => Option.some.inj hi ▸ hd 180
  | 181, hi => Option.some.inj hi ▸ hd 181
  | 182, hi => Option.some.inj hi ▸ hd 182
  | 183, hi => Option.some.inj hi ▸ hd 183
  | 184, hi => Option.some.inj hi ▸ hd 184
  | 185, hi => Option.some.inj hi ▸ hd 185
  | 186, hi => Option.some.inj hi ▸ hd 186
  | 187, hi => Option.some.inj hi ▸ hd 187
  | 188, hi => Option.some.inj hi ▸ hd 188
  | 189, hi => Option.some.inj hi ▸ hd 189
  | 190, hi => Option.some.inj hi ▸ hd 190
  | 191, hi => Option.some.inj hi ▸ hd 191
  | 192, hi => Option.some.inj hi ▸ hd 192
  | 193, hi => Option.some.inj hi ▸ hd 193
  | 194, hi => Option.some.inj hi ▸ hd 194
  | 195, hi => Option.some.inj hi ▸ hd 195
  | 196, hi => Option.some.inj hi ▸ hd 196
  | 197, hi => Option.some.inj hi ▸ hd 197
  | 198, hi => Option.some.inj hi ▸ hd 198
  | 199, hi => Option.some.inj hi ▸ hd 199
  | 200, hi => Option.some.inj hi ▸ hd 200
  | 201, hi => Option.some.inj hi ▸ hd 201
  | 202, hi => Option.some.inj hi ▸ hd 202
  | 203, hi => Option.some.inj hi ▸ hd 203
  | 204, hi => Option.some.inj hi ▸ hd 204
  | 205, hi => Option.some.inj hi ▸ hd 205
  | 206, hi => Option.some.inj hi ▸ hd 206
  | 207, hi => Option.some.inj hi ▸ hd 207
  | 208, hi => Option.some.inj hi ▸ hd 208
  | 209, hi => Option.some.inj hi ▸ hd 209
  | 210, hi => Option.some.inj hi ▸ hd 210
  | 211, hi => Option.some.inj hi ▸ hd 211
  | 212, hi => Option.some.inj hi ▸ hd 212
  | 213, hi => Option.some.inj hi ▸ hd 213
  | 214, hi => Option.some.inj hi ▸ hd 214
  | n + 215, hi => nomatch (show none = some v from hi)
end Go.Proofs.YtilfiadkhohfiaaGreatDoor
/- Layer 2: joins of finds, in runs. -/
set_option linter.unusedVariables false
set_option maxRecDepth 100000
namespace Go.Proofs.YtilfiadkhohfiaaGreatDoor
set_option linter.unusedSimpArgs false
set_option linter.unusedVariables false
open Go Go.RowKit Go.Clo

/-- Pieces one behind the other, up to a loop. -/
theorem seqs_wp (hmix : Tryz.prog.follows .mixedOrders = true) {W0 : World} {H : Hook} (hH : HookOK Tryz.prog W0 H) {c L e : Code} {Q : Exit → Act → World → Prop} {t' : Fr} {s' : St} {ρ0 : Rho} {s0 : St} {w0 : World}
    (hK : ∀ a' w', Post W0 ρ0 s0 w0 .normal t' s' .normal a' w' → L.wp Tryz.prog (Exit.then (fun a w => e.wp Tryz.prog Q a w) Q) a' w') :
    ∀ (l : List Code) (N : Nat) (t : Fr) (s : St), exec Tryz.prog H N (seqs l c) t s = .ok .normal t' s' → ∀ (ρ : Rho) (w : World) (a : Act), Step W0 ρ0 s0 w0 ρ s w → FrE ρ t a.tmps → a.defers = [] → (seqs l (.seq (.seq c L) e)).wp Tryz.prog Q a w
  | [], N, t, s, h, ρ, w, a, hst, hf, hd => by
    have h : exec Tryz.prog H N c t s = .ok .normal t' s' := h
    refine wp_seq (wp_seq (wp_mono (runs_ok hmix hH _ _ _ _ _ _ _ h ρ w a hst.rel hf hd) ?_))
    rintro e' a1 w1 ⟨rfl, hd1, ρ1, hst1, hf1⟩
    exact hK a1 w1 ⟨rfl, hd1, ρ1, hst.trans hst1, hf1⟩
  | d :: l, 0, t, s, h, _, _, _, _, _, _ => by cases h
  | d :: l, N + 1, t, s, h, ρ, w, a, hst, hf, hd => by
    have h : thenV (exec Tryz.prog H N d t s) (exec Tryz.prog H N (seqs l c)) = .ok .normal t' s' := h
    obtain ⟨x1, t1, s1, h1, h2⟩ := thenV_ok h
    rcases h2 with ⟨rfl, h2⟩ | ⟨hne, rfl, _⟩
    · refine wp_seq (wp_mono (runs_ok hmix hH _ _ _ _ _ _ _ h1 ρ w a hst.rel hf hd) ?_)
      rintro e' a1 w1 ⟨rfl, hd1, ρ1, hst1, hf1⟩
      exact seqs_wp hmix hH hK l N t1 s1 h2 ρ1 w1 a1 (hst.trans hst1) hf1 hd1
    · exact absurd rfl hne
theorem rounds14 (hmix : Tryz.prog.follows .mixedOrders = true) {Q : Exit → Act → World → Prop} {W : World} {f g p : Fd} (hf : f.OK) (hg : g.OK) (hp : p.OK) (hvf : f.Valid) (hvg : g.Valid) (hvp : p.Valid) {msf msg msp pa pb pp : Value}
    (hmf : MeaAt W msf f.oc f.l) (hmg : MeaAt W msg g.oc g.l) (hmp : MeaAt W msp p.oc p.l) (hbf : BoxF W pa (f.cs msf)) (hbg : BoxF W pb (g.cs msg)) (hbp : BoxF W pp (p.cs msp))
    (hm : ∀ k, badM f.l g.l k = false ∧ getM p.l k = oneM f.l g.l k) (hend : ∀ a' w', Below W.heap.size W w' → a'.defers = [] → a'.tmps.size = 215 → Q (.exit 0) a' w') :
    ∀ (n j : Nat) (w : World) (act : Act), j + n = 16 → Below W.heap.size W w → Head14 act.tmps pa pb pp j → act.defers = [] → Code.rounds Tryz.prog body14 Q (n + 1) act w
  | 0, j, w, act, hj, hw, hh, hd => by
    refine wp_mono (round14 hmix hf hg hp hvf hvg hvp (hmf.below hw) (hmg.below hw) (hmp.below hw) (hbf.below hw) (hbg.below hw) (hbp.below hw) hm (by omega) hh hd) ?_
    rintro e a' w' ⟨hb, hd', ⟨_, rfl, hs⟩ | ⟨h, _⟩⟩
    · exact hend a' w' (below_tr hw hb) hd' hs
    · omega
  | n + 1, j, w, act, hj, hw, hh, hd => by
    refine wp_mono (round14 hmix hf hg hp hvf hvg hvp (hmf.below hw) (hmg.below hw) (hmp.below hw) (hbf.below hw) (hbg.below hw) (hbp.below hw) hm (by omega) hh hd) ?_
    rintro e a' w' ⟨hb, hd', ⟨h, _⟩ | ⟨_, rfl, hh'⟩⟩
    · omega
    · exact rounds14 hmix hf hg hp hvf hvg hvp hmf hmg hmp hbf hbg hbp hm hend n (j + 1) w' a' (by omega) (below_tr hw hb) hh' hd'
theorem sxI_comm (s s' : Int) : sxI s s' = sxI s' s := by
  unfold sxI sxE
  cases intBeq s 1 <;> cases intBeq s 2 <;> cases intBeq s 3 <;> cases intBeq s 4 <;> cases intBeq s' 1 <;> cases intBeq s' 2 <;> cases intBeq s' 3 <;> cases intBeq s' 4 <;> rfl
theorem agB_comm {f g : Fd} (hf : f.Valid) (hg : g.Valid) : agB f g = agB g f := by
  unfold agB
  rw [joinM_comm hf.list.2.1 hg.list.2.1]
theorem jC_comm {f g : Fd} (hf : f.Valid) (hg : g.Valid) : jC f g (agB f g) = jC g f (agB g f) := by
  rw [Bool.eq_iff_iff, jC_iff, jC_iff, agB_comm hf hg]
  have e : Nat.land f.a g.a = Nat.land g.a f.a := Nat.and_comm _ _
  rw [e, Int.max_comm f.lo g.lo, Int.min_comm f.hi g.hi]
  constructor
  · rintro ⟨h1, h2, h3, h4, h5⟩; exact ⟨h1.symm, by omega, h3, h4, h5⟩
  · rintro ⟨h1, h2, h3, h4, h5⟩; exact ⟨h1.symm, by omega, h3, h4, h5⟩
theorem cond_comm (x y : Int) : cond (intLt x y) y x = cond (intLt y x) x y := by
  have h1 : cond (intLt x y) y x = max x y := loA_eq x y
  have h2 : cond (intLt y x) x y = max y x := loA_eq y x
  rw [h1, h2, Int.max_comm]
/-- What two finds become, either way, but for the place. -/
theorem jFd_comm {f g : Fd} {ag : Bool} (hc : jC f g ag = true) (num : Int) (mv : V) : fin1 (jFd g f num).no (jFd g f num).el (jFd g f num).sd (jFd g f num).a mv (jFd g f num).lo (jFd g f num).hi (jFd g f num).sex (jFd g f num).wear (jFd f g num).layer (jFd f g num).square = (jFd f g num).im mv := by
  obtain ⟨h1, h2, h3, h4, _⟩ := jC_iff.1 hc
  have e1 : (jFd g f num).el = (jFd f g num).el := h1.symm
  have e2 : (jFd g f num).sd = (jFd f g num).sd := by
    show cond (intBeq g.sd 3) f.sd g.sd = cond (intBeq f.sd 3) g.sd f.sd
    cases hx : intBeq g.sd 3 <;> cases hy : intBeq f.sd 3
    · rw [← Bool.not_eq_true, intBeq_iff] at hx hy; show g.sd = f.sd; omega
    · rfl
    · rfl
    · rw [intBeq_iff] at hx hy; show f.sd = g.sd; omega
  have e3 : (jFd g f num).a = (jFd f g num).a := Nat.or_comm _ _
  have e4 : (jFd g f num).lo = (jFd f g num).lo := by show loA g.lo f.lo = loA f.lo g.lo; rw [loA_eq, loA_eq, Int.max_comm]
  have e5 : (jFd g f num).hi = (jFd f g num).hi := by show hiA g.hi f.hi = hiA f.hi g.hi; rw [hiA_eq, hiA_eq, Int.min_comm]
  have e6 : (jFd g f num).sex = (jFd f g num).sex := sxI_comm _ _
  have e7 : (jFd g f num).wear = (jFd f g num).wear := cond_comm _ _
  have e8 : (jFd g f num).no = (jFd f g num).no := rfl
  rw [e1, e2, e3, e4, e5, e6, e7, e8]
  rfl
/-- A slice in a block that a call has made. -/
theorem row_mea {W : World} {ρ : Rho} {s : St} {w : World} (hR : Rel W ρ s w) {n : Nat} {l : List Mea} {u : Value} (hg : s.get n = rowB l) (he : E ρ (slN n l) u) : ∃ cap, MeaAt w u (some cap) l ∧ l.length ≤ cap := by
  unfold slN at he
  simp only [E] at he
  obtain ⟨q, hq, rfl⟩ := he
  obtain ⟨_, q', hq', _, hlt, us, ty', e1, e2, e3, e4⟩ := hR.blk n _ hg
  rw [hq] at hq'; injection hq' with hq'; subst hq'
  rw [meaC_len] at e4
  refine ⟨q.cap - 0, ⟨q.blk, q.off + 0, rfl, hlt, fun i u hu => ?_⟩, by omega⟩
  obtain ⟨n, rfl, hn⟩ := meaVs_at hu
  obtain ⟨u', hu', he'⟩ := e2 i _ hn
  rw [E_i64_inv he'] at hu'
  rw [cell_of_row w q.blk _ _ _ _ e1]
  simpa using hu'
/-- A list that a call hands over: nil, or in a block of its own. -/
def mvK (nil : Bool) (n : Nat) (l : List Mea) : V := cond nil .nils (slN n l)
def bkK (nil : Bool) (l : List Mea) : Option Blk := cond nil none (rowB l)
theorem mvK_mea {W : World} {ρ : Rho} {s : St} {w : World} (hR : Rel W ρ s w) (hs0 : 0 < w.heap.size) {nil : Bool} {n : Nat} {l : List Mea} {u : Value} (hn : nil = true → l = []) (hg : nil = false → s.get n = rowB l) (he : E ρ (mvK nil n l) u) :
    ∃ oc, MeaAt w u oc l ∧ (oc = none → l = []) ∧ Room oc l := by
  cases nil with
  | true =>
    have he : E ρ .nils u := he
    exact ⟨none, ⟨hs0, nils_inv he, hn rfl⟩, (fun _ => hn rfl), fun c h => by cases h⟩
  | false =>
    obtain ⟨cap, hM, hc⟩ := row_mea hR (hg rfl) he
    exact ⟨some cap, hM, (fun h => by cases h), fun c h => by injection h with h; omega⟩
variable {W : World}
/-- The call of Joined, where it succeeds. -/
theorem good48s (hmix : Tryz.prog.follows .mixedOrders = true) (hs0 : 0 < W.heap.size) {f g : Fd} (hf : f.OK) (hg : g.OK) (hz : Checks W f 0) (hz' : Checks W g 0) {num : Int} {l : List Mea} (hok : (inB num && jC f g (agB f g)) = true) (hJ : joinM f.l f.l g.l = some l) {i j : Nat} {s : St} (hi : s.get i = some (.ro (meaC f.l))) (hj : s.get j = some (.ro (meaC g.l))) :
    GoodM Tryz.prog W 48 [f.iv i, g.iv j, i64 num] s (.tup [(jFd f g num).im (mvK (jNil f g) s.size l), i64 0]) (addB s (bkK (jNil f g) l)) := by
  have run : ∀ (ρ : Rho) (w : World) (us : List Value), Rel W ρ s w → EL ρ [f.iv i, g.iv j, i64 num] us → Calls Tryz.prog 48 us.toArray w (JRes w f g num) := by
    intro ρ w us hR he
    obtain ⟨u, r, rfl, e1, h2⟩ := EL.cons_inv he
    obtain ⟨u', r', rfl, e2, h3⟩ := EL.cons_inv h2
    obtain ⟨u3, r3, rfl, e3, h4⟩ := EL.cons_inv h3
    obtain rfl := EL.nil_inv h4
    obtain ⟨ms, rfl, hm⟩ := Fd.im_of e1
    obtain ⟨ms', rfl, hm'⟩ := Fd.im_of e2
    obtain rfl := E_i64_inv e3
    have hb := hR.below
    exact joined48s hmix (Nat.lt_of_lt_of_le hs0 hb.size) hf hg (hz.world hb) (hz'.world hb) num ((meaAt_of hR hs0 hf.ho hi hm).below hb) ((meaAt_of hR hs0 hg.ho hj hm').below hb)
  have hr : jRes f g (agB f g) num = jFd f g num := by unfold jRes; rw [hok]; rfl
  rw [Bool.and_eq_true] at hok
  have he : jErr f g (agB f g) num = 0 := by unfold jErr; rw [hok.1, hok.2]; rfl
  cases hn : jNil f g with
  | true =>
    refine GoodM.same' fun ρ w us hR hE => (run ρ w us hR hE).mono ?_
    rintro e w' ⟨mr, hb, rfl, ⟨h, _⟩ | ⟨_, l', _, _, ⟨_, rfl, _⟩ | ⟨h, _⟩⟩⟩
    · rw [hok.1, hok.2] at h; cases h
    · rw [hr, he]
      refine ⟨_, rfl, ?_, hb⟩
      simp only [E]
      exact ⟨[_, _], rfl, EL.cons (Fd.im_E (show E ρ .nils _ by simp only [E])) (EL.cons (E_i64 _) EL.nil)⟩
    · rw [hn] at h; cases h
  | false =>
    refine GoodM.rowIn (len := l.length) (g := fun u => .tuple #[(jFd f g num).U u, .int .i64 0]) (fun ρ u hu => ?_) fun ρ w us hR hE => (run ρ w us hR hE).mono ?_
    · simp only [E]
      exact ⟨[_, _], rfl, EL.cons (Fd.im_E hu) (EL.cons (E_i64 _) EL.nil)⟩
    · rintro e w' ⟨mr, hb, rfl, ⟨h, _⟩ | ⟨_, l', hl', _, ⟨h, _⟩ | ⟨_, h⟩⟩⟩
      · rw [hok.1, hok.2] at h; cases h
      · rw [hn] at h; cases h
      · rw [hJ] at hl'; injection hl' with hl'; subst hl'
        obtain ⟨blk, off, cap, xs, ty, rfl, k1, k2, k3, k4, k5⟩ := h
        rw [hr, he]
        exact ⟨blk, off, cap, xs, ty, rfl, k1, k2, k3, k4, k5, hb⟩
end Go.Proofs.YtilfiadkhohfiaaGreatDoor
