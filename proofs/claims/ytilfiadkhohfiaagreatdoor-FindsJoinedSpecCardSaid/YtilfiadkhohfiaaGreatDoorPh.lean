/- Trees of conditions. -/
import Derived.Test.YtilfiadkhohfiaaGreatDoorProg
import Derived.Test.YtilfiadkhohfiaaGreatDoorPd
import Derived.KernelRfl
/- Layer 2: what runs of CheckFind and CheckEvent come to, as trees of conditions. -/
namespace Go.Proofs.YtilfiadkhohfiaaGreatDoor
set_option linter.unusedSimpArgs false
set_option linter.unusedVariables false
open Go Go.RowKit Go.Clo
noncomputable section
abbrev Mea := Int × Int × Int
def i64 (n : Int) : V := .int .i64 n
def w64 (n : Nat) : V := .int .u64 (.ofNat n)
def finL (no el sd : Int) (a b c d : Nat) (ms : V) (lo hi sex wear layer square : Int) : List V := [i64 no, i64 el, i64 sd, w64 a, w64 b, w64 c, w64 d, ms, i64 lo, i64 hi, i64 sex, i64 wear, i64 layer, i64 square]
def meaC : List Mea → List V
  | [] => []
  | m :: l => i64 m.1 :: i64 m.2.1 :: i64 m.2.2 :: meaC l
def roSt (c : List V) : St := ⟨.node (some (.ro c)) .nil .nil, 1⟩
def zonesI : List V → Bool
  | [.agg [.int _ a, .int _ b, .int _ c, .int _ d]] => !intBeq a 0 && (intLt a 65536 && (intBeq b 0 && (intBeq c 0 && intBeq d 0)))
  | _ => false
def tb (f : FuncId) : Option (List V → List (Option Blk) → V) := bif Nat.beq f 156 || Nat.beq f 161 then some (fun args _ => .bool (zonesI args)) else none
/-- A condition, or the answer x. -/
def aO (x : Int) (c : Bool) (k : Option V) : Option V := cond c k (some (i64 x))
def nO (x : Int) (c : Bool) (k : Option V) : Option V := cond c (some (i64 x)) k
def geB (a b : Int) : Bool := !intLt a b
def leB (a b : Int) : Bool := !intLt b a
def upO (x : Int) (n m : Int) (k : Option V) : Option V := aO x (geB n 0) (aO x (leB n m) k)
def uqO (x : Int) (n m : Int) (k : Option V) : Option V := aO x (geB n 0) (nO x (!leB n m) k)
def sideO (x el sd : Int) (k : Option V) : Option V := cond (intLt el 10) (aO x (intBeq sd 0) k) (cond (intBeq sd 1) k (cond (intBeq sd 2) k (aO x (intBeq sd 3) k)))
def sideQ (x el sd : Int) (k : Option V) : Option V := cond (intLt el 10) (aO x (intBeq sd 0) k) (aO x (geB sd 1) (aO x (leB sd 3) k))
def goodO (c : Bool) (k : Option V) : Option V := cond c k none
def meaO (x : Int) : Int → List Mea → Option V → Option V
  | _, [], k => k
  | last, m :: l, k => upO x m.1 15 (upO x m.2.1 100000 (aO x (geB m.2.2 0) (nO x (!leB m.2.2 1000) (nO x (leB m.1 last) (meaO x m.1 l k)))))
/-- Of a list too long: no. -/
def longO (x : Int) (_ : Option V) : Option V := some (i64 x)
def findO (x : Int) (W0 : World) (z : V) (vw : List (Option Blk)) (no el sd lo hi sex wear layer square : Int) (mp : Option V → Option V) (k : Option V) : Option V :=
  upO x no 4095 (upO x el 31 (sideO x el sd (goodO (goodB Tryz.prog W0 1 156 [z] vw (.bool (zonesI [z]))) (aO x (zonesI [z]) (upO x sex 4 (upO x wear 7
   (mp (aO x (geB lo 0) (aO x (leB lo hi) (aO x (leB hi 120) (upO x layer 255 (upO x square 255 k)))))))))))) 
def meaQ (x : Int) (prev : Option Int) : List Mea → Option V → Option V
  | [], k => k
  | m :: l, k => upO x m.1 15 (upO x m.2.1 100000 (aO x (geB m.2.2 0) (nO x (!leB m.2.2 1000) (match prev with | none => meaQ x (some m.1) l k | some p => nO x (geB p m.1) (meaQ x (some m.1) l k)))))
def validO (x : Int) (W0 : World) (z : V) (vw : List (Option Blk)) (no el sd lo hi sex wear layer square : Int) (mp : Option V → Option V) (k : Option V) : Option V :=
  uqO x no 4095 (upO x el 31 (sideQ x el sd (goodO (goodB Tryz.prog W0 1 161 [z] vw (.bool (zonesI [z]))) (aO x (zonesI [z]) (upO x sex 4 (uqO x wear 7
   (aO x (geB lo 0) (aO x (leB lo hi) (nO x (!leB hi 120) (uqO x layer 255 (uqO x square 255 (mp k))))))))))))
def evL (n kn kd fd ot : Int) (data : List V) : V := .agg (i64 n :: i64 kn :: i64 kd :: i64 fd :: i64 ot :: data)
def rngV : List V → List V → Bool
  | .int k n :: l, .int _ n' :: l' => inR k n && (inR k n' && rngV l l')
  | _, _ => true
def eqVs : List V → List V → Bool
  | .int _ n :: l, .int _ n' :: l' => intBeq n n' && eqVs l l'
  | _, _ => true
def zeroC (n : Nat) : List V := Nat.rec (motive := fun _ => List V) [] (fun _ ih => i64 0 :: ih) n
/-- What an outline has. -/
def oL (n kn kd fd ot no el sd : Int) (a b c d : Nat) (cnt : Int) (cells : List V) (lo hi sex wear layer square : Int) : List V :=
  i64 n :: i64 kn :: i64 kd :: i64 fd :: i64 ot :: i64 no :: i64 el :: i64 sd :: w64 a :: w64 b :: w64 c :: w64 d :: i64 cnt :: (cells ++ [i64 lo, i64 hi, i64 sex, i64 wear, i64 layer, i64 square])
def headO (n kn fd : Int) (k : Option V) : Option V := upO 21 n 4095 (upO 21 kn 1048576 (upO 21 fd 4095 k))
def headQ (n kn fd : Int) (k : Option V) : Option V := uqO 21 n 4095 (uqO 21 kn 1048576 (uqO 21 fd 4095 k))
def cmpO (l l' : List V) : Option V := goodO (rngV l l') (aO 21 (eqVs l l') (some (i64 0)))
def eqQ (l l' : List V) (k : Option V) : Option V := goodO (rngV l l') (nO 21 (!eqVs l l') k)
def boneO (W0 : World) (z : V) (vw : List (Option Blk)) (el sd sex wear : Int) (k : Option V) : Option V :=
  upO 21 el 31 (sideO 21 el sd (goodO (goodB Tryz.prog W0 1 156 [z] vw (.bool (zonesI [z]))) (aO 21 (zonesI [z]) (upO 21 sex 4 (upO 21 wear 7 k)))))
def formO (W0 : World) (z : V) (vw : List (Option Blk)) (el sd sex wear : Int) (k : Option V) : Option V :=
  upO 21 el 31 (sideQ 21 el sd (goodO (goodB Tryz.prog W0 1 161 [z] vw (.bool (zonesI [z]))) (aO 21 (zonesI [z]) (upO 21 sex 4 (upO 21 wear 7 k)))))
def ageO (lo hi : Int) (k : Option V) : Option V := aO 21 (geB lo 0) (aO 21 (leB lo hi) (aO 21 (leB hi 120) k))
def oneO (m : Mea) (k : Option V) : Option V := upO 21 m.1 15 (upO 21 m.2.1 100000 (aO 21 (geB m.2.2 0) (aO 21 (leB m.2.2 1000) k)))
def sameQ (no el sd : Int) (a b c d : Nat) (lo hi sex wear layer square : Int) (no' el' sd' : Int) (a' b' c' d' : Nat) (lo' hi' sex' wear' layer' square' : Int) (k : Option V) : Option V :=
  nO 21 (!intBeq no no') (nO 21 (!intBeq el el') (nO 21 (!intBeq sd sd') (eqQ [w64 a, w64 b, w64 c, w64 d] [w64 a', w64 b', w64 c', w64 d'] (eqQ [i64 lo, i64 hi] [i64 lo', i64 hi'] (nO 21 (!intBeq sex sex') (nO 21 (!intBeq wear wear') (nO 21 (!intBeq layer layer') (nO 21 (!intBeq square square') k))))))))
end
end Go.Proofs.YtilfiadkhohfiaaGreatDoor
/- Trees of conditions: what they ask. -/
namespace Go.Proofs.YtilfiadkhohfiaaGreatDoor
set_option linter.unusedSimpArgs false
set_option linter.unusedVariables false
open Go Go.RowKit Go.Clo

theorem intLt_iff (a b : Int) : intLt a b = true ↔ a < b := by
  cases a with
  | ofNat a => cases b with
    | ofNat b => show Nat.blt a b = true ↔ _; rw [Nat.blt_eq]; show _ ↔ (a : Int) < (b : Int); omega
    | negSucc b => show (false = true) ↔ _; simp only [Bool.false_eq_true, false_iff]; have := Int.negSucc_lt_zero b; show ¬ ((a : Int) < _); omega
  | negSucc a => cases b with
    | ofNat b => show (true = true) ↔ _; simp only [true_iff]; have := Int.negSucc_lt_zero a; show _ < (b : Int); omega
    | negSucc b => show Nat.blt b a = true ↔ _; rw [Nat.blt_eq, Int.negSucc_eq, Int.negSucc_eq]; omega
theorem intBeq_iff (a b : Int) : intBeq a b = true ↔ a = b := by
  cases a with
  | ofNat a => cases b with
    | ofNat b => show Nat.beq a b = true ↔ _; rw [Nat.beq_eq]; show _ ↔ (a : Int) = (b : Int); omega
    | negSucc b => show (false = true) ↔ _; simp
  | negSucc a => cases b with
    | ofNat b => show (false = true) ↔ _; simp
    | negSucc b => show Nat.beq a b = true ↔ _; rw [Nat.beq_eq]; simp
theorem geB_iff (a b : Int) : geB a b = true ↔ b ≤ a := by
  unfold geB
  rw [Bool.not_eq_true', ← Bool.not_eq_true, intLt_iff]; omega
theorem leB_iff (a b : Int) : leB a b = true ↔ a ≤ b := by
  unfold leB
  rw [Bool.not_eq_true', ← Bool.not_eq_true, intLt_iff]; omega

/-- A tree of conditions that answers 0 if p, and x otherwise. -/
def Is (x : Int) (t : Option V) (p : Prop) : Prop := (p ∧ t = some (i64 0)) ∨ (¬ p ∧ t = some (i64 x))
variable {x : Int} {t : Option V} {p : Prop}
theorem Is.yes : Is x (some (i64 0)) True := .inl ⟨trivial, rfl⟩
theorem Is.no : Is x (some (i64 x)) False := .inr ⟨id, rfl⟩
theorem Is.of {q : Prop} (h : Is x t p) (e : p ↔ q) : Is x t q := h.imp (fun k => ⟨e.1 k.1, k.2⟩) fun k => ⟨fun hq => k.1 (e.2 hq), k.2⟩
theorem Is.both {t' : Option V} {q : Prop} (h : Is x t p) (h' : Is x t' q) (e : p ↔ q) : ∃ z, t = some (i64 z) ∧ t' = some (i64 z) := by
  rcases h with ⟨a, b⟩ | ⟨a, b⟩
  · rcases h' with ⟨a', b'⟩ | ⟨a', b'⟩
    · exact ⟨0, b, b'⟩
    · exact absurd (e.1 a) a'
  · rcases h' with ⟨a', b'⟩ | ⟨a', b'⟩
    · exact absurd (e.2 a') a
    · exact ⟨x, b, b'⟩
theorem Is.a' {c : Bool} (h : Is x t p) : Is x (aO x c t) (c = true ∧ p) := by
  cases c with
  | true => exact h.of (by simp)
  | false => exact .inr ⟨by simp, rfl⟩
theorem Is.n' {c : Bool} (h : Is x t p) : Is x (nO x c t) (c = false ∧ p) := by
  cases c with
  | false => exact h.of (by simp)
  | true => exact .inr ⟨by simp, rfl⟩
theorem Is.g {c : Bool} (hc : c = true) (h : Is x t p) : Is x (goodO c t) p := by subst hc; exact h
theorem Is.ge {a b : Int} (h : Is x t p) : Is x (aO x (geB a b) t) (b ≤ a ∧ p) := h.a'.of (by rw [geB_iff])
theorem Is.le {a b : Int} (h : Is x t p) : Is x (aO x (leB a b) t) (a ≤ b ∧ p) := h.a'.of (by rw [leB_iff])
theorem Is.nle {a b : Int} (h : Is x t p) : Is x (nO x (!leB a b) t) (a ≤ b ∧ p) := h.n'.of (by rw [Bool.not_eq_false', leB_iff])
theorem Is.up {n m : Int} (h : Is x t p) : Is x (upO x n m t) ((0 ≤ n ∧ n ≤ m) ∧ p) := (Is.ge (Is.le h)).of (by rw [and_assoc])
theorem Is.uq {n m : Int} (h : Is x t p) : Is x (uqO x n m t) ((0 ≤ n ∧ n ≤ m) ∧ p) := (Is.ge (Is.nle h)).of (by rw [and_assoc])
theorem Is.eq {a b : Int} (h : Is x t p) : Is x (aO x (intBeq a b) t) (a = b ∧ p) := h.a'.of (by rw [intBeq_iff])
theorem Is.ne {a b : Int} (h : Is x t p) : Is x (aO x (!intBeq a b) t) (a ≠ b ∧ p) := h.a'.of (by rw [Bool.not_eq_true', ← Bool.not_eq_true, intBeq_iff])
theorem Is.nne {a b : Int} (h : Is x t p) : Is x (nO x (!intBeq a b) t) (a = b ∧ p) := h.n'.of (by rw [Bool.not_eq_false', intBeq_iff])
theorem Is.ngt {a b : Int} (h : Is x t p) : Is x (nO x (leB a b) t) (b < a ∧ p) := h.n'.of (by rw [← Bool.not_eq_true, leB_iff]; constructor <;> (rintro ⟨h1, h2⟩; exact ⟨by omega, h2⟩))
theorem Is.nlt {a b : Int} (h : Is x t p) : Is x (nO x (geB a b) t) (a < b ∧ p) := h.n'.of (by rw [← Bool.not_eq_true, geB_iff]; constructor <;> (rintro ⟨h1, h2⟩; exact ⟨by omega, h2⟩))
def sideP (el sd : Int) : Prop := el < 10 ∧ sd = 0 ∨ ¬ el < 10 ∧ 1 ≤ sd ∧ sd ≤ 3
theorem Is.side {el sd : Int} (h : Is x t p) : Is x (sideO x el sd t) (sideP el sd ∧ p) := by
  unfold sideO sideP
  cases h1 : intLt el 10 with
  | true => rw [intLt_iff] at h1; exact (Is.eq h).of (by constructor <;> (rintro ⟨a, b⟩; exact ⟨by omega, b⟩))
  | false =>
    rw [← Bool.not_eq_true, intLt_iff] at h1
    cases h2 : intBeq sd 1 with
    | true => rw [intBeq_iff] at h2; exact h.of (by constructor; exact fun b => ⟨by omega, b⟩; exact fun b => b.2)
    | false =>
      rw [← Bool.not_eq_true, intBeq_iff] at h2
      cases h3 : intBeq sd 2 with
      | true => rw [intBeq_iff] at h3; exact h.of (by constructor; exact fun b => ⟨by omega, b⟩; exact fun b => b.2)
      | false =>
        rw [← Bool.not_eq_true, intBeq_iff] at h3
        exact (Is.eq h).of (by constructor <;> (rintro ⟨a, b⟩; exact ⟨by omega, b⟩))
theorem Is.sdQ {el sd : Int} (h : Is x t p) : Is x (sideQ x el sd t) (sideP el sd ∧ p) := by
  unfold sideQ sideP
  cases h1 : intLt el 10 with
  | true => rw [intLt_iff] at h1; exact (Is.eq h).of (by constructor <;> (rintro ⟨a, b⟩; exact ⟨by omega, b⟩))
  | false =>
    rw [← Bool.not_eq_true, intLt_iff] at h1
    exact (Is.ge (Is.le h)).of (by rw [← and_assoc]; constructor <;> (rintro ⟨a, b⟩; exact ⟨by omega, b⟩))
def meaP (m : Mea) : Prop := (0 ≤ m.1 ∧ m.1 ≤ 15) ∧ (0 ≤ m.2.1 ∧ m.2.1 ≤ 100000) ∧ 0 ≤ m.2.2 ∧ m.2.2 ≤ 1000
/-- Measurements in order, behind a kind. -/
def measP : Int → List Mea → Prop
  | _, [] => True
  | last, m :: l => meaP m ∧ last < m.1 ∧ measP m.1 l
theorem measP_cons (last : Int) (m : Mea) (l : List Mea) : measP last (m :: l) = (meaP m ∧ last < m.1 ∧ measP m.1 l) := rfl
theorem Is.mea : ∀ {l : List Mea} {last : Int} {t : Option V}, Is x t p → Is x (meaO x last l t) (measP last l ∧ p)
  | [], _, _, h => h.of (by simp [measP])
  | m :: l, last, t, h => (Is.up (Is.up (Is.ge (Is.nle (Is.ngt (Is.mea (l := l) (last := m.1) h)))))).of (by rw [measP_cons]; unfold meaP; simp only [and_assoc])
theorem Is.meaS : ∀ {l : List Mea} {last : Int} {t : Option V}, Is x t p → Is x (meaQ x (some last) l t) (measP last l ∧ p)
  | [], _, _, h => h.of (by simp [measP])
  | m :: l, last, t, h => (Is.up (Is.up (Is.ge (Is.nle (Is.nlt (Is.meaS (l := l) (last := m.1) h)))))).of (by rw [measP_cons]; unfold meaP; simp only [and_assoc])
theorem Is.meaN {l : List Mea} (h : Is x t p) : Is x (meaQ x none l t) (measP (-1) l ∧ p) := by
  cases l with
  | nil => exact h.of (by simp [measP])
  | cons m l =>
    refine (Is.up (Is.up (Is.ge (Is.nle (Is.meaS (l := l) (last := m.1) h))))).of ?_
    rw [measP_cons]; unfold meaP
    simp only [and_assoc]
    constructor
    · rintro ⟨a, b, c, d, e, f, g⟩; exact ⟨a, b, c, d, e, f, by omega, g⟩
    · rintro ⟨a, b, c, d, e, f, _, g⟩; exact ⟨a, b, c, d, e, f, g⟩
/-- What a find has to be like, but its measurements. -/
def findP (Z : Prop) (no el sd lo hi sex wear layer square : Int) (M : Prop) : Prop :=
  (0 ≤ no ∧ no ≤ 4095) ∧ (0 ≤ el ∧ el ≤ 31) ∧ sideP el sd ∧ Z ∧ (0 ≤ sex ∧ sex ≤ 4) ∧ (0 ≤ wear ∧ wear ≤ 7) ∧ M ∧ 0 ≤ lo ∧ lo ≤ hi ∧ hi ≤ 120 ∧ (0 ≤ layer ∧ layer ≤ 255) ∧ (0 ≤ square ∧ square ≤ 255)
/-- A list of measurements, as a part of a find. -/
def MeaPart (x : Int) (mp mq : Option V → Option V) (M : Prop) : Prop := ∀ {t : Option V} {p : Prop}, Is x t p → Is x (mp t) (M ∧ p) ∧ Is x (mq t) (M ∧ p)
theorem meaPart_list (l : List Mea) : MeaPart x (meaO x (-1) l) (meaQ x none l) (measP (-1) l) := fun h => ⟨h.mea, h.meaN⟩
theorem meaPart_long : MeaPart x (longO x) (longO x) False := fun {t p} _ => ⟨(Is.no (x := x)).of (by simp), (Is.no (x := x)).of (by simp)⟩
theorem Is.find {W0 : World} {z : V} {vw : List (Option Blk)} {no el sd lo hi sex wear layer square : Int} {mp mq : Option V → Option V} {M : Prop} (hm : MeaPart x mp mq M)
    (h1 : goodB Tryz.prog W0 1 156 [z] vw (.bool (zonesI [z])) = true) (h : Is x t p) :
    Is x (findO x W0 z vw no el sd lo hi sex wear layer square mp t) (findP (zonesI [z] = true) no el sd lo hi sex wear layer square M ∧ p) := by
  refine (Is.up (Is.up (Is.side (Is.g h1 (Is.a' (Is.up (Is.up ((hm (Is.ge (Is.le (Is.le (Is.up (Is.up h)))))).1)))))))).of ?_
  unfold findP
  simp only [and_assoc]
theorem Is.valid {W0 : World} {z : V} {vw : List (Option Blk)} {no el sd lo hi sex wear layer square : Int} {mp mq : Option V → Option V} {M : Prop} (hm : MeaPart x mp mq M)
    (h1 : goodB Tryz.prog W0 1 161 [z] vw (.bool (zonesI [z])) = true) (h : Is x t p) :
    Is x (validO x W0 z vw no el sd lo hi sex wear layer square mq t) (findP (zonesI [z] = true) no el sd lo hi sex wear layer square M ∧ p) := by
  refine (Is.uq (Is.up (Is.sdQ (Is.g h1 (Is.a' (Is.up (Is.uq (Is.ge (Is.le (Is.nle (Is.uq (Is.uq ((hm h).2))))))))))))).of ?_
  unfold findP
  simp only [and_assoc]
  constructor
  · rintro ⟨a, b, c, d, e, f, g, h, i, j, k, l, m, n, o, q, r, s, u⟩
    exact ⟨a, b, c, d, e, f, g, h, i, j, s, k, l, m, n, o, q, r, u⟩
  · rintro ⟨a, b, c, d, e, f, g, h, i, j, k, l, m, n, o, q, r, s, u⟩
    exact ⟨a, b, c, d, e, f, g, h, i, j, l, m, n, o, q, r, s, k, u⟩
end Go.Proofs.YtilfiadkhohfiaaGreatDoor
/- Comparisons of outlines and of finds. -/
namespace Go.Proofs.YtilfiadkhohfiaaGreatDoor
set_option linter.unusedSimpArgs false
set_option linter.unusedVariables false
open Go Go.RowKit Go.Clo

def R64 (n : Int) : Prop := inR .i64 n = true
def RU (a : Nat) : Prop := inR .u64 (.ofNat a) = true
def RC (l : List V) : Prop := ∀ v ∈ l, ∃ n, v = i64 n ∧ R64 n
theorem R64.of {n : Int} (h : -9223372036854775808 ≤ n ∧ n ≤ 9223372036854775807) : R64 n := by
  unfold R64
  cases n with
  | ofNat m => show Nat.ble m (top .i64) = true; rw [Nat.ble_eq]; have h2 := h.2; show m ≤ 9223372036854775807; have : (m : Int) ≤ 9223372036854775807 := h2; omega
  | negSucc m => show (IntKind.signed .i64 && Nat.ble m (top .i64)) = true; have h1 := h.1; rw [Int.negSucc_eq] at h1; rw [show IntKind.signed .i64 = true from rfl, Bool.true_and, Nat.ble_eq]; show m ≤ 9223372036854775807; omega
theorem RU.of {a : Nat} (h : a < 18446744073709551616) : RU a := by
  unfold RU
  show Nat.ble a (top .u64) = true
  rw [Nat.ble_eq]; show a ≤ 18446744073709551615; omega
theorem RC.nil : RC [] := fun v h => by cases h
theorem RC.cons {n : Int} {l : List V} (h : R64 n) (k : RC l) : RC (i64 n :: l) := fun v hv => by
  cases hv with
  | head => exact ⟨n, rfl, h⟩
  | tail _ hv => exact k v hv
theorem RC.app {l l' : List V} (h : RC l) (k : RC l') : RC (l ++ l') := fun v hv => (List.mem_append.1 hv).elim (h v) (k v)
theorem RC.zero : ∀ n, RC (zeroC n)
  | 0 => RC.nil
  | n + 1 => RC.cons (R64.of (by omega)) (RC.zero n)
def RM (l : List Mea) : Prop := ∀ m ∈ l, R64 m.1 ∧ R64 m.2.1 ∧ R64 m.2.2
theorem RC.meaC : ∀ {l : List Mea}, RM l → RC (meaC l)
  | [], _ => RC.nil
  | m :: l, h => RC.cons (h m (.head _)).1 (RC.cons (h m (.head _)).2.1 (RC.cons (h m (.head _)).2.2 (RC.meaC fun m' hm => h m' (.tail _ hm))))
theorem zeroC_len : ∀ n, (zeroC n).length = n
  | 0 => rfl
  | n + 1 => by show (i64 0 :: zeroC n).length = _; rw [List.length_cons, zeroC_len n]
theorem meaC_len : ∀ l : List Mea, (meaC l).length = 3 * l.length
  | [] => rfl
  | m :: l => by show (meaC l).length + 1 + 1 + 1 = _; rw [meaC_len l, List.length_cons]; omega
theorem rngV_cons {a b : Int} {l l' : List V} (ha : R64 a) (hb : R64 b) (h : rngV l l' = true) : rngV (i64 a :: l) (i64 b :: l') = true := by
  show (inR .i64 a && (inR .i64 b && rngV l l')) = true
  rw [ha, hb, h]; rfl
theorem rngV_consU {a b : Nat} {l l' : List V} (ha : RU a) (hb : RU b) (h : rngV l l' = true) : rngV (w64 a :: l) (w64 b :: l') = true := by
  show (inR .u64 (.ofNat a) && (inR .u64 (.ofNat b) && rngV l l')) = true
  rw [ha, hb, h]; rfl
theorem rngV_app : ∀ {l l' r r' : List V}, RC l → RC l' → l.length = l'.length → rngV r r' = true → rngV (l ++ r) (l' ++ r') = true
  | [], [], _, _, _, _, _, h => h
  | [], _ :: _, _, _, _, _, hl, _ => by simp at hl
  | _ :: _, [], _, _, _, _, hl, _ => by simp at hl
  | v :: l, v' :: l', r, r', h1, h2, hl, h => by
    obtain ⟨n, rfl, hn⟩ := h1 v (.head _)
    obtain ⟨n', rfl, hn'⟩ := h2 v' (.head _)
    exact rngV_cons hn hn' (rngV_app (fun w hw => h1 w (.tail _ hw)) (fun w hw => h2 w (.tail _ hw)) (by simpa using hl) h)
theorem eqVs_cons {a b : Int} {l l' : List V} : eqVs (i64 a :: l) (i64 b :: l') = true ↔ a = b ∧ eqVs l l' = true := by
  show (intBeq a b && eqVs l l') = true ↔ _
  rw [Bool.and_eq_true, intBeq_iff]
theorem eqVs_consU {a b : Nat} {l l' : List V} : eqVs (w64 a :: l) (w64 b :: l') = true ↔ a = b ∧ eqVs l l' = true := by
  show (intBeq (.ofNat a) (.ofNat b) && eqVs l l') = true ↔ _
  rw [Bool.and_eq_true, intBeq_iff, Int.ofNat.injEq]
theorem eqVs_app : ∀ {l l' r r' : List V}, RC l → RC l' → l.length = l'.length → (eqVs (l ++ r) (l' ++ r') = true ↔ eqVs l l' = true ∧ eqVs r r' = true)
  | [], [], _, _, _, _, _ => by simp [eqVs]
  | [], _ :: _, _, _, _, _, hl => by simp at hl
  | _ :: _, [], _, _, _, _, hl => by simp at hl
  | v :: l, v' :: l', r, r', h1, h2, hl => by
    obtain ⟨n, rfl, hn⟩ := h1 v (.head _)
    obtain ⟨n', rfl, hn'⟩ := h2 v' (.head _)
    rw [List.cons_append, List.cons_append, eqVs_cons, eqVs_cons, eqVs_app (fun w hw => h1 w (.tail _ hw)) (fun w hw => h2 w (.tail _ hw)) (by simpa using hl), and_assoc]
theorem eqVs_refl : ∀ {l : List V}, RC l → eqVs l l = true
  | [], _ => rfl
  | v :: l, h => by
    obtain ⟨n, rfl, _⟩ := h v (.head _)
    exact eqVs_cons.2 ⟨rfl, eqVs_refl fun w hw => h w (.tail _ hw)⟩
theorem oL_rng {n kn kd fd ot no el sd cnt lo hi sex wear layer square n' kn' kd' fd' ot' no' el' sd' cnt' lo' hi' sex' wear' layer' square' : Int} {a b c d a' b' c' d' : Nat} {cs cs' : List V}
    (h : R64 n ∧ R64 kn ∧ R64 kd ∧ R64 fd ∧ R64 ot ∧ R64 no ∧ R64 el ∧ R64 sd ∧ RU a ∧ RU b ∧ RU c ∧ RU d ∧ R64 cnt ∧ RC cs ∧ R64 lo ∧ R64 hi ∧ R64 sex ∧ R64 wear ∧ R64 layer ∧ R64 square)
    (h' : R64 n' ∧ R64 kn' ∧ R64 kd' ∧ R64 fd' ∧ R64 ot' ∧ R64 no' ∧ R64 el' ∧ R64 sd' ∧ RU a' ∧ RU b' ∧ RU c' ∧ RU d' ∧ R64 cnt' ∧ RC cs' ∧ R64 lo' ∧ R64 hi' ∧ R64 sex' ∧ R64 wear' ∧ R64 layer' ∧ R64 square') (hl : cs.length = cs'.length) :
    rngV (oL n kn kd fd ot no el sd a b c d cnt cs lo hi sex wear layer square) (oL n' kn' kd' fd' ot' no' el' sd' a' b' c' d' cnt' cs' lo' hi' sex' wear' layer' square') = true := by
  obtain ⟨h1, h2, h3, h4, h5, h6, h7, h8, h9, h10, h11, h12, h13, h14, h15, h16, h17, h18, h19, h20⟩ := h
  obtain ⟨k1, k2, k3, k4, k5, k6, k7, k8, k9, k10, k11, k12, k13, k14, k15, k16, k17, k18, k19, k20⟩ := h'
  exact rngV_cons h1 k1 (rngV_cons h2 k2 (rngV_cons h3 k3 (rngV_cons h4 k4 (rngV_cons h5 k5 (rngV_cons h6 k6 (rngV_cons h7 k7 (rngV_cons h8 k8 (rngV_consU h9 k9 (rngV_consU h10 k10 (rngV_consU h11 k11 (rngV_consU h12 k12 (rngV_cons h13 k13 (rngV_app h14 k14 hl
    (rngV_cons h15 k15 (rngV_cons h16 k16 (rngV_cons h17 k17 (rngV_cons h18 k18 (rngV_cons h19 k19 (rngV_cons h20 k20 rfl)))))))))))))))))))
theorem oL_eq {n kn kd fd ot no el sd cnt lo hi sex wear layer square n' kn' kd' fd' ot' no' el' sd' cnt' lo' hi' sex' wear' layer' square' : Int} {a b c d a' b' c' d' : Nat} {cs cs' : List V}
    (h1 : RC cs) (h2 : RC cs') (hl : cs.length = cs'.length) :
    eqVs (oL n kn kd fd ot no el sd a b c d cnt cs lo hi sex wear layer square) (oL n' kn' kd' fd' ot' no' el' sd' a' b' c' d' cnt' cs' lo' hi' sex' wear' layer' square') = true ↔
    n = n' ∧ kn = kn' ∧ kd = kd' ∧ fd = fd' ∧ ot = ot' ∧ no = no' ∧ el = el' ∧ sd = sd' ∧ a = a' ∧ b = b' ∧ c = c' ∧ d = d' ∧ cnt = cnt' ∧ eqVs cs cs' = true ∧ lo = lo' ∧ hi = hi' ∧ sex = sex' ∧ wear = wear' ∧ layer = layer' ∧ square = square' := by
  unfold oL
  rw [eqVs_cons, eqVs_cons, eqVs_cons, eqVs_cons, eqVs_cons, eqVs_cons, eqVs_cons, eqVs_cons, eqVs_consU, eqVs_consU, eqVs_consU, eqVs_consU, eqVs_cons, eqVs_app h1 h2 hl, eqVs_cons, eqVs_cons, eqVs_cons, eqVs_cons, eqVs_cons, eqVs_cons]
  simp only [eqVs, and_true]
variable {t : Option V} {p : Prop}
theorem Is.cmp {l l' : List V} (h : rngV l l' = true) : Is 21 (cmpO l l') (eqVs l l' = true) := (Is.g h (Is.a' Is.yes)).of (by simp)
theorem Is.eqq {l l' : List V} (h : rngV l l' = true) (k : Is 21 t p) : Is 21 (eqQ l l' t) (eqVs l l' = true ∧ p) := (Is.g h (Is.n' k)).of (by simp)
def headP (n kn fd : Int) : Prop := (0 ≤ n ∧ n ≤ 4095) ∧ (0 ≤ kn ∧ kn ≤ 1048576) ∧ (0 ≤ fd ∧ fd ≤ 4095)
theorem Is.head {n kn fd : Int} (k : Is 21 t p) : Is 21 (headO n kn fd t) (headP n kn fd ∧ p) := (Is.up (Is.up (Is.up k))).of (by unfold headP; simp only [and_assoc])
theorem Is.headq {n kn fd : Int} (k : Is 21 t p) : Is 21 (headQ n kn fd t) (headP n kn fd ∧ p) := (Is.uq (Is.uq (Is.uq k))).of (by unfold headP; simp only [and_assoc])
theorem Is.age {lo hi : Int} (k : Is 21 t p) : Is 21 (ageO lo hi t) ((0 ≤ lo ∧ lo ≤ hi ∧ hi ≤ 120) ∧ p) := (Is.ge (Is.le (Is.le k))).of (by simp only [and_assoc])
theorem Is.one {m : Mea} (k : Is 21 t p) : Is 21 (oneO m t) (meaP m ∧ p) := (Is.up (Is.up (Is.ge (Is.le k)))).of (by unfold meaP; simp only [and_assoc])
def boneP (Z : Prop) (el sd sex wear : Int) : Prop := (0 ≤ el ∧ el ≤ 31) ∧ sideP el sd ∧ Z ∧ (0 ≤ sex ∧ sex ≤ 4) ∧ (0 ≤ wear ∧ wear ≤ 7)
theorem Is.bone {W0 : World} {z : V} {vw : List (Option Blk)} {el sd sex wear : Int} (h1 : goodB Tryz.prog W0 1 156 [z] vw (.bool (zonesI [z])) = true) (k : Is 21 t p) :
    Is 21 (boneO W0 z vw el sd sex wear t) (boneP (zonesI [z] = true) el sd sex wear ∧ p) := (Is.up (Is.side (Is.g h1 (Is.a' (Is.up (Is.up k)))))).of (by unfold boneP; simp only [and_assoc])
theorem Is.form {W0 : World} {z : V} {vw : List (Option Blk)} {el sd sex wear : Int} (h1 : goodB Tryz.prog W0 1 161 [z] vw (.bool (zonesI [z])) = true) (k : Is 21 t p) :
    Is 21 (formO W0 z vw el sd sex wear t) (boneP (zonesI [z] = true) el sd sex wear ∧ p) := (Is.up (Is.sdQ (Is.g h1 (Is.a' (Is.up (Is.up k)))))).of (by unfold boneP; simp only [and_assoc])
theorem Is.same {no el sd lo hi sex wear layer square no' el' sd' lo' hi' sex' wear' layer' square' : Int} {a b c d a' b' c' d' : Nat} (hu : RU a ∧ RU b ∧ RU c ∧ RU d) (hu' : RU a' ∧ RU b' ∧ RU c' ∧ RU d') (hr : R64 lo ∧ R64 hi) (hr' : R64 lo' ∧ R64 hi') (k : Is 21 t p) :
    Is 21 (sameQ no el sd a b c d lo hi sex wear layer square no' el' sd' a' b' c' d' lo' hi' sex' wear' layer' square' t)
      (no = no' ∧ el = el' ∧ sd = sd' ∧ a = a' ∧ b = b' ∧ c = c' ∧ d = d' ∧ lo = lo' ∧ hi = hi' ∧ sex = sex' ∧ wear = wear' ∧ layer = layer' ∧ square = square' ∧ p) := by
  refine (Is.nne (Is.nne (Is.nne (Is.eqq (rngV_consU hu.1 hu'.1 (rngV_consU hu.2.1 hu'.2.1 (rngV_consU hu.2.2.1 hu'.2.2.1 (rngV_consU hu.2.2.2 hu'.2.2.2 rfl)))) (Is.eqq (rngV_cons hr.1 hr'.1 (rngV_cons hr.2 hr'.2 rfl)) (Is.nne (Is.nne (Is.nne (Is.nne k))))))))).of ?_
  rw [eqVs_consU, eqVs_consU, eqVs_consU, eqVs_consU, eqVs_cons, eqVs_cons]
  simp only [eqVs, and_true, true_and, and_assoc]
end Go.Proofs.YtilfiadkhohfiaaGreatDoor
/- Both ways of CheckEvent, kind by kind. -/
namespace Go.Proofs.YtilfiadkhohfiaaGreatDoor
set_option linter.unusedSimpArgs false
set_option linter.unusedVariables false
open Go Go.RowKit Go.Clo

/-- The numbers of an event are numbers of the machine. -/
structure EvR (n kn kd fd ot no el sd lo hi sex wear layer square : Int) (a b c d : Nat) : Prop where
  n : R64 n
  kn : R64 kn
  kd : R64 kd
  fd : R64 fd
  ot : R64 ot
  no : R64 no
  el : R64 el
  sd : R64 sd
  lo : R64 lo
  hi : R64 hi
  sex : R64 sex
  wear : R64 wear
  layer : R64 layer
  square : R64 square
  a : RU a
  b : RU b
  c : RU c
  d : RU d
theorem R0 : R64 0 := R64.of (by omega)
theorem RU0 : RU 0 := RU.of (by omega)
section
variable {n kn kd fd ot no el sd lo hi sex wear layer square cnt : Int} {a b c d : Nat} {cs : List V} {te : Option V} {pe : Prop}
theorem EvR.rng {ot' no' el' sd' lo' hi' sex' wear' layer' square' cnt' : Int} {a' b' c' d' : Nat} {cs' : List V} (h : EvR n kn kd fd ot no el sd lo hi sex wear layer square a b c d) (h' : EvR n kn kd fd ot' no' el' sd' lo' hi' sex' wear' layer' square' a' b' c' d') (hc : R64 cnt) (hc' : R64 cnt') (hcs : RC cs) (hcs' : RC cs') (hl : cs.length = 24) (hl' : cs'.length = 24) :
    rngV (oL n kn kd fd ot no el sd a b c d cnt cs lo hi sex wear layer square) (oL n kn kd fd ot' no' el' sd' a' b' c' d' cnt' cs' lo' hi' sex' wear' layer' square') = true :=
  oL_rng ⟨h.n, h.kn, h.kd, h.fd, h.ot, h.no, h.el, h.sd, h.a, h.b, h.c, h.d, hc, hcs, h.lo, h.hi, h.sex, h.wear, h.layer, h.square⟩ ⟨h'.n, h'.kn, h'.kd, h'.fd, h'.ot, h'.no, h'.el, h'.sd, h'.a, h'.b, h'.c, h'.d, hc', hcs', h'.lo, h'.hi, h'.sex, h'.wear, h'.layer, h'.square⟩ (hl.trans hl'.symm)
variable (h : EvR n kn kd fd ot no el sd lo hi sex wear layer square a b c d) (hc : R64 cnt) (hcs : RC cs) (hl : cs.length = 24)
include h hc hcs hl
theorem k37 (he : Is 21 te pe) (hC : (cnt = 0 ∧ eqVs cs (zeroC 24) = true) ↔ pe) :
    ∃ z, headO n kn fd (cmpO (oL n kn kd fd ot no el sd a b c d cnt cs lo hi sex wear layer square) (oL n kn kd fd 0 0 0 0 0 0 0 0 0 (zeroC 24) 0 0 0 0 0 0)) = some (i64 z) ∧
      headQ n kn fd (nO 21 (!intBeq ot 0) (sameQ no el sd a b c d lo hi sex wear layer square 0 0 0 0 0 0 0 0 0 0 0 0 0 te)) = some (i64 z) := by
  refine Is.both (Is.head (Is.cmp (h.rng (cnt := cnt) ⟨h.n, h.kn, h.kd, h.fd, R0, R0, R0, R0, R0, R0, R0, R0, R0, R0, RU0, RU0, RU0, RU0⟩ hc R0 hcs (RC.zero 24) hl (zeroC_len 24))))
    (Is.headq (Is.nne (Is.same ⟨h.a, h.b, h.c, h.d⟩ ⟨RU0, RU0, RU0, RU0⟩ ⟨h.lo, h.hi⟩ ⟨R0, R0⟩ he))) ?_
  rw [oL_eq hcs (RC.zero 24) (by rw [hl, zeroC_len]), ← hC]
  by_cases g : headP n kn fd <;> by_cases e : eqVs cs (zeroC 24) = true <;> simp only [e, g, true_and, and_true, false_and, and_false, Bool.false_eq_true] <;> try omega
theorem k2 (he : Is 21 te pe) (hC : (cnt = 0 ∧ eqVs cs (zeroC 24) = true) ↔ pe) :
    ∃ z, headO n kn fd (upO 21 ot 4095 (aO 21 (!intBeq ot fd) (upO 21 no 4095 (cmpO (oL n kn kd fd ot no el sd a b c d cnt cs lo hi sex wear layer square) (oL n kn kd fd ot no 0 0 0 0 0 0 0 (zeroC 24) 0 0 0 0 0 0))))) = some (i64 z) ∧
      headQ n kn fd (upO 21 ot 4095 (aO 21 (!intBeq ot fd) (upO 21 no 4095 (sameQ no el sd a b c d lo hi sex wear layer square no 0 0 0 0 0 0 0 0 0 0 0 0 te)))) = some (i64 z) := by
  refine Is.both (Is.head (Is.up (Is.ne (Is.up (Is.cmp (h.rng (cnt := cnt) ⟨h.n, h.kn, h.kd, h.fd, h.ot, h.no, R0, R0, R0, R0, R0, R0, R0, R0, RU0, RU0, RU0, RU0⟩ hc R0 hcs (RC.zero 24) hl (zeroC_len 24)))))))
    (Is.headq (Is.up (Is.ne (Is.up (Is.same ⟨h.a, h.b, h.c, h.d⟩ ⟨RU0, RU0, RU0, RU0⟩ ⟨h.lo, h.hi⟩ ⟨R0, R0⟩ he))))) ?_
  rw [oL_eq hcs (RC.zero 24) (by rw [hl, zeroC_len]), ← hC]
  by_cases g : headP n kn fd <;> by_cases e : eqVs cs (zeroC 24) = true <;> simp only [e, g, true_and, and_true, false_and, and_false, Bool.false_eq_true] <;> try omega
theorem k5 (he : Is 21 te pe) (hC : (cnt = 0 ∧ eqVs cs (zeroC 24) = true) ↔ pe) :
    ∃ z, headO n kn fd (ageO lo hi (cmpO (oL n kn kd fd ot no el sd a b c d cnt cs lo hi sex wear layer square) (oL n kn kd fd 0 0 0 0 0 0 0 0 0 (zeroC 24) lo hi 0 0 0 0))) = some (i64 z) ∧
      headQ n kn fd (nO 21 (!intBeq ot 0) (ageO lo hi (sameQ no el sd a b c d lo hi sex wear layer square 0 0 0 0 0 0 0 lo hi 0 0 0 0 te))) = some (i64 z) := by
  refine Is.both (Is.head (Is.age (Is.cmp (h.rng (cnt := cnt) ⟨h.n, h.kn, h.kd, h.fd, R0, R0, R0, R0, h.lo, h.hi, R0, R0, R0, R0, RU0, RU0, RU0, RU0⟩ hc R0 hcs (RC.zero 24) hl (zeroC_len 24)))))
    (Is.headq (Is.nne (Is.age (Is.same ⟨h.a, h.b, h.c, h.d⟩ ⟨RU0, RU0, RU0, RU0⟩ ⟨h.lo, h.hi⟩ ⟨h.lo, h.hi⟩ he)))) ?_
  rw [oL_eq hcs (RC.zero 24) (by rw [hl, zeroC_len]), ← hC]
  by_cases g : headP n kn fd <;> by_cases e : eqVs cs (zeroC 24) = true <;> simp only [e, g, true_and, and_true, false_and, and_false, Bool.false_eq_true] <;> try omega
theorem k6 {W0 : World} {z : V} {vw : List (Option Blk)} (g1 : goodB Tryz.prog W0 1 156 [z] vw (.bool (zonesI [z])) = true) (g2 : goodB Tryz.prog W0 1 161 [z] vw (.bool (zonesI [z])) = true) (he : Is 21 te pe) (hC : (cnt = 0 ∧ eqVs cs (zeroC 24) = true) ↔ pe) :
    ∃ y, headO n kn fd (boneO W0 z vw el sd sex wear (cmpO (oL n kn kd fd ot no el sd a b c d cnt cs lo hi sex wear layer square) (oL n kn kd fd 0 0 el sd a b c d 0 (zeroC 24) 0 0 sex wear 0 0))) = some (i64 y) ∧
      headQ n kn fd (nO 21 (!intBeq ot 0) (formO W0 z vw el sd sex wear (sameQ no el sd a b c d lo hi sex wear layer square 0 el sd a b c d 0 0 sex wear 0 0 te))) = some (i64 y) := by
  refine Is.both (Is.head (Is.bone g1 (Is.cmp (h.rng (cnt := cnt) ⟨h.n, h.kn, h.kd, h.fd, R0, R0, h.el, h.sd, R0, R0, h.sex, h.wear, R0, R0, h.a, h.b, h.c, h.d⟩ hc R0 hcs (RC.zero 24) hl (zeroC_len 24)))))
    (Is.headq (Is.nne (Is.form g2 (Is.same ⟨h.a, h.b, h.c, h.d⟩ ⟨h.a, h.b, h.c, h.d⟩ ⟨h.lo, h.hi⟩ ⟨R0, R0⟩ he)))) ?_
  rw [oL_eq hcs (RC.zero 24) (by rw [hl, zeroC_len]), ← hC]
  by_cases g : headP n kn fd <;> by_cases e : eqVs cs (zeroC 24) = true <;> by_cases f : boneP (zonesI [z] = true) el sd sex wear <;> simp only [e, f, g, true_and, and_true, false_and, and_false, Bool.false_eq_true] <;> try omega
theorem k4 {m : Mea} (hm : RM [m]) :
    ∃ z, headO n kn fd (oneO m (cmpO (oL n kn kd fd ot no el sd a b c d cnt cs lo hi sex wear layer square) (oL n kn kd fd 0 0 0 0 0 0 0 0 cnt cs 0 0 0 0 0 0))) = some (i64 z) ∧
      headQ n kn fd (nO 21 (!intBeq ot 0) (oneO m (sameQ no el sd a b c d lo hi sex wear layer square 0 0 0 0 0 0 0 0 0 0 0 0 0 (eqQ (meaC [m]) (meaC [m]) (some (i64 0)))))) = some (i64 z) := by
  have hmc := RC.meaC hm
  have hq : rngV (meaC [m] ++ []) (meaC [m] ++ []) = true := rngV_app hmc hmc rfl rfl
  rw [List.append_nil] at hq
  refine Is.both (Is.head (Is.one (Is.cmp (h.rng (cnt := cnt) ⟨h.n, h.kn, h.kd, h.fd, R0, R0, R0, R0, R0, R0, R0, R0, R0, R0, RU0, RU0, RU0, RU0⟩ hc hc hcs hcs hl hl))))
    (Is.headq (Is.nne (Is.one (Is.same ⟨h.a, h.b, h.c, h.d⟩ ⟨RU0, RU0, RU0, RU0⟩ ⟨h.lo, h.hi⟩ ⟨R0, R0⟩ (Is.eqq hq Is.yes))))) ?_
  rw [oL_eq hcs hcs rfl, eqVs_refl hcs, eqVs_refl hmc]
  by_cases g : headP n kn fd <;> by_cases f : meaP m <;> simp only [f, g, true_and, and_true, false_and, and_false] <;> try omega
theorem k1 {W0 : World} {z : V} {vw : List (Option Blk)} {mp mq : Option V → Option V} {M : Prop} (hm : MeaPart 21 mp mq M) (g1 : goodB Tryz.prog W0 1 156 [z] vw (.bool (zonesI [z])) = true) (g2 : goodB Tryz.prog W0 1 161 [z] vw (.bool (zonesI [z])) = true) :
    ∃ y, headO n kn fd (aO 21 (intBeq no fd) (findO 21 W0 z vw no el sd lo hi sex wear layer square mp (cmpO (oL n kn kd fd ot no el sd a b c d cnt cs lo hi sex wear layer square) (oL n kn kd fd 0 no el sd a b c d cnt cs lo hi sex wear layer square)))) = some (i64 y) ∧
      headQ n kn fd (nO 21 (!intBeq ot 0) (validO 21 W0 z vw no el sd lo hi sex wear layer square mq (nO 21 (!intBeq no fd) (some (i64 0))))) = some (i64 y) := by
  refine Is.both (Is.head (Is.eq (Is.find hm g1 (Is.cmp (h.rng (cnt := cnt) ⟨h.n, h.kn, h.kd, h.fd, R0, h.no, h.el, h.sd, h.lo, h.hi, h.sex, h.wear, h.layer, h.square, h.a, h.b, h.c, h.d⟩ hc hc hcs hcs hl hl)))))
    (Is.headq (Is.nne (Is.valid hm g2 (Is.nne Is.yes)))) ?_
  rw [oL_eq hcs hcs rfl, eqVs_refl hcs]
  by_cases g : headP n kn fd <;> by_cases f : findP (zonesI [z] = true) no el sd lo hi sex wear layer square M <;> simp only [f, g, true_and, and_true, false_and, and_false] <;> try omega
omit h hc hcs hl in
theorem k0 : ∃ z, headO n kn fd (some (i64 21)) = some (i64 z) ∧ headQ n kn fd (nO 21 (!intBeq ot 0) (some (i64 21))) = some (i64 z) := by
  refine Is.both (Is.head Is.no) (Is.headq (Is.nne Is.no)) ?_
  simp only [and_false]
end
theorem cf_rf {W0 : World} {z : V} {vw : List (Option Blk)} {no el sd lo hi sex wear layer square : Int} {mp mq : Option V → Option V} {M : Prop} (hm : MeaPart 20 mp mq M) (g1 : goodB Tryz.prog W0 1 156 [z] vw (.bool (zonesI [z])) = true) (g2 : goodB Tryz.prog W0 1 161 [z] vw (.bool (zonesI [z])) = true) :
    ∃ y, findO 20 W0 z vw no el sd lo hi sex wear layer square mp (some (i64 0)) = some (i64 y) ∧ validO 20 W0 z vw no el sd lo hi sex wear layer square mq (some (i64 0)) = some (i64 y) :=
  Is.both (Is.find hm g1 Is.yes) (Is.valid hm g2 Is.yes) Iff.rfl
theorem kind_cases (kd : Int) : kd = 1 ∨ kd = 2 ∨ kd = 3 ∨ kd = 4 ∨ kd = 5 ∨ kd = 6 ∨ kd = 7 ∨ kd = 0 ∨ (∃ kk : Nat, kd = .ofNat (kk + 8)) ∨ ∃ kk : Nat, kd = .negSucc kk := by
  cases kd with
  | negSucc kk => exact .inr (.inr (.inr (.inr (.inr (.inr (.inr (.inr (.inr ⟨kk, rfl⟩))))))))
  | ofNat m =>
    by_cases hm : 8 ≤ m
    · exact .inr (.inr (.inr (.inr (.inr (.inr (.inr (.inr (.inl ⟨m - 8, by rw [show m - 8 + 8 = m by omega]⟩))))))))
    · have : Int.ofNat m = (m : Int) := rfl
      omega
theorem endYes : Is 21 (some (i64 0)) True := Is.yes
theorem endNo : Is 21 (some (i64 21)) False := Is.no
theorem endC0 : ((0 : Int) = 0 ∧ eqVs (zeroC 24) (zeroC 24) = true) ↔ True := by simp [eqVs_refl (RC.zero 24)]
theorem endCn {cnt : Int} {cs : List V} (h : cnt ≠ 0) : (cnt = 0 ∧ eqVs cs (zeroC 24) = true) ↔ False := ⟨fun k => h k.1, False.elim⟩
end Go.Proofs.YtilfiadkhohfiaaGreatDoor
/- Finds and events in a world. -/
namespace Go.Proofs.YtilfiadkhohfiaaGreatDoor
set_option linter.unusedSimpArgs false
set_option linter.unusedVariables false
open Go Go.RowKit Go.Clo

variable {P : Program} {W0 : World}

theorem valK_step (hmix : P.follows .mixedOrders = true) {k : Nat} {tbl : FuncId → Option (List V → List (Option Blk) → V)} {n : Nat} {f : FuncId} {args : List V} {s : St} {v : V}
    (hv : valK P (semS P W0 k tbl) n f args s = some v) (ha : askK P (semS P W0 k tbl) n f args s false = askK P (semS P W0 k tbl) n f args s true) {ρ : Rho} {w : World} (hR : Rel W0 ρ s w) {us : List Value} (he : EL ρ args us) :
    Calls P f us.toArray w fun e w' => ∃ ρ' s' u, e = .returned u ∧ Step W0 ρ s w ρ' s' w' ∧ E ρ' v u := by
  obtain ⟨s', hc⟩ := valK_ok hv ha
  refine (callV_ok (runs_ok hmix semS_ok n) semS_ok hc hR he).mono ?_
  rintro e w' ⟨ρ', u, rfl, hst, hE⟩
  exact ⟨ρ', s', u, rfl, hst, hE⟩
/-- A run that can write nothing that was there. -/
theorem Step.belowOf {ρ ρ' : Rho} {s s' : St} {w w' : World} (h : Rel W0 ρ s w) (hst : Step W0 ρ s w ρ' s' w') (hi : ∀ r, ¬ Img ρ s r) : Below w.heap.size w w' :=
  ⟨hst.rel.below.os.trans h.below.os.symm, hst.rel.below.tape.trans h.below.tape.symm, hst.rel.below.output.trans h.below.output.symm, hst.wsize, fun r hr => hst.keeps r hr (hi r)⟩
def ro1 (l : Go.Clo.Loc) : Rho := Rho.upd (fun _ => none) 0 l
/-- The cells that a list of measurements has. -/
def meaVs : List Mea → List Value
  | [] => []
  | m :: l => .int .i64 m.1 :: .int .i64 m.2.1 :: .int .i64 m.2.2 :: meaVs l
theorem E_i64 {ρ : Rho} (n : Int) : E ρ (i64 n) (.int .i64 n) := by unfold i64; simp only [E]
theorem E_w64 {ρ : Rho} (n : Nat) : E ρ (w64 n) (.int .u64 (n : Int)) := by unfold w64; simp only [E]; rfl
theorem EL_mea {ρ : Rho} : ∀ l : List Mea, EL ρ (meaC l) (meaVs l)
  | [] => EL.nil
  | m :: l => EL.cons (E_i64 _) (EL.cons (E_i64 _) (EL.cons (E_i64 _) (EL_mea l)))
/-- Measurements that lie in a world. -/
def MeaIn (W : World) (b o : Nat) (l : List Mea) : Prop := b < W.heap.size ∧ ∀ (i : Nat) (u : Value), (meaVs l)[i]? = some u → W.cell? ⟨b, o + i, none⟩ = some u
theorem MeaIn.below {W w : World} {b o : Nat} {l : List Mea} (h : MeaIn W b o l) (hb : Below W.heap.size W w) : MeaIn w b o l :=
  ⟨Nat.lt_of_lt_of_le h.1 hb.size, fun i u hu => by rw [World.cell?_of_block (hb.block b h.1)]; exact h.2 i u hu⟩
theorem roSt_eq (c : List V) : roSt c = (⟨.nil, 0⟩ : St).alloc (.ro c) := rfl
theorem noImg_ro {ρ : Rho} {c : List V} (r : Nat) : ¬ Img ρ (roSt c) r := by
  rintro ⟨b, x, l, hb, ha, _, _⟩
  have : (roSt c).get b = if b = 0 then some (.ro c) else (⟨.nil, 0⟩ : St).get b := by rw [roSt_eq, St.get_alloc]
  rw [this] at hb
  split at hb
  · injection hb with hb; subst hb; exact ha
  · cases hb
theorem Rel.start' {W w : World} (hb : Below W.heap.size W w) : Rel W (fun _ => none) ⟨.nil, 0⟩ w :=
  ⟨hb, fun b x h => (by cases h), fun _ _ => rfl, fun b _ _ _ _ _ h => (by cases h)⟩
theorem rel_ro {W w : World} (hb : Below W.heap.size W w) {b o cap : Nat} {l : List Mea} (h : MeaIn W b o l) : Rel W (ro1 ⟨b, o, cap⟩) (roSt (meaC l)) w := by
  refine (Rel.start' hb).addRo (l := ⟨b, o, cap⟩) h.1 fun i v hv => ?_
  obtain ⟨u, hu, he⟩ := (EL_mea (ρ := fun _ => none) l).at hv
  exact ⟨u, (h.below hb).2 i u hu, he⟩
theorem rel_none {W w : World} (hb : Below W.heap.size W w) (hs : 0 < W.heap.size) : Rel W (ro1 ⟨0, 0, 0⟩) (roSt []) w :=
  (Rel.start' hb).addRo (l := ⟨0, 0, 0⟩) hs fun i v hv => by simp at hv
/-- A slice of measurements as a value: nil, or of a capacity. -/
def MeaAt (W : World) (ms : Value) (oc : Option Nat) (l : List Mea) : Prop := match oc with
  | none => 0 < W.heap.size ∧ ms = .slice none 0 0 ∧ l = []
  | some cap => ∃ b o, ms = .slice (some ⟨b, o, none⟩) l.length cap ∧ MeaIn W b o l
def mvOf (i : Nat) (oc : Option Nat) (l : List Mea) : V := match oc with
  | none => .nils
  | some cap => .sl i 0 l.length (.exact cap)
theorem MeaAt.rel {W w : World} {ms : Value} {oc : Option Nat} {l : List Mea} (h : MeaAt W ms oc l) (hb : Below W.heap.size W w) : ∃ ρ, Rel W ρ (roSt (meaC l)) w ∧ E ρ (mvOf 0 oc l) ms := by
  cases oc with
  | none =>
    obtain ⟨hs, rfl, rfl⟩ := h
    exact ⟨_, rel_none hb hs, by simp only [mvOf, E]⟩
  | some cap =>
    obtain ⟨b, o, rfl, hin⟩ := h
    exact ⟨_, rel_ro hb hin (cap := cap), by simp only [mvOf, E]; exact ⟨⟨b, o, cap⟩, rfl, rfl⟩⟩
theorem meaVs_at : ∀ {l : List Mea} {j : Nat} {u : Value}, (meaVs l)[j]? = some u → ∃ n, u = .int .i64 n ∧ (meaC l)[j]? = some (i64 n)
  | [], j, u, h => by simp [meaVs] at h
  | m :: l, 0, u, h => ⟨m.1, (Option.some.inj h).symm, rfl⟩
  | m :: l, 1, u, h => ⟨m.2.1, (Option.some.inj h).symm, rfl⟩
  | m :: l, 2, u, h => ⟨m.2.2, (Option.some.inj h).symm, rfl⟩
  | m :: l, j + 3, u, h => by
    have h' : (meaVs l)[j]? = some u := h
    obtain ⟨n, h1, h2⟩ := meaVs_at h'
    exact ⟨n, h1, h2⟩
/-- What lies in a part of the memory that is read. -/
theorem meaAt_of {W w : World} {ρ : Rho} {s : St} (hR : Rel W ρ s w) (hs : 0 < W.heap.size) {i : Nat} {oc : Option Nat} {l : List Mea} (hl : oc = none → l = []) (hg : s.get i = some (.ro (meaC l))) {u : Value} (he : E ρ (mvOf i oc l) u) : MeaAt W u oc l := by
  cases oc with
  | none => simp only [mvOf, E] at he; exact ⟨hs, he, hl rfl⟩
  | some cap =>
    simp only [mvOf, E] at he
    obtain ⟨k, hk, rfl⟩ := he
    obtain ⟨_, k', hk', hside, _, hok⟩ := hR.blk i _ hg
    rw [hk] at hk'; injection hk' with hk'; subst hk'
    have hside : k.blk < W.heap.size := hside
    refine ⟨k.blk, k.off + 0, rfl, hside, fun j u hu => ?_⟩
    obtain ⟨n, rfl, hn⟩ := meaVs_at hu
    obtain ⟨u', h1, h2⟩ := hok j _ hn
    have h2 : u' = .int .i64 n := by unfold i64 at h2; simpa only [E] using h2
    subst h2
    rw [Nat.add_zero, ← World.cell?_of_block (hR.below.block _ hside)]
    exact h1
/-- A find as values. -/
def finVs (no el sd : Int) (a b c d : Nat) (ms : Value) (lo hi sex wear layer square : Int) : List Value :=
  [.int .i64 no, .int .i64 el, .int .i64 sd, .int .u64 (a : Int), .int .u64 (b : Int), .int .u64 (c : Int), .int .u64 (d : Int), ms, .int .i64 lo, .int .i64 hi, .int .i64 sex, .int .i64 wear, .int .i64 layer, .int .i64 square]
def evVs (n kn kd fd ot : Int) (f : List Value) : Value := .agg (.int .i64 n :: .int .i64 kn :: .int .i64 kd :: .int .i64 fd :: .int .i64 ot :: f).toArray
theorem EL_fin {ρ : Rho} {no el sd : Int} {a b c d : Nat} {mv : V} {ms : Value} {lo hi sex wear layer square : Int} (h : E ρ mv ms) : EL ρ (finL no el sd a b c d mv lo hi sex wear layer square) (finVs no el sd a b c d ms lo hi sex wear layer square) :=
  EL.cons (E_i64 _) (EL.cons (E_i64 _) (EL.cons (E_i64 _) (EL.cons (E_w64 _) (EL.cons (E_w64 _) (EL.cons (E_w64 _) (EL.cons (E_w64 _) (EL.cons h (EL.cons (E_i64 _) (EL.cons (E_i64 _) (EL.cons (E_i64 _) (EL.cons (E_i64 _) (EL.cons (E_i64 _) (EL.cons (E_i64 _) EL.nil)))))))))))))
theorem E_agg {ρ : Rho} {l : List V} {us : List Value} (h : EL ρ l us) : E ρ (.agg l) (.agg us.toArray) := by simp only [E]; exact ⟨us, rfl, h⟩
theorem E_ev {ρ : Rho} {n kn kd fd ot : Int} {l : List V} {us : List Value} (h : EL ρ l us) : E ρ (evL n kn kd fd ot l) (evVs n kn kd fd ot us) :=
  E_agg (EL.cons (E_i64 _) (EL.cons (E_i64 _) (EL.cons (E_i64 _) (EL.cons (E_i64 _) (EL.cons (E_i64 _) h)))))
theorem E_i64_inv {ρ : Rho} {z : Int} {u : Value} (h : E ρ (i64 z) u) : u = .int .i64 z := by unfold i64 at h; simpa only [E] using h
/-- Of a run to a contract. -/
theorem int_calls (hmix : Tryz.prog.follows .mixedOrders = true) {W : World} {f : FuncId} {arg : V} {u : Value} {z : Int} {ms : Value} {oc : Option Nat} {l : List Mea} (hM : MeaAt W ms oc l)
    (hu : ∀ ρ, E ρ (mvOf 0 oc l) ms → E ρ arg u)
    (hv : valK Tryz.prog (semS Tryz.prog W 1 tb) 60 f [arg] (roSt (meaC l)) = some (i64 z)) (ha : askK Tryz.prog (semS Tryz.prog W 1 tb) 60 f [arg] (roSt (meaC l)) false = askK Tryz.prog (semS Tryz.prog W 1 tb) 60 f [arg] (roSt (meaC l)) true)
    (w : World) (hb : Below W.heap.size W w) : Calls Tryz.prog f #[u] w fun e w' => e = .returned (.int .i64 z) ∧ Below w.heap.size w w' := by
  obtain ⟨ρ, hR, he⟩ := hM.rel hb
  refine (valK_step hmix hv ha hR (us := [u]) (EL.cons (hu ρ he) EL.nil)).mono ?_
  rintro e w' ⟨ρ', s', y, rfl, hst, hE⟩
  exact ⟨by rw [E_i64_inv hE], Step.belowOf hR hst noImg_ro⟩
end Go.Proofs.YtilfiadkhohfiaaGreatDoor
/- The law FindsCheckSpec returns true, if its sane does. -/
namespace Go.Proofs.YtilfiadkhohfiaaGreatDoor
set_option linter.unusedSimpArgs false
set_option linter.unusedVariables false
open Go Go.RowKit Go.Clo
noncomputable section
def st2 (c c' : List V) : St := ((⟨.nil, 0⟩ : St).alloc (.ro c)).alloc (.ro c')
def tb3 (z1 z2 z3 z4 : Int) (f : FuncId) : Option (List V → List (Option Blk) → V) :=
  cond (Nat.beq f 18) (some fun _ _ => .bool true) (cond (Nat.beq f 19) (some fun _ _ => i64 z1) (cond (Nat.beq f 20) (some fun _ _ => i64 z2) (cond (Nat.beq f 21) (some fun _ _ => i64 z3) (cond (Nat.beq f 22) (some fun _ _ => i64 z4) none))))
def lawO (W0 : World) (vw : List (Option Blk)) (fV eV : V) (z1 z2 z3 z4 : Int) : Option V :=
  goodO (goodB Tryz.prog W0 2 18 [] vw (.bool true)) (goodO (goodB Tryz.prog W0 2 19 [fV] vw (i64 z1)) (goodO (goodB Tryz.prog W0 2 20 [fV] vw (i64 z2)) (cond (intBeq z1 z2)
    (goodO (goodB Tryz.prog W0 2 21 [eV] vw (i64 z3)) (goodO (goodB Tryz.prog W0 2 22 [eV] vw (i64 z4)) (some (.bool (intBeq z3 z4))))) (some (.bool false)))))
end
set_option maxRecDepth 100000
section
variable (W0 : World) (z1 z2 z3 z4 : Int) (c c' : List V) (no el sd : Int) (a b d e : Nat) (lo hi sex wear layer square : Int) (n kn kd fd ot no' el' sd' : Int) (a' b' d' e' : Nat) (lo' hi' sex' wear' layer' square' : Int) (oc oc' : Option Nat) (l l' : List Mea)
theorem law_run : valK Tryz.prog (semS Tryz.prog W0 2 (tb3 z1 z2 z3 z4)) 60 3 [.agg (finL no el sd a b d e (mvOf 0 oc l) lo hi sex wear layer square), evL n kn kd fd ot (finL no' el' sd' a' b' d' e' (mvOf 1 oc' l') lo' hi' sex' wear' layer' square')] (st2 c c') =
    lawO W0 [some (.ro c'), some (.ro c)] (.agg (finL no el sd a b d e (mvOf 0 oc l) lo hi sex wear layer square)) (evL n kn kd fd ot (finL no' el' sd' a' b' d' e' (mvOf 1 oc' l') lo' hi' sex' wear' layer' square')) z1 z2 z3 z4 := by
  cases oc <;> cases oc' <;> kernel_rfl
theorem law_ask : askK Tryz.prog (semS Tryz.prog W0 2 (tb3 z1 z2 z3 z4)) 60 3 [.agg (finL no el sd a b d e (mvOf 0 oc l) lo hi sex wear layer square), evL n kn kd fd ot (finL no' el' sd' a' b' d' e' (mvOf 1 oc' l') lo' hi' sex' wear' layer' square')] (st2 c c') false =
    askK Tryz.prog (semS Tryz.prog W0 2 (tb3 z1 z2 z3 z4)) 60 3 [.agg (finL no el sd a b d e (mvOf 0 oc l) lo hi sex wear layer square), evL n kn kd fd ot (finL no' el' sd' a' b' d' e' (mvOf 1 oc' l') lo' hi' sex' wear' layer' square')] (st2 c c') true := by
  cases oc <;> cases oc' <;> kernel_rfl
end
theorem noImg_alloc {ρ : Rho} {s : St} {c : List V} (h : ∀ r, ¬ Img ρ s r) (r : Nat) : ¬ Img ρ (s.alloc (.ro c)) r := by
  rintro ⟨b, x, l, hb, ha, hl, hr⟩
  rw [St.get_alloc] at hb
  split at hb
  · injection hb with hb; subst hb; exact ha
  · exact h r ⟨b, x, l, hb, ha, hl, hr⟩
theorem MeaAt.add {W w : World} {ρ : Rho} {s : St} (hR : Rel W ρ s w) {ms : Value} {oc : Option Nat} {l : List Mea} (h : MeaAt W ms oc l) : ∃ ρ', ρ.le ρ' ∧ Rel W ρ' (s.alloc (.ro (meaC l))) w ∧ E ρ' (mvOf s.size oc l) ms := by
  have hn : ρ s.size = none := hR.fresh _ (Nat.le_refl _)
  cases oc with
  | none =>
    obtain ⟨hs, rfl, rfl⟩ := h
    exact ⟨_, Rho.le_upd ⟨0, 0, 0⟩ hn, hR.addRo (l := ⟨0, 0, 0⟩) hs fun i v hv => by simp [meaC] at hv, by simp only [mvOf, E]⟩
  | some cap =>
    obtain ⟨b, o, rfl, hin⟩ := h
    refine ⟨_, Rho.le_upd ⟨b, o, cap⟩ hn, hR.addRo (l := ⟨b, o, cap⟩) hin.1 fun i v hv => ?_, by simp only [mvOf, E]; exact ⟨⟨b, o, cap⟩, Rho.upd_same _ _ _, rfl⟩⟩
    obtain ⟨u, hu, he⟩ := (EL_mea (ρ := ρ) l).at hv
    exact ⟨u, (hin.below hR.below).2 i u hu, he⟩
theorem i64_inv {ρ : Rho} {n : Int} {l : List V} {us : List Value} (h : EL ρ (i64 n :: l) us) : ∃ r, us = .int .i64 n :: r ∧ EL ρ l r := by
  obtain ⟨u, r, rfl, h1, h2⟩ := EL.cons_inv h
  exact ⟨r, by rw [E_i64_inv h1], h2⟩
theorem w64_inv {ρ : Rho} {n : Nat} {l : List V} {us : List Value} (h : EL ρ (w64 n :: l) us) : ∃ r, us = .int .u64 (n : Int) :: r ∧ EL ρ l r := by
  obtain ⟨u, r, rfl, h1, h2⟩ := EL.cons_inv h
  have : u = .int .u64 (Int.ofNat n) := by unfold w64 at h1; simpa only [E] using h1
  exact ⟨r, by rw [this]; rfl, h2⟩
theorem EL_fin_inv {ρ : Rho} {no el sd : Int} {a b c d : Nat} {mv : V} {lo hi sex wear layer square : Int} {us : List Value} (h : EL ρ (finL no el sd a b c d mv lo hi sex wear layer square) us) : ∃ ms, us = finVs no el sd a b c d ms lo hi sex wear layer square ∧ E ρ mv ms := by
  unfold finL at h
  obtain ⟨r1, rfl, h1⟩ := i64_inv h
  obtain ⟨r2, rfl, h2⟩ := i64_inv h1
  obtain ⟨r3, rfl, h3⟩ := i64_inv h2
  obtain ⟨r4, rfl, h4⟩ := w64_inv h3
  obtain ⟨r5, rfl, h5⟩ := w64_inv h4
  obtain ⟨r6, rfl, h6⟩ := w64_inv h5
  obtain ⟨r7, rfl, h7⟩ := w64_inv h6
  obtain ⟨ms, r8, rfl, hm, h8⟩ := EL.cons_inv h7
  obtain ⟨r9, rfl, h9⟩ := i64_inv h8
  obtain ⟨r10, rfl, h10⟩ := i64_inv h9
  obtain ⟨r11, rfl, h11⟩ := i64_inv h10
  obtain ⟨r12, rfl, h12⟩ := i64_inv h11
  obtain ⟨r13, rfl, h13⟩ := i64_inv h12
  obtain ⟨r14, rfl, h14⟩ := i64_inv h13
  obtain rfl := EL.nil_inv h14
  exact ⟨ms, rfl, hm⟩
theorem E_agg_inv {ρ : Rho} {l : List V} {us : List Value} (h : EL ρ [.agg l] us) : ∃ vs : List Value, us = [.agg vs.toArray] ∧ EL ρ l vs := by
  obtain ⟨u, r, rfl, h1, h2⟩ := EL.cons_inv h
  obtain rfl := EL.nil_inv h2
  simp only [E] at h1
  obtain ⟨vs, rfl, h3⟩ := h1
  exact ⟨vs, rfl, h3⟩
theorem view2 {s : St} {x y : Option Blk} (h : viewV 2 s = [x, y]) : s.get 1 = x ∧ s.get 0 = y := by
  have h : [s.get 1, s.get 0] = [x, y] := h
  injection h with h1 h; injection h with h2 _
  exact ⟨h1, h2⟩
theorem law_true (hmix : Tryz.prog.follows .mixedOrders = true) {W : World} (hs : 0 < W.heap.size) (hS : ∀ w, Below W.heap.size W w → Calls Tryz.prog 18 #[] w fun e w' => e = .returned (.bool true) ∧ Below w.heap.size w w')
    {no el sd : Int} {a b d e : Nat} {lo hi sex wear layer square : Int} {n kn kd fd ot no' el' sd' : Int} {a' b' d' e' : Nat} {lo' hi' sex' wear' layer' square' : Int} {oc oc' : Option Nat} {l l' : List Mea} (ho : oc = none → l = []) (ho' : oc' = none → l' = [])
    (hF : ∃ z : Int, ∀ ms, MeaAt W ms oc l → ∀ w, Below W.heap.size W w → (Calls Tryz.prog 19 #[.agg (finVs no el sd a b d e ms lo hi sex wear layer square).toArray] w fun e w' => e = .returned (.int .i64 z) ∧ Below w.heap.size w w') ∧
      (Calls Tryz.prog 20 #[.agg (finVs no el sd a b d e ms lo hi sex wear layer square).toArray] w fun e w' => e = .returned (.int .i64 z) ∧ Below w.heap.size w w'))
    (hE : ∃ z : Int, ∀ ms, MeaAt W ms oc' l' → ∀ w, Below W.heap.size W w → (Calls Tryz.prog 21 #[evVs n kn kd fd ot (finVs no' el' sd' a' b' d' e' ms lo' hi' sex' wear' layer' square')] w fun e w' => e = .returned (.int .i64 z) ∧ Below w.heap.size w w') ∧
      (Calls Tryz.prog 22 #[evVs n kn kd fd ot (finVs no' el' sd' a' b' d' e' ms lo' hi' sex' wear' layer' square')] w fun e w' => e = .returned (.int .i64 z) ∧ Below w.heap.size w w'))
    {ms ms' : Value} (h1 : MeaAt W ms oc l) (h2 : MeaAt W ms' oc' l') :
    Calls Tryz.prog 3 #[.agg (finVs no el sd a b d e ms lo hi sex wear layer square).toArray, evVs n kn kd fd ot (finVs no' el' sd' a' b' d' e' ms' lo' hi' sex' wear' layer' square')] W fun e w' => e = .returned (.bool true) ∧ Below W.heap.size W w' := by
  obtain ⟨z, hF⟩ := hF
  obtain ⟨y, hE⟩ := hE
  obtain ⟨ρ1, _, hR1, e1⟩ := h1.add (Rel.start' (Below.refl W.heap.size W))
  obtain ⟨ρ2, hle, hR2, e2⟩ := h2.add hR1
  have e1 := E.mono hle _ e1
  have hv := law_run W z z y y (meaC l) (meaC l') no el sd a b d e lo hi sex wear layer square n kn kd fd ot no' el' sd' a' b' d' e' lo' hi' sex' wear' layer' square' oc oc' l l'
  have ha := law_ask W z z y y (meaC l) (meaC l') no el sd a b d e lo hi sex wear layer square n kn kd fd ot no' el' sd' a' b' d' e' lo' hi' sex' wear' layer' square' oc oc' l l'
  have fin : ∀ {s : St} {ρ : Rho} {w : World} {us : List Value}, viewV 2 s = [some (.ro (meaC l')), some (.ro (meaC l))] → Rel W ρ s w → EL ρ [.agg (finL no el sd a b d e (mvOf 0 oc l) lo hi sex wear layer square)] us → ∃ ms, us = [.agg (finVs no el sd a b d e ms lo hi sex wear layer square).toArray] ∧ MeaAt W ms oc l := fun hvw hR he => by
    obtain ⟨vs, rfl, h⟩ := E_agg_inv he
    obtain ⟨ms, rfl, hm⟩ := EL_fin_inv h
    exact ⟨ms, rfl, meaAt_of hR hs ho (view2 hvw).2 hm⟩
  have ev : ∀ {s : St} {ρ : Rho} {w : World} {us : List Value}, viewV 2 s = [some (.ro (meaC l')), some (.ro (meaC l))] → Rel W ρ s w → EL ρ [evL n kn kd fd ot (finL no' el' sd' a' b' d' e' (mvOf 1 oc' l') lo' hi' sex' wear' layer' square')] us → ∃ ms, us = [evVs n kn kd fd ot (finVs no' el' sd' a' b' d' e' ms lo' hi' sex' wear' layer' square')] ∧ MeaAt W ms oc' l' := fun hvw hR he => by
    obtain ⟨vs, rfl, k0⟩ := E_agg_inv he
    obtain ⟨r1, rfl, k1⟩ := i64_inv k0
    obtain ⟨r2, rfl, k2⟩ := i64_inv k1
    obtain ⟨r3, rfl, k3⟩ := i64_inv k2
    obtain ⟨r4, rfl, k4⟩ := i64_inv k3
    obtain ⟨r5, rfl, k5⟩ := i64_inv k4
    obtain ⟨ms, rfl, hm⟩ := EL_fin_inv k5
    exact ⟨ms, rfl, meaAt_of hR hs ho' (view2 hvw).1 hm⟩
  have g18 : goodB Tryz.prog W 2 18 [] [some (.ro (meaC l')), some (.ro (meaC l))] (.bool true) = true := goodB_true fun s _ => Good.of fun ρ w us hR he => by
    obtain rfl := EL.nil_inv he
    exact ⟨.bool true, by simp only [E], hS w hR.below⟩
  have g19 : goodB Tryz.prog W 2 19 [.agg (finL no el sd a b d e (mvOf 0 oc l) lo hi sex wear layer square)] [some (.ro (meaC l')), some (.ro (meaC l))] (i64 z) = true := goodB_true fun s hvw => Good.of fun ρ w us hR he => by
    obtain ⟨ms, rfl, hM⟩ := fin hvw hR he
    exact ⟨_, E_i64 z, (hF ms hM w hR.below).1⟩
  have g20 : goodB Tryz.prog W 2 20 [.agg (finL no el sd a b d e (mvOf 0 oc l) lo hi sex wear layer square)] [some (.ro (meaC l')), some (.ro (meaC l))] (i64 z) = true := goodB_true fun s hvw => Good.of fun ρ w us hR he => by
    obtain ⟨ms, rfl, hM⟩ := fin hvw hR he
    exact ⟨_, E_i64 z, (hF ms hM w hR.below).2⟩
  have g21 : goodB Tryz.prog W 2 21 [evL n kn kd fd ot (finL no' el' sd' a' b' d' e' (mvOf 1 oc' l') lo' hi' sex' wear' layer' square')] [some (.ro (meaC l')), some (.ro (meaC l))] (i64 y) = true := goodB_true fun s hvw => Good.of fun ρ w us hR he => by
    obtain ⟨ms, rfl, hM⟩ := ev hvw hR he
    exact ⟨_, E_i64 y, (hE ms hM w hR.below).1⟩
  have g22 : goodB Tryz.prog W 2 22 [evL n kn kd fd ot (finL no' el' sd' a' b' d' e' (mvOf 1 oc' l') lo' hi' sex' wear' layer' square')] [some (.ro (meaC l')), some (.ro (meaC l))] (i64 y) = true := goodB_true fun s hvw => Good.of fun ρ w us hR he => by
    obtain ⟨ms, rfl, hM⟩ := ev hvw hR he
    exact ⟨_, E_i64 y, (hE ms hM w hR.below).2⟩
  have hv' : lawO W [some (.ro (meaC l')), some (.ro (meaC l))] (.agg (finL no el sd a b d e (mvOf 0 oc l) lo hi sex wear layer square)) (evL n kn kd fd ot (finL no' el' sd' a' b' d' e' (mvOf 1 oc' l') lo' hi' sex' wear' layer' square')) z z y y = some (.bool true) := by
    unfold lawO
    rw [g18, g19, g20, g21, g22, intBeq_refl, intBeq_refl]
    rfl
  refine (valK_step hmix (hv.trans hv') ha hR2 (us := [_, _]) (EL.cons (E_agg (EL_fin e1)) (EL.cons (E_ev (EL_fin e2)) EL.nil))).mono ?_
  rintro q w' ⟨ρ', s', u, rfl, hst, hE⟩
  simp only [E] at hE
  subst hE
  exact ⟨rfl, Step.belowOf hR2 hst (noImg_alloc (noImg_alloc fun r ⟨b, x, l, hb, _⟩ => by cases hb))⟩
end Go.Proofs.YtilfiadkhohfiaaGreatDoor
