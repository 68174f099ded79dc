/- Layer 2: joins of finds. -/
import Derived.Test.YtilfiadkhohfiaaGreatDoorPz
/- Layer 2: joins of finds, in runs. -/
set_option linter.unusedVariables false
set_option maxRecDepth 100000
namespace Go.Proofs.YtilfiadkhohfiaaGreatDoor
set_option linter.unusedSimpArgs false
set_option linter.unusedVariables false
open Go Go.RowKit Go.Clo

/-- What is said of a kind in both lists. -/
def pairO (x y : Option Mea) : Option Mea := match y with
  | none => x
  | some m => match x with
    | none => some m
    | some x => some (bothM x m)
/-- The cells of a find. -/
def Fd.cs (f : Fd) (ms : Value) : List Value := finVs f.no f.el f.sd f.a f.b f.d f.e ms f.lo f.hi f.sex f.wear f.layer f.square
def Fd.vs (f : Fd) (mv : V) : List V := finL f.no f.el f.sd f.a f.b f.d f.e mv f.lo f.hi f.sex f.wear f.layer f.square
/-- A variable that holds a find. -/
def BoxF (w : World) (p : Value) (cs : List Value) : Prop := ∃ blk, p = .pointer (some ⟨blk, 0, none⟩) ∧ blk < w.heap.size ∧ ∀ (i : Nat) (u : Value), cs[i]? = some u → w.cell? ⟨blk, i, none⟩ = some u
theorem BoxF.below {w w' : World} {p : Value} {cs : List Value} (h : BoxF w p cs) (hb : Below w.heap.size w w') : BoxF w' p cs := by
  obtain ⟨blk, e, h1, h2⟩ := h
  exact ⟨blk, e, Nat.lt_of_lt_of_le h1 hb.size, fun i u hu => by rw [World.cell?_of_block (hb.block blk h1)]; exact h2 i u hu⟩
theorem BoxF.add {W : World} {ρ : Rho} {s : St} (hR : Rel W ρ s W) {p : Value} {cs : List Value} {vs : List V} (h : BoxF W p cs) (hE : EL ρ vs cs) : ∃ ρ', ρ.le ρ' ∧ Rel W ρ' (s.alloc (.ro vs)) W ∧ E ρ' (.ptr s.size 0) p := by
  obtain ⟨blk, rfl, h1, h2⟩ := h
  have hn : ρ s.size = none := hR.fresh _ (Nat.le_refl _)
  refine ⟨_, Rho.le_upd ⟨blk, 0, 0⟩ hn, hR.addRo (l := ⟨blk, 0, 0⟩) h1 fun i v hv => ?_, by simp only [E]; exact ⟨⟨blk, 0, 0⟩, Rho.upd_same _ _ _, rfl⟩⟩
  obtain ⟨u, hu, he⟩ := hE.at hv
  exact ⟨u, by rw [Nat.zero_add]; exact h2 i u hu, he⟩
theorem ptr_fun {ρ : Rho} {b o : Nat} {u u' : Value} (h : E ρ (.ptr b o) u) (h' : E ρ (.ptr b o) u') : u = u' := by
  simp only [E] at h h'
  obtain ⟨l, hl, rfl⟩ := h
  obtain ⟨l', hl', rfl⟩ := h'
  rw [hl] at hl'; injection hl' with hl'; rw [hl']
structure Head14 (tm : Array Value) (pa pb pp : Value) (j : Nat) : Prop where
  size : tm.size = 215
  h3 : tm.getD 3 undef = pa
  h4 : tm.getD 4 undef = pb
  h7 : tm.getD 7 undef = pp
  hk : tm.getD 137 undef = .int .i64 (j : Int)
theorem getM_okV {l : List Mea} (h : ∀ x ∈ l, okV x) {k : Int} : ∀ m, getM l k = some m → okV m := fun m hm => h m (getM_mem hm)
theorem oneM_O (a b : List Mea) (k : Int) : oneM a b k = pairO (getM a k) (getM b k) := by
  unfold oneM pairO
  cases getM b k <;> cases getM a k <;> rfl
end Go.Proofs.YtilfiadkhohfiaaGreatDoor
