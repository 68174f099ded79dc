/- Layer 2: joins of finds. -/
import Derived.Test.YtilfiadkhohfiaaGreatDoorPi
import Derived.Test.YtilfiadkhohfiaaGreatDoorPv
import Derived.Test.YtilfiadkhohfiaaGreatDoorPd
/- Layer 2: joins of finds, in runs. -/
set_option linter.unusedVariables false
namespace Go.Proofs.YtilfiadkhohfiaaGreatDoor
set_option linter.unusedSimpArgs false
set_option linter.unusedVariables false
open Go Go.RowKit Go.Clo

/-- What a valid find is. -/
def validP (no el sd : Int) (a b c d : Nat) (lo hi sex wear layer square : Int) (l : List Mea) : Prop :=
  findP (zonesI [.agg [w64 a, w64 b, w64 c, w64 d]] = true) no el sd lo hi sex wear layer square (l.length ≤ 8 ∧ measP (-1) l)
theorem findP_mono {Z : Prop} {no el sd lo hi sex wear layer square : Int} {M M' : Prop} (e : M ↔ M') : findP Z no el sd lo hi sex wear layer square M ↔ findP Z no el sd lo hi sex wear layer square M' := by
  unfold findP; rw [e]
/-- CheckFind tells whether a find is valid. -/
theorem check_calls (hmix : Tryz.prog.follows .mixedOrders = true) {W : World} {oc : Option Nat} {l : List Mea} (ho : oc = none → l = []) (no el sd : Int) (a b c d : Nat) (lo hi sex wear layer square : Int) (g1 : ∀ vw, goodB Tryz.prog W 1 156 [(.agg [w64 a, w64 b, w64 c, w64 d])] vw (.bool (zonesI [(.agg [w64 a, w64 b, w64 c, w64 d])])) = true) :
    ∃ z : Int, ((validP no el sd a b c d lo hi sex wear layer square l ∧ z = 0) ∨ (¬ validP no el sd a b c d lo hi sex wear layer square l ∧ z = 20)) ∧ ∀ ms, MeaAt W ms oc l → ∀ w, Below W.heap.size W w → Calls Tryz.prog 19 #[.agg (finVs no el sd a b c d ms lo hi sex wear layer square).toArray] w fun e w' => e = .returned (.int .i64 z) ∧ Below w.heap.size w w' := by
  have main : ∀ {mp : Option V → Option V} {M : Prop} {vw : List (Option Blk)} , (∀ {t : Option V} {p : Prop}, Is 20 t p → Is 20 (mp t) (M ∧ p)) → (M ↔ (l.length ≤ 8 ∧ measP (-1) l)) →
      ∃ z : Int, ((validP no el sd a b c d lo hi sex wear layer square l ∧ z = 0) ∨ (¬ validP no el sd a b c d lo hi sex wear layer square l ∧ z = 20)) ∧ findO 20 W (.agg [w64 a, w64 b, w64 c, w64 d]) vw no el sd lo hi sex wear layer square mp (some (i64 0)) = some (i64 z) := by
    intro mp M vw hmp hM
    have h := Is.find (mp := mp) (mq := mp) (M := M) (fun h => ⟨hmp h, hmp h⟩) (g1 vw) (no := no) (el := el) (sd := sd) (lo := lo) (hi := hi) (sex := sex) (wear := wear) (layer := layer) (square := square) (Is.yes (x := 20))
    rcases h with ⟨⟨h1, _⟩, h2⟩ | ⟨h1, h2⟩
    · exact ⟨0, .inl ⟨(findP_mono hM).1 h1, rfl⟩, h2⟩
    · exact ⟨20, .inr ⟨fun h => h1 ⟨(findP_mono hM).2 h, trivial⟩, rfl⟩, h2⟩
  have core : ∀ {vw : List (Option Blk)}, l.length ≤ 8 → valK Tryz.prog (semS Tryz.prog W 1 tb) 60 19 [.agg (finL no el sd a b c d (mvOf 0 oc l) lo hi sex wear layer square)] (roSt (meaC l)) = findO 20 W (.agg [w64 a, w64 b, w64 c, w64 d]) vw no el sd lo hi sex wear layer square (meaO 20 (-1) l) (some (i64 0)) →
      askK Tryz.prog (semS Tryz.prog W 1 tb) 60 19 [.agg (finL no el sd a b c d (mvOf 0 oc l) lo hi sex wear layer square)] (roSt (meaC l)) false = askK Tryz.prog (semS Tryz.prog W 1 tb) 60 19 [.agg (finL no el sd a b c d (mvOf 0 oc l) lo hi sex wear layer square)] (roSt (meaC l)) true →
      ∃ z : Int, ((validP no el sd a b c d lo hi sex wear layer square l ∧ z = 0) ∨ (¬ validP no el sd a b c d lo hi sex wear layer square l ∧ z = 20)) ∧ ∀ ms, MeaAt W ms oc l → ∀ w, Below W.heap.size W w → Calls Tryz.prog 19 #[.agg (finVs no el sd a b c d ms lo hi sex wear layer square).toArray] w fun e w' => e = .returned (.int .i64 z) ∧ Below w.heap.size w w' := by
    intro vw hn hv ha
    obtain ⟨z, hz, e⟩ := main (vw := vw) (mp := meaO 20 (-1) l) (M := measP (-1) l) (fun h => h.mea) ⟨fun h => ⟨hn, h⟩, fun h => h.2⟩
    exact ⟨z, hz, fun ms hM w hb => int_calls hmix hM (fun ρ he => E_agg (EL_fin he)) (hv.trans e) ha w hb⟩
  cases oc with
  | none =>
    obtain rfl := ho rfl
    exact core (by simp) (cf_n W no el sd a b c d 0 lo hi sex wear layer square) (cfA_n W no el sd a b c d 0 lo hi sex wear layer square)
  | some cap =>
    match l with
    | [] => exact core (by simp) (cf_0 W no el sd a b c d cap lo hi sex wear layer square ) (cfA_0 W no el sd a b c d cap lo hi sex wear layer square )
    | [m1] => exact core (by simp) (cf_1 W no el sd a b c d cap lo hi sex wear layer square m1) (cfA_1 W no el sd a b c d cap lo hi sex wear layer square m1)
    | [m1, m2] => exact core (by simp) (cf_2 W no el sd a b c d cap lo hi sex wear layer square m1 m2) (cfA_2 W no el sd a b c d cap lo hi sex wear layer square m1 m2)
    | [m1, m2, m3] => exact core (by simp) (cf_3 W no el sd a b c d cap lo hi sex wear layer square m1 m2 m3) (cfA_3 W no el sd a b c d cap lo hi sex wear layer square m1 m2 m3)
    | [m1, m2, m3, m4] => exact core (by simp) (cf_4 W no el sd a b c d cap lo hi sex wear layer square m1 m2 m3 m4) (cfA_4 W no el sd a b c d cap lo hi sex wear layer square m1 m2 m3 m4)
    | [m1, m2, m3, m4, m5] => exact core (by simp) (cf_5 W no el sd a b c d cap lo hi sex wear layer square m1 m2 m3 m4 m5) (cfA_5 W no el sd a b c d cap lo hi sex wear layer square m1 m2 m3 m4 m5)
    | [m1, m2, m3, m4, m5, m6] => exact core (by simp) (cf_6 W no el sd a b c d cap lo hi sex wear layer square m1 m2 m3 m4 m5 m6) (cfA_6 W no el sd a b c d cap lo hi sex wear layer square m1 m2 m3 m4 m5 m6)
    | [m1, m2, m3, m4, m5, m6, m7] => exact core (by simp) (cf_7 W no el sd a b c d cap lo hi sex wear layer square m1 m2 m3 m4 m5 m6 m7) (cfA_7 W no el sd a b c d cap lo hi sex wear layer square m1 m2 m3 m4 m5 m6 m7)
    | [m1, m2, m3, m4, m5, m6, m7, m8] => exact core (by simp) (cf_8 W no el sd a b c d cap lo hi sex wear layer square m1 m2 m3 m4 m5 m6 m7 m8) (cfA_8 W no el sd a b c d cap lo hi sex wear layer square m1 m2 m3 m4 m5 m6 m7 m8)
    | m1 :: m2 :: m3 :: m4 :: m5 :: m6 :: m7 :: m8 :: m9 :: rest =>
      obtain ⟨z, hz, e⟩ := main (vw := [some (.ro (meaC (m1 :: m2 :: m3 :: m4 :: m5 :: m6 :: m7 :: m8 :: m9 :: rest)))]) (mp := longO 20) (M := False) (fun {t p} _ => (Is.no (x := 20)).of (by simp)) ⟨False.elim, fun h => by have := h.1; simp only [List.length_cons] at this; omega⟩
      exact ⟨z, hz, fun ms hM w hb => int_calls hmix hM (fun ρ he => E_agg (EL_fin he)) ((cf_L W no el sd a b c d cap lo hi sex wear layer square rest.length _).trans e) (cfA_L W no el sd a b c d cap lo hi sex wear layer square rest.length _) w hb⟩
end Go.Proofs.YtilfiadkhohfiaaGreatDoor
/- Layer 2: joins of finds, in runs. -/
set_option linter.unusedVariables false
namespace Go.Proofs.YtilfiadkhohfiaaGreatDoor
set_option linter.unusedSimpArgs false
set_option linter.unusedVariables false
open Go Go.RowKit Go.Clo
noncomputable section
def tbL (ov : List V → Bool) (z je : Int) (hV : V) : Tb := fun f =>
  cond (Nat.beq f 18) (some fun _ _ => (.bool true, none)) (cond (Nat.beq f 50) (some fun args _ => (.tup [.bool (ov args), i64 z], none)) (cond (Nat.beq f 48) (some fun args _ => (.tup [hV, i64 je], none)) (cond (Nat.beq f 19) (some fun _ _ => (i64 0, none)) none)))
def endT (o1 o2 : Bool) (n : Int) : Option V := cond (o2 == intBeq n 1) (cond (!o1) (some (.bool true)) (some (.bool (intBeq n 1)))) (some (.bool false))
def lawT (g18 gab gba g48 gaa g19 o1 o1' o2 : Bool) (je sd : Int) : Option V :=
  let fin : Option V := cond gaa (cond g19 (cond (intBeq sd 3) (endT o1 o2 2) (endT o1 o2 1)) none) none
  cond g18 (cond gab (cond gba (cond (!(o1 == o1')) (some (.bool false)) (cond g48 (cond o1 (cond (intBeq je 0) (some (.bool false)) fin) fin) none)) none) none) none
end
set_option maxRecDepth 100000
section
variable (W0 : World) (ov : List V → Bool) (je : Int) (c c' : List V) (ma mb : V) (no el sd : Int) (a b d e : Nat) (lo hi sex wear layer square : Int) (no' el' sd' : Int) (a' b' d' e' : Nat) (lo' hi' sex' wear' layer' square' : Int) (num : Int)  (no2 el2 sd2 : Int) (a2 : Nat) (lo2 hi2 sex2 wear2 layer2 square2 : Int)
theorem lawr : valK Tryz.prog (semN Tryz.prog W0 vfA (tbL ov 0 je (fin1 no2 el2 sd2 a2 .any lo2 hi2 sex2 wear2 layer2 square2))) 60 15 [fin1 no el sd a ma lo hi sex wear layer square, fin1 no' el' sd' a' mb lo' hi' sex' wear' layer' square', i64 num] (st2 c c') = lawT (goodN Tryz.prog W0 vfA 18 [] (vwA c c') 0 (.bool true) none) (goodN Tryz.prog W0 vfA 50 [fin1 no el sd a ma lo hi sex wear layer square, fin1 no' el' sd' a' mb lo' hi' sex' wear' layer' square'] (vwA c c') 0 (.tup [.bool (ov [fin1 no el sd a ma lo hi sex wear layer square, fin1 no' el' sd' a' mb lo' hi' sex' wear' layer' square']), i64 0]) none) (goodN Tryz.prog W0 vfA 50 [fin1 no' el' sd' a' mb lo' hi' sex' wear' layer' square', fin1 no el sd a ma lo hi sex wear layer square] (vwA c c') 0 (.tup [.bool (ov [fin1 no' el' sd' a' mb lo' hi' sex' wear' layer' square', fin1 no el sd a ma lo hi sex wear layer square]), i64 0]) none) (goodN Tryz.prog W0 vfA 48 [fin1 no el sd a ma lo hi sex wear layer square, fin1 no' el' sd' a' mb lo' hi' sex' wear' layer' square', i64 num] (vwA c c') 0 (.tup [fin1 no2 el2 sd2 a2 .any lo2 hi2 sex2 wear2 layer2 square2, i64 je]) none) (goodN Tryz.prog W0 vfA 50 [fin1 no el sd a ma lo hi sex wear layer square, fin1 no el sd a ma lo hi sex wear layer square] (vwA c c') 0 (.tup [.bool (ov [fin1 no el sd a ma lo hi sex wear layer square, fin1 no el sd a ma lo hi sex wear layer square]), i64 0]) none) (goodN Tryz.prog W0 vfA 19 [fin1 no el sd a ma lo hi sex wear layer square] (vwA c c') 0 (i64 0) none) (ov [fin1 no el sd a ma lo hi sex wear layer square, fin1 no' el' sd' a' mb lo' hi' sex' wear' layer' square']) (ov [fin1 no' el' sd' a' mb lo' hi' sex' wear' layer' square', fin1 no el sd a ma lo hi sex wear layer square]) (ov [fin1 no el sd a ma lo hi sex wear layer square, fin1 no el sd a ma lo hi sex wear layer square]) je sd := by kernel_rfl
theorem lawrA : askK Tryz.prog (semN Tryz.prog W0 vfA (tbL ov 0 je (fin1 no2 el2 sd2 a2 .any lo2 hi2 sex2 wear2 layer2 square2))) 60 15 [fin1 no el sd a ma lo hi sex wear layer square, fin1 no' el' sd' a' mb lo' hi' sex' wear' layer' square', i64 num] (st2 c c') false = askK Tryz.prog (semN Tryz.prog W0 vfA (tbL ov 0 je (fin1 no2 el2 sd2 a2 .any lo2 hi2 sex2 wear2 layer2 square2))) 60 15 [fin1 no el sd a ma lo hi sex wear layer square, fin1 no' el' sd' a' mb lo' hi' sex' wear' layer' square', i64 num] (st2 c c') true := by kernel_rfl
theorem lawi : valK Tryz.prog (semN Tryz.prog W0 vfA (tbL ov 20 0 zFind)) 60 15 [(.agg (finL no el sd a b d e ma lo hi sex wear layer square)), (.agg (finL no' el' sd' a' b' d' e' mb lo' hi' sex' wear' layer' square')), i64 num] (st2 c c') = cond (goodN Tryz.prog W0 vfA 18 [] (vwA c c') 0 (.bool true) none) (cond (goodN Tryz.prog W0 vfA 50 [(.agg (finL no el sd a b d e ma lo hi sex wear layer square)), (.agg (finL no' el' sd' a' b' d' e' mb lo' hi' sex' wear' layer' square'))] (vwA c c') 0 (.tup [.bool (ov [(.agg (finL no el sd a b d e ma lo hi sex wear layer square)), (.agg (finL no' el' sd' a' b' d' e' mb lo' hi' sex' wear' layer' square'))]), i64 20]) none) (cond (goodN Tryz.prog W0 vfA 50 [(.agg (finL no' el' sd' a' b' d' e' mb lo' hi' sex' wear' layer' square')), (.agg (finL no el sd a b d e ma lo hi sex wear layer square))] (vwA c c') 0 (.tup [.bool (ov [(.agg (finL no' el' sd' a' b' d' e' mb lo' hi' sex' wear' layer' square')), (.agg (finL no el sd a b d e ma lo hi sex wear layer square))]), i64 20]) none) (cond (!(ov [(.agg (finL no el sd a b d e ma lo hi sex wear layer square)), (.agg (finL no' el' sd' a' b' d' e' mb lo' hi' sex' wear' layer' square'))] == ov [(.agg (finL no' el' sd' a' b' d' e' mb lo' hi' sex' wear' layer' square')), (.agg (finL no el sd a b d e ma lo hi sex wear layer square))])) (some (.bool false)) (some (.bool (!ov [(.agg (finL no el sd a b d e ma lo hi sex wear layer square)), (.agg (finL no' el' sd' a' b' d' e' mb lo' hi' sex' wear' layer' square'))])))) none) none) none := by kernel_rfl
theorem lawiA : askK Tryz.prog (semN Tryz.prog W0 vfA (tbL ov 20 0 zFind)) 60 15 [(.agg (finL no el sd a b d e ma lo hi sex wear layer square)), (.agg (finL no' el' sd' a' b' d' e' mb lo' hi' sex' wear' layer' square')), i64 num] (st2 c c') false = askK Tryz.prog (semN Tryz.prog W0 vfA (tbL ov 20 0 zFind)) 60 15 [(.agg (finL no el sd a b d e ma lo hi sex wear layer square)), (.agg (finL no' el' sd' a' b' d' e' mb lo' hi' sex' wear' layer' square')), i64 num] (st2 c c') true := by kernel_rfl
end
end Go.Proofs.YtilfiadkhohfiaaGreatDoor
/- Layer 2: joins of finds, in runs. -/
set_option linter.unusedVariables false
namespace Go.Proofs.YtilfiadkhohfiaaGreatDoor
set_option linter.unusedSimpArgs false
set_option linter.unusedVariables false
open Go Go.RowKit Go.Clo

/-- What a find tells. -/
structure Fd where
  no : Int
  el : Int
  sd : Int
  a : Nat
  b : Nat
  d : Nat
  e : Nat
  lo : Int
  hi : Int
  sex : Int
  wear : Int
  layer : Int
  square : Int
  oc : Option Nat
  l : List Mea
/-- It as a value of the interpreter, whose list is mv. -/
def Fd.im (f : Fd) (mv : V) : V := .agg (finL f.no f.el f.sd f.a f.b f.d f.e mv f.lo f.hi f.sex f.wear f.layer f.square)
def Fd.iv (f : Fd) (i : Nat) : V := f.im (mvOf i f.oc f.l)
/-- It as a value of the program. -/
def Fd.U (f : Fd) (ms : Value) : Value := .agg (finVs f.no f.el f.sd f.a f.b f.d f.e ms f.lo f.hi f.sex f.wear f.layer f.square).toArray
def Fd.Valid (f : Fd) : Prop := validP f.no f.el f.sd f.a f.b f.d f.e f.lo f.hi f.sex f.wear f.layer f.square f.l
structure Fd.OK (f : Fd) : Prop where
  ho : f.oc = none → f.l = []
  room : Room f.oc f.l
  a : f.a < 18446744073709551616
  b : f.b < 18446744073709551616
  d : f.d < 18446744073709551616
  e : f.e < 18446744073709551616
theorem Fd.im_of {ρ : Rho} {f : Fd} {mv : V} {u : Value} (h : E ρ (f.im mv) u) : ∃ ms, u = f.U ms ∧ E ρ mv ms := by
  unfold Fd.im at h
  simp only [E] at h
  obtain ⟨us, rfl, hl⟩ := h
  obtain ⟨ms, rfl, he⟩ := EL_fin_inv hl
  exact ⟨ms, rfl, he⟩
theorem Fd.im_E {ρ : Rho} {f : Fd} {mv : V} {ms : Value} (h : E ρ mv ms) : E ρ (f.im mv) (f.U ms) := E_agg (EL_fin h)
/-- The words of a valid find. -/
theorem zonesI_true {a b d e : Nat} (h : zonesI [.agg [w64 a, w64 b, w64 d, w64 e]] = true) : a ≠ 0 ∧ a < 65536 ∧ b = 0 ∧ d = 0 ∧ e = 0 := by
  have h : (!intBeq (.ofNat a) 0 && (intLt (.ofNat a) 65536 && (intBeq (.ofNat b) 0 && (intBeq (.ofNat d) 0 && intBeq (.ofNat e) 0)))) = true := h
  simp only [Bool.and_eq_true, Bool.not_eq_true', ← Bool.not_eq_true, intBeq_iff, intLt_iff] at h
  simp only [Int.ofNat_eq_natCast] at h
  omega
theorem Fd.Valid.words {f : Fd} (h : f.Valid) : f.a ≠ 0 ∧ f.a < 65536 ∧ f.b = 0 ∧ f.d = 0 ∧ f.e = 0 := zonesI_true h.2.2.2.1
theorem Fd.Valid.fin {f : Fd} (h : f.Valid) (mv : V) : f.im mv = fin1 f.no f.el f.sd f.a mv f.lo f.hi f.sex f.wear f.layer f.square := by
  obtain ⟨_, _, h1, h2, h3⟩ := h.words
  unfold Fd.im fin1
  rw [h1, h2, h3]
theorem Fd.Valid.side {f : Fd} (h : f.Valid) : sideP f.el f.sd := h.2.2.1
theorem measP_ok : ∀ {l : List Mea} {c : Int}, measP c l → okL c l ∧ ∀ x ∈ l, okV x
  | [], _, _ => ⟨trivial, fun x h => by cases h⟩
  | m :: l, c, h => by
    rw [measP_cons] at h
    obtain ⟨⟨⟨h1, h2⟩, ⟨h3, h4⟩, h5, h6⟩, h7, h8⟩ := h
    obtain ⟨k1, k2⟩ := measP_ok h8
    refine ⟨⟨h7, h2, k1⟩, fun x hx => ?_⟩
    cases hx with
    | head => exact ⟨h1, h2, h3, h4, h5, h6⟩
    | tail _ hx => exact k2 x hx
theorem Fd.Valid.list {f : Fd} (h : f.Valid) : f.l.length ≤ 8 ∧ okL (-1) f.l ∧ ∀ x ∈ f.l, okV x := by
  have h1 := h.2.2.2.2.2.2.1
  exact ⟨h1.1, measP_ok h1.2⟩
theorem bleT_of {f g : Fd} (hf : f.OK) (hg : g.OK) : bleT f.a g.a = true := by
  unfold bleT
  rw [Bool.and_eq_true, Nat.ble_eq, Nat.ble_eq]
  have := hf.a; have := hg.a
  omega
variable {W : World}
/-- CheckFind answers z. -/
def Checks (W : World) (f : Fd) (z : Int) : Prop := ((f.Valid ∧ z = 0) ∨ (¬ f.Valid ∧ z = 20)) ∧ ∀ (w : World) (ms : Value), Below W.heap.size W w → MeaAt w ms f.oc f.l → Calls Tryz.prog 19 #[f.U ms] w fun e w' => e = .returned (.int .i64 z) ∧ Below w.heap.size w w'
theorem Checks.world {f : Fd} {z : Int} {w : World} (h : Checks W f z) (hb : Below W.heap.size W w) : Checks w f z := ⟨h.1, fun w' ms hb' hm => h.2 w' ms (below_tr hb hb') hm⟩
theorem seen {f g : Fd} {s : St} {vf : FuncId → St → List (Option Blk)} {fn : FuncId} (hvf : vf fn s = [s.get 0, s.get 1]) (h : vf fn s = vwA (meaC f.l) (meaC g.l)) : s.get 0 = some (.ro (meaC f.l)) ∧ s.get 1 = some (.ro (meaC g.l)) := by
  rw [hvf] at h
  exact ⟨(List.cons.inj h).1, (List.cons.inj (List.cons.inj h).2).1⟩
theorem good19 (hs0 : 0 < W.heap.size) {f : Fd} {z : Int} (hf : f.OK) (hz : Checks W f z) {i : Nat} {s : St} (hg : s.get i = some (.ro (meaC f.l))) : GoodM Tryz.prog W 19 [f.iv i] s (i64 z) s := GoodM.same fun ρ w us hR he => by
  obtain ⟨u, r, rfl, h1, h2⟩ := EL.cons_inv he
  obtain rfl := EL.nil_inv h2
  obtain ⟨ms, rfl, hm⟩ := Fd.im_of h1
  exact ⟨_, E_i64 z, hz.2 w ms hR.below ((meaAt_of hR hs0 hf.ho hg hm).below hR.below)⟩
/-- Two finds, one behind the other. -/
theorem pair_rel {f g : Fd} {ms ms' : Value} (hf : MeaAt W ms f.oc f.l) (hg : MeaAt W ms' g.oc g.l) : ∃ ρ, Rel W ρ (st2 (meaC f.l) (meaC g.l)) W ∧ E ρ (mvOf 0 f.oc f.l) ms ∧ E ρ (mvOf 1 g.oc g.l) ms' := by
  obtain ⟨ρ1, _, hR1, e1⟩ := hf.add (Rel.start' (Below.refl W.heap.size W))
  obtain ⟨ρ2, le2, hR2, e2⟩ := hg.add hR1
  exact ⟨ρ2, hR2, E.mono le2 _ e1, e2⟩
theorem pair_noImg {c c' : List V} {ρ : Rho} (r : Nat) : ¬ Img ρ (st2 c c') r := noImg_alloc (noImg_alloc fun r ⟨b, x, l, hb, _⟩ => by cases hb) r
/-- A run on two finds, as a contract. -/
theorem pair_calls (hmix : Tryz.prog.follows .mixedOrders = true) {S : SHook} (hS : HookOK Tryz.prog W (hookOf S)) {f g : Fd} {fn : FuncId} {xs : List V} {ys : List Value} {v : V} {ms ms' : Value} (hxs : ∀ ρ, EL ρ xs ys)
    (hv : valK Tryz.prog S 60 fn (f.iv 0 :: g.iv 1 :: xs) (st2 (meaC f.l) (meaC g.l)) = some v)
    (ha : askK Tryz.prog S 60 fn (f.iv 0 :: g.iv 1 :: xs) (st2 (meaC f.l) (meaC g.l)) false = askK Tryz.prog S 60 fn (f.iv 0 :: g.iv 1 :: xs) (st2 (meaC f.l) (meaC g.l)) true)
    (hf : MeaAt W ms f.oc f.l) (hg : MeaAt W ms' g.oc g.l) : Calls Tryz.prog fn (f.U ms :: g.U ms' :: ys).toArray W fun e w' => ∃ ρ' u, e = .returned u ∧ Below W.heap.size W w' ∧ E ρ' v u := by
  obtain ⟨ρ, hR, e1, e2⟩ := pair_rel hf hg
  have hv' : valG Tryz.prog S 60 fn (f.iv 0 :: g.iv 1 :: xs) (st2 (meaC f.l) (meaC g.l)) (fun v _ => v) = some v := hv
  refine (valG_stepH hmix hS hv' ha hR (EL.cons (Fd.im_E e1) (EL.cons (Fd.im_E e2) (hxs ρ)))).mono ?_
  rintro e w' ⟨ρ', v', s', u, rfl, hst, hE, rfl⟩
  exact ⟨ρ', u, rfl, Step.belowOf hR hst pair_noImg, hE⟩
/-- Equal values tell of equal finds. -/
theorem Fd.iv_inj {f g : Fd} (hf : f.OK) (hg : g.OK) {i j : Nat} (hij : i ≠ j) (h : f.iv i = g.iv j) : f.no = g.no ∧ f.el = g.el ∧ f.sd = g.sd ∧ f.a = g.a ∧ (f.Valid ↔ g.Valid) := by
  unfold Fd.iv Fd.im finL i64 w64 at h
  simp only [V.agg.injEq, List.cons.injEq, V.int.injEq, Int.ofNat.injEq, true_and, and_true] at h
  obtain ⟨h1, h2, h3, h4, h5, h6, h7, h8, h9, h10, h11, h12, h13, h14⟩ := h
  have hl : f.l = g.l := by
    cases hfo : f.oc with
    | none =>
      rw [hf.ho hfo]
      cases hgo : g.oc with
      | none => rw [hg.ho hgo]
      | some c => rw [hfo, hgo] at h8; cases h8
    | some c =>
      cases hgo : g.oc with
      | none => rw [hfo, hgo] at h8; cases h8
      | some c' =>
        rw [hfo, hgo] at h8
        simp only [mvOf, V.sl.injEq] at h8
        exact absurd h8.1 hij
  refine ⟨h1, h2, h3, h4, ?_⟩
  unfold Fd.Valid
  rw [h1, h2, h3, h4, h5, h6, h7, h9, h10, h11, h12, h13, h14, hl]
/-- What checkBoth answers. -/
def bothZ (z z' : Int) : Int := if z = 0 then z' else z
theorem checkBoth_calls (hmix : Tryz.prog.follows .mixedOrders = true) (hs0 : 0 < W.heap.size) {f g : Fd} {z z' : Int} (hf : f.OK) (hg : g.OK) (hz : Checks W f z) (hz' : Checks W g z') {ms ms' : Value} (hm : MeaAt W ms f.oc f.l) (hm' : MeaAt W ms' g.oc g.l) :
    Calls Tryz.prog 122 #[f.U ms, g.U ms'] W fun e w' => e = .returned (.int .i64 (bothZ z z')) ∧ Below W.heap.size W w' := by
  have hz0 : z = 0 ∨ z = 20 := hz.1.elim (fun h => .inl h.2) fun h => .inr h.2
  let zf : List V → Int := fun args => @ite _ (args = [f.iv 0]) (Classical.propDecidable _) z z'
  have e1 : zf [f.iv 0] = z := by show @ite _ _ (Classical.propDecidable _) z z' = z; rw [if_pos rfl]
  have e2 : zf [g.iv 1] = z' := by
    show @ite _ _ (Classical.propDecidable _) z z' = z'
    by_cases h : [g.iv 1] = [f.iv 0]
    · rw [if_pos h]
      have hh := (Fd.iv_inj hg hf (by omega) (List.cons.inj h).1).2.2.2.2
      rcases hz.1 with ⟨k1, rfl⟩ | ⟨k1, rfl⟩ <;> rcases hz'.1 with ⟨k2, rfl⟩ | ⟨k2, rfl⟩
      · rfl
      · exact absurd (hh.2 k1) k2
      · exact absurd (hh.1 k2) k1
      · rfl
    · rw [if_neg h]
  have g1 : goodN Tryz.prog W vfA 19 [f.iv 0] (vwA (meaC f.l) (meaC g.l)) 0 (i64 (zf [f.iv 0])) none = true := goodN_true fun s hvw _ => by
    rw [e1]; exact good19 hs0 hf hz (seen (vf := vfA) (fn := 19) rfl hvw).1
  have g2 : goodN Tryz.prog W vfA 19 [g.iv 1] (vwA (meaC f.l) (meaC g.l)) 0 (i64 (zf [g.iv 1])) none = true := goodN_true fun s hvw _ => by
    rw [e2]; exact good19 hs0 hg hz' (seen (vf := vfA) (fn := 19) rfl hvw).2
  have hr := cb W (meaC f.l) (meaC g.l) (mvOf 0 f.oc f.l) (mvOf 1 g.oc g.l) f.no f.el f.sd f.a f.b f.d f.e f.lo f.hi f.sex f.wear f.layer f.square g.no g.el g.sd g.a g.b g.d g.e g.lo g.hi g.sex g.wear g.layer g.square zf
  have hr : valK Tryz.prog (semN Tryz.prog W vfA (tb19 zf)) 60 122 [f.iv 0, g.iv 1] (st2 (meaC f.l) (meaC g.l)) = cond (goodN Tryz.prog W vfA 19 [f.iv 0] (vwA (meaC f.l) (meaC g.l)) 0 (i64 (zf [f.iv 0])) none) (cond (!intBeq (zf [f.iv 0]) 0) (some (i64 (zf [f.iv 0]))) (cond (goodN Tryz.prog W vfA 19 [g.iv 1] (vwA (meaC f.l) (meaC g.l)) 0 (i64 (zf [g.iv 1])) none) (some (i64 (zf [g.iv 1]))) none)) none := hr
  have hv : valK Tryz.prog (semN Tryz.prog W vfA (tb19 zf)) 60 122 [f.iv 0, g.iv 1] (st2 (meaC f.l) (meaC g.l)) = some (i64 (bothZ z z')) := by
    rw [hr, g1, g2, e1, e2]
    unfold bothZ
    rcases hz0 with rfl | rfl
    · rfl
    · rfl
  refine (pair_calls hmix semN_ok (xs := []) (ys := []) (fun ρ => EL.nil) hv (cbA W (meaC f.l) (meaC g.l) (mvOf 0 f.oc f.l) (mvOf 1 g.oc g.l) f.no f.el f.sd f.a f.b f.d f.e f.lo f.hi f.sex f.wear f.layer f.square g.no g.el g.sd g.a g.b g.d g.e g.lo g.hi g.sex g.wear g.layer g.square zf) hm hm').mono ?_
  rintro e w' ⟨ρ', u, rfl, hb, hE⟩
  exact ⟨by rw [E_i64_inv hE], hb⟩
end Go.Proofs.YtilfiadkhohfiaaGreatDoor
/- Layer 2: joins of finds, in runs. -/
set_option linter.unusedVariables false
namespace Go.Proofs.YtilfiadkhohfiaaGreatDoor
set_option linter.unusedSimpArgs false
set_option linter.unusedVariables false
open Go Go.RowKit Go.Clo
variable {W : World}

theorem eqSet_iff {a a' : Nat} : eqVs (setV4 a) (setV4 a') = true ↔ a = a' := by
  unfold setV4
  rw [eqVs_consU, eqVs_consU, eqVs_consU, eqVs_consU]
  simp [eqVs]
theorem rngSet {a a' : Nat} (h : a < 18446744073709551616) (h' : a' < 18446744073709551616) : rngV (setV4 a) (setV4 a') = true :=
  rngV_consU (RU.of h) (RU.of h') (rngV_consU RU0 RU0 (rngV_consU RU0 RU0 (rngV_consU RU0 RU0 rfl)))
theorem land_lt {a a' : Nat} (h : a < 18446744073709551616) : Nat.land a a' < 18446744073709551616 := Nat.lt_of_le_of_lt Nat.and_le_left h
/-- Whether two valid finds overlap. -/
def ovB (f g : Fd) : Bool := intBeq f.el g.el && (intBeq f.sd g.sd && (!intBeq f.sd 3 && !eqVs (setV4 (Nat.land f.a g.a)) (setV4 0)))
theorem ovT_eq {f g : Fd} (hf : f.OK) (hg : g.OK) : ovT true f.el f.sd f.a g.el g.sd g.a = tup2 (.bool (ovB f g)) (i64 0) := by
  unfold ovT ovB
  rw [bleT_of hf hg, rngSet (land_lt hf.a) (by omega)]
  cases intBeq f.el g.el <;> cases intBeq f.sd g.sd <;> cases intBeq f.sd 3 <;> rfl
theorem ovB_iff {f g : Fd} : ovB f g = true ↔ f.el = g.el ∧ f.sd = g.sd ∧ f.sd ≠ 3 ∧ Nat.land f.a g.a ≠ 0 := by
  unfold ovB
  simp only [Bool.and_eq_true, Bool.not_eq_true', ← Bool.not_eq_true, intBeq_iff, eqSet_iff]
theorem ovB_comm (f g : Fd) : ovB f g = ovB g f := by
  rw [Bool.eq_iff_iff, ovB_iff, ovB_iff]
  have e : Nat.land f.a g.a = Nat.land g.a f.a := Nat.and_comm _ _
  rw [e]
  constructor <;> (rintro ⟨h1, h2, h3, h4⟩; exact ⟨h1.symm, h2.symm, by rw [← h2]; exact h3, h4⟩)
theorem ovB_self {f : Fd} (h : f.Valid) : ovB f f = true ↔ f.sd ≠ 3 := by
  rw [ovB_iff]
  have e : Nat.land f.a f.a = f.a := Nat.and_self _
  rw [e]
  exact ⟨fun h => h.2.2.1, fun k => ⟨rfl, rfl, k, h.words.1⟩⟩
theorem Checks.z {f : Fd} {z : Int} (h : Checks W f z) : z = 0 ∨ z = 20 := h.1.elim (fun h => .inl h.2) fun h => .inr h.2
theorem Checks.valid {f : Fd} (h : Checks W f 0) : f.Valid := h.1.elim (fun h => h.1) fun h => absurd h.2 (by omega)
/-- The call of checkBoth, in a run. -/
theorem good122 (hmix : Tryz.prog.follows .mixedOrders = true) (hs0 : 0 < W.heap.size) {f g : Fd} {z z' : Int} (hf : f.OK) (hg : g.OK) (hz : Checks W f z) (hz' : Checks W g z') {vf : FuncId → St → List (Option Blk)} (hvf : ∀ s, vf 122 s = [s.get 0, s.get 1]) :
    goodN Tryz.prog W vf 122 [f.iv 0, g.iv 1] (vwA (meaC f.l) (meaC g.l)) 0 (i64 (bothZ z z')) none = true := goodN_true fun s hvw _ => GoodM.same fun ρ w us hR he => by
  obtain ⟨h0, h1⟩ := seen (hvf s) hvw
  obtain ⟨u, r, rfl, e1, h2⟩ := EL.cons_inv he
  obtain ⟨u', r', rfl, e2, h3⟩ := EL.cons_inv h2
  obtain rfl := EL.nil_inv h3
  obtain ⟨ms, rfl, hm⟩ := Fd.im_of e1
  obtain ⟨ms', rfl, hm'⟩ := Fd.im_of e2
  have hM := meaAt_of hR hs0 hf.ho h0 hm
  have hM' := meaAt_of hR hs0 hg.ho h1 hm'
  have hb := hR.below
  exact ⟨_, E_i64 _, checkBoth_calls hmix (Nat.lt_of_lt_of_le hs0 hb.size) hf hg (hz.world hb) (hz'.world hb) (hM.below hb) (hM'.below hb)⟩
theorem E_tup2 {ρ : Rho} {x y : V} {u : Value} (h : E ρ (.tup [x, y]) u) : ∃ a b, u = .tuple #[a, b] ∧ E ρ x a ∧ E ρ y b := by
  simp only [E] at h
  obtain ⟨us, rfl, hl⟩ := h
  obtain ⟨a, r, rfl, h1, h2⟩ := EL.cons_inv hl
  obtain ⟨b, r', rfl, h3, h4⟩ := EL.cons_inv h2
  obtain rfl := EL.nil_inv h4
  exact ⟨a, b, rfl, h1, h3⟩
theorem E_bool_inv {ρ : Rho} {b : Bool} {u : Value} (h : E ρ (.bool b) u) : u = .bool b := by simpa only [E] using h
theorem bothZ_20 {z z' : Int} (h : z = 0 ∨ z = 20) (h' : z' = 0 ∨ z' = 20) : bothZ z z' = 20 ∨ (z = 0 ∧ z' = 0 ∧ bothZ z z' = 0) := by
  unfold bothZ
  rcases h with rfl | rfl <;> rcases h' with rfl | rfl <;> simp
/-- What Overlap answers. -/
def ovR (f g : Fd) (z z' : Int) : Bool := intBeq (bothZ z z') 0 && ovB f g
/-- Overlap. -/
theorem overlap_calls (hmix : Tryz.prog.follows .mixedOrders = true) (hs0 : 0 < W.heap.size) {f g : Fd} {z z' : Int} (hf : f.OK) (hg : g.OK) (hz : Checks W f z) (hz' : Checks W g z') {ms ms' : Value} (hm : MeaAt W ms f.oc f.l) (hm' : MeaAt W ms' g.oc g.l) :
    Calls Tryz.prog 50 #[f.U ms, g.U ms'] W fun e w' => e = .returned (.tuple #[.bool (ovR f g z z'), .int .i64 (bothZ z z')]) ∧ Below W.heap.size W w' := by
  have fin : ∀ {S : SHook}, HookOK Tryz.prog W (hookOf S) → valK Tryz.prog S 60 50 [f.iv 0, g.iv 1] (st2 (meaC f.l) (meaC g.l)) = tup2 (.bool (ovR f g z z')) (i64 (bothZ z z')) →
      askK Tryz.prog S 60 50 [f.iv 0, g.iv 1] (st2 (meaC f.l) (meaC g.l)) false = askK Tryz.prog S 60 50 [f.iv 0, g.iv 1] (st2 (meaC f.l) (meaC g.l)) true →
      Calls Tryz.prog 50 #[f.U ms, g.U ms'] W fun e w' => e = .returned (.tuple #[.bool (ovR f g z z'), .int .i64 (bothZ z z')]) ∧ Below W.heap.size W w' := by
    intro S hS hv ha
    refine (pair_calls hmix hS (xs := []) (ys := []) (fun ρ => EL.nil) hv ha hm hm').mono ?_
    rintro e w' ⟨ρ', u, rfl, hb, hE⟩
    obtain ⟨x, y, rfl, h1, h2⟩ := E_tup2 hE
    exact ⟨by rw [E_bool_inv h1, E_i64_inv h2], hb⟩
  rcases bothZ_20 hz.z hz'.z with h20 | ⟨rfl, rfl, h0⟩
  · have hg1 := good122 hmix hs0 hf hg hz hz' (vf := vfA) fun s => rfl
    rw [h20] at hg1
    refine fin semN_ok (S := semN Tryz.prog W vfA (tb1 20)) ?_ (oiA W (meaC f.l) (meaC g.l) (mvOf 0 f.oc f.l) (mvOf 1 g.oc g.l) f.no f.el f.sd f.a f.b f.d f.e f.lo f.hi f.sex f.wear f.layer f.square g.no g.el g.sd g.a g.b g.d g.e g.lo g.hi g.sex g.wear g.layer g.square)
    have hr : valK Tryz.prog (semN Tryz.prog W vfA (tb1 20)) 60 50 [f.iv 0, g.iv 1] (st2 (meaC f.l) (meaC g.l)) = cond (goodN Tryz.prog W vfA 122 [f.iv 0, g.iv 1] (vwA (meaC f.l) (meaC g.l)) 0 (i64 20) none) (tup2 (.bool false) (i64 20)) none :=
      oi W (meaC f.l) (meaC g.l) (mvOf 0 f.oc f.l) (mvOf 1 g.oc g.l) f.no f.el f.sd f.a f.b f.d f.e f.lo f.hi f.sex f.wear f.layer f.square g.no g.el g.sd g.a g.b g.d g.e g.lo g.hi g.sex g.wear g.layer g.square
    rw [hr, hg1]
    unfold ovR
    rw [h20]
    rfl
  · have hvf := hz.valid
    have hvg := hz'.valid
    have hg1 := good122 hmix hs0 hf hg hz hz' (vf := vfA) fun s => rfl
    rw [h0] at hg1
    have e1 := hvf.fin (mvOf 0 f.oc f.l)
    have e2 := hvg.fin (mvOf 1 g.oc g.l)
    have hr := ov W (meaC f.l) (meaC g.l) (mvOf 0 f.oc f.l) (mvOf 1 g.oc g.l) f.no f.el f.sd f.a f.lo f.hi f.sex f.wear f.layer f.square g.no g.el g.sd g.a g.lo g.hi g.sex g.wear g.layer g.square
    have ha := ovA W (meaC f.l) (meaC g.l) (mvOf 0 f.oc f.l) (mvOf 1 g.oc g.l) f.no f.el f.sd f.a f.lo f.hi f.sex f.wear f.layer f.square g.no g.el g.sd g.a g.lo g.hi g.sex g.wear g.layer g.square
    rw [← e1, ← e2] at hr ha
    refine fin semN_ok (S := semN Tryz.prog W vfA (tb1 0)) (hr.trans ?_) ha
    have hg1 : goodN Tryz.prog W vfA 122 [f.im (mvOf 0 f.oc f.l), g.im (mvOf 1 g.oc g.l)] (vwA (meaC f.l) (meaC g.l)) 0 (i64 0) none = true := hg1
    rw [hg1, ovT_eq hf hg]
    unfold ovR
    rw [h0]
    rfl
end Go.Proofs.YtilfiadkhohfiaaGreatDoor
/- Layer 2: joins of finds, in runs. -/
set_option linter.unusedVariables false
namespace Go.Proofs.YtilfiadkhohfiaaGreatDoor
set_option linter.unusedSimpArgs false
set_option linter.unusedVariables false
open Go Go.RowKit Go.Clo
variable {W : World}

theorem joinM_ne {a : List Mea} : ∀ {b l r : List Mea}, joinM a l b = some r → (l ≠ [] ∨ b ≠ []) → r ≠ []
  | [], l, r, h, hn => by
    have : l = r := by unfold joinM at h; injection h
    subst this
    exact hn.elim id fun h => absurd rfl h
  | m :: b, l, r, h, _ => by
    rw [joinM_step] at h
    cases hs : stepM a m with
    | none => rw [hs] at h; cases h
    | some m' => rw [hs] at h; exact joinM_ne h (.inl (insM_ne m' l))
/-- Whether two valid finds become one, if their measurements do. -/
def jC (f g : Fd) (ag : Bool) : Bool := intBeq f.el g.el && ((intBeq f.sd g.sd || (intBeq f.sd 3 || intBeq g.sd 3)) && (eqVs (setV4 (Nat.land f.a g.a)) (setV4 0) && (!intLt (hiA f.hi g.hi) (loA f.lo g.lo) && ag)))
def inB (num : Int) : Bool := !intLt num 0 && !intLt 4095 num
/-- What they become. -/
def jFd (f g : Fd) (num : Int) : Fd := ⟨num, f.el, cond (intBeq f.sd 3) g.sd f.sd, Nat.lor f.a g.a, 0, 0, 0, loA f.lo g.lo, hiA f.hi g.hi, sxI f.sex g.sex, cond (intLt f.wear g.wear) g.wear f.wear, f.layer, f.square, none, []⟩
def zFd : Fd := ⟨0, 0, 0, 0, 0, 0, 0, 0, 0, 0, 0, 0, 0, none, []⟩
def jErr (f g : Fd) (ag : Bool) (num : Int) : Int := cond (inB num) (cond (jC f g ag) 0 22) 1
def jRes (f g : Fd) (ag : Bool) (num : Int) : Fd := cond (inB num && jC f g ag) (jFd f g num) zFd
def jV (f g : Fd) (ag : Bool) (mv : V) (num : Int) : V := cond (inB num && jC f g ag) mv .nils
set_option maxHeartbeats 4000000 in
theorem jT_eq {f g : Fd} (hf : f.OK) (hg : g.OK) {g76 ag : Bool} (h76 : ag = true → g76 = true) (mv : V) (num : Int) :
    jT true true true g76 ag mv (sxI f.sex g.sex) f.no f.el f.sd f.a f.lo f.hi f.sex f.wear f.layer f.square g.no g.el g.sd g.a g.lo g.hi g.sex g.wear g.layer g.square num = some (.tup [(jRes f g ag num).im (jV f g ag mv num), i64 (jErr f g ag num)]) := by
  unfold jT jErr jRes jV jC inB meetO jFd
  rw [bleT_of hf hg, rngSet (land_lt hf.a) (by omega)]
  cases ag with
  | false =>
    cases intLt num 0 <;> cases intLt 4095 num <;> cases intBeq f.el g.el <;> cases intBeq f.sd g.sd <;> cases intBeq f.sd 3 <;> cases intBeq g.sd 3 <;> cases eqVs (setV4 (Nat.land f.a g.a)) (setV4 0) <;> cases intLt (hiA f.hi g.hi) (loA f.lo g.lo) <;> rfl
  | true =>
    rw [h76 rfl]
    cases intLt num 0 <;> cases intLt 4095 num <;> cases intBeq f.el g.el <;> cases intBeq f.sd g.sd <;> cases intBeq f.sd 3 <;> cases intBeq g.sd 3 <;> cases eqVs (setV4 (Nat.land f.a g.a)) (setV4 0) <;> cases intLt (hiA f.hi g.hi) (loA f.lo g.lo) <;> rfl
/-- Finds that overlap can't be joined. -/
theorem jErr_ov {f g : Fd} (h : ovB f g = true) (ag : Bool) (num : Int) : jErr f g ag num ≠ 0 := by
  rw [ovB_iff] at h
  have e : eqVs (setV4 (Nat.land f.a g.a)) (setV4 0) = false := by rw [← Bool.not_eq_true, eqSet_iff]; exact h.2.2.2
  have hc : jC f g ag = false := by
    unfold jC
    rw [e]
    simp
  unfold jErr
  rw [hc]
  cases inB num <;> simp
/-- joinedSex. -/
theorem sex_calls (hmix : Tryz.prog.follows .mixedOrders = true) (hs0 : 0 < W.heap.size) (s s' : Int) : Calls Tryz.prog 173 #[.int .i64 s, .int .i64 s'] W fun e w' => e = .returned (.int .i64 (sxI s s')) ∧ Below W.heap.size W w' := by
  have hM : MeaAt W (.slice none 0 0) none [] := ⟨hs0, rfl, rfl⟩
  obtain ⟨ρ1, _, hR1, _⟩ := hM.add (Rel.start' (Below.refl W.heap.size W))
  obtain ⟨ρ2, _, hR2, _⟩ := hM.add hR1
  have hv : valG Tryz.prog (semN Tryz.prog W vfA (tb1 0)) 60 173 [i64 s, i64 s'] (st2 [] []) (fun v _ => v) = some (i64 (sxI s s')) := (sxr W [] [] s s').trans (sxO_eq s s')
  refine (valG_stepH hmix semN_ok hv (sxrA W [] [] s s') hR2 (us := [_, _]) (EL.cons (E_i64 s) (EL.cons (E_i64 s') EL.nil))).mono ?_
  rintro e w' ⟨ρ', v', st', u, rfl, hst, hE, rfl⟩
  exact ⟨by rw [E_i64_inv hE], Step.belowOf hR2 hst pair_noImg⟩
theorem good173 (hmix : Tryz.prog.follows .mixedOrders = true) (hs0 : 0 < W.heap.size) {vf : FuncId → St → List (Option Blk)} {vw : List (Option Blk)} (s s' : Int) : goodN Tryz.prog W vf 173 [i64 s, i64 s'] vw 0 (i64 (sxI s s')) none = true := goodN_true fun st _ _ => GoodM.same fun ρ w us hR he => by
  obtain ⟨u, r, rfl, e1, h2⟩ := EL.cons_inv he
  obtain ⟨u', r', rfl, e2, h3⟩ := EL.cons_inv h2
  obtain rfl := EL.nil_inv h3
  rw [E_i64_inv e1, E_i64_inv e2]
  exact ⟨_, E_i64 _, sex_calls hmix (Nat.lt_of_lt_of_le hs0 hR.below.size) s s'⟩
/-- The call of joinedMeasures, in a run. -/
theorem args169 (hs0 : 0 < W.heap.size) {f g : Fd} (hf : f.OK) (hg : g.OK) (hvf : f.Valid) (hvg : g.Valid) (hmix : Tryz.prog.follows .mixedOrders = true) {s : St} {ρ : Rho} {w : World} {us : List Value} (h0 : s.get 0 = some (.ro (meaC f.l))) (h1 : s.get 1 = some (.ro (meaC g.l))) (hR : Rel W ρ s w) (he : EL ρ [mvOf 0 f.oc f.l, mvOf 1 g.oc g.l] us) :
    ∃ ams, E ρ (mvOf 0 f.oc f.l) ams ∧ Calls Tryz.prog 169 us.toArray w (JoinedPost w ams f.l g.l) := by
  obtain ⟨u, r, rfl, e1, h2⟩ := EL.cons_inv he
  obtain ⟨u', r', rfl, e2, h3⟩ := EL.cons_inv h2
  obtain rfl := EL.nil_inv h3
  have hb := hR.below
  have hM := (meaAt_of hR hs0 hf.ho h0 e1).below hb
  have hM' := (meaAt_of hR hs0 hg.ho h1 e2).below hb
  obtain ⟨k1, k2, k3⟩ := hvf.list
  obtain ⟨l1, l2, l3⟩ := hvg.list
  exact ⟨u, e1, joined_calls hmix hM hf.ho hf.room k2 k1 k3 hM' l1 l3⟩
theorem good169_3 (hs0 : 0 < W.heap.size) {f g : Fd} (hf : f.OK) (hg : g.OK) (hvf : f.Valid) (hvg : g.Valid) (hmix : Tryz.prog.follows .mixedOrders = true) {l : List Mea} (hJ : joinM f.l f.l g.l = some l) (hne : g.l ≠ []) :
    goodN Tryz.prog W (vfJ 8) 169 [mvOf 0 f.oc f.l, mvOf 1 g.oc g.l] (vwA (meaC f.l) (meaC g.l)) 8 (.tup [slN 8 l, .bool (decide (l.length ≤ 8))]) (rowB l) = true := goodN_true fun s hvw hsz => by
  obtain ⟨h0, h1⟩ := seen (vf := vfJ 8) (fn := 169) rfl hvw
  have hsz : s.size = 8 := hsz rfl
  refine GoodM.rowIn (len := l.length) (g := fun u => .tuple #[u, .bool (decide (l.length ≤ 8))]) (fun ρ u hu => ?_) fun ρ w us hR he => ?_
  · simp only [E]
    exact ⟨[u, _], rfl, EL.cons (by rw [hsz] at hu; exact hu) (EL.cons (by simp only [E]) EL.nil)⟩
  · obtain ⟨ams, _, hc⟩ := args169 hs0 hf hg hvf hvg hmix h0 h1 hR he
    refine hc.mono ?_
    rintro e w' ⟨hb, ⟨h, _⟩ | ⟨l', lms, h, _, ⟨h2, _⟩ | ⟨_, h2⟩, rfl⟩⟩
    · rw [hJ] at h; cases h
    · exact absurd h2 hne
    · rw [hJ] at h; injection h with h; subst h
      obtain ⟨blk, off, cap, xs, ty, rfl, k1, k2, k3, k4, k5⟩ := h2
      exact ⟨blk, off, cap, xs, ty, rfl, k1, k2, k3, k4, k5, hb⟩
theorem good169_1 (hs0 : 0 < W.heap.size) {f g : Fd} (hf : f.OK) (hg : g.OK) (hvf : f.Valid) (hvg : g.Valid) (hmix : Tryz.prog.follows .mixedOrders = true) (hJ : joinM f.l f.l g.l = none) {k : Nat} :
    goodN Tryz.prog W (vfJ k) 169 [mvOf 0 f.oc f.l, mvOf 1 g.oc g.l] (vwA (meaC f.l) (meaC g.l)) 0 (.tup [.nils, .bool false]) none = true := goodN_true fun s hvw _ => GoodM.same fun ρ w us hR he => by
  obtain ⟨h0, h1⟩ := seen (vf := vfJ k) (fn := 169) rfl hvw
  obtain ⟨ams, _, hc⟩ := args169 hs0 hf hg hvf hvg hmix h0 h1 hR he
  refine ⟨.tuple #[.slice none 0 0, .bool false], by simp only [E]; exact ⟨[_, _], rfl, EL.cons (by simp only [E]) (EL.cons (by simp only [E]) EL.nil)⟩, hc.mono ?_⟩
  rintro e w' ⟨hb, ⟨_, rfl⟩ | ⟨l', lms, h, _⟩⟩
  · exact ⟨rfl, hb⟩
  · rw [hJ] at h; cases h
theorem good169_2 (hs0 : 0 < W.heap.size) {f g : Fd} (hf : f.OK) (hg : g.OK) (hvf : f.Valid) (hvg : g.Valid) (hmix : Tryz.prog.follows .mixedOrders = true) (hnil : g.l = []) {k : Nat} :
    goodN Tryz.prog W (vfJ k) 169 [mvOf 0 f.oc f.l, mvOf 1 g.oc g.l] (vwA (meaC f.l) (meaC g.l)) 0 (.tup [mvOf 0 f.oc f.l, .bool true]) none = true := goodN_true fun s hvw _ => GoodM.same fun ρ w us hR he => by
  obtain ⟨h0, h1⟩ := seen (vf := vfJ k) (fn := 169) rfl hvw
  obtain ⟨ams, hE, hc⟩ := args169 hs0 hf hg hvf hvg hmix h0 h1 hR he
  have hJ : joinM f.l f.l g.l = some f.l := by rw [hnil]; rfl
  refine ⟨.tuple #[ams, .bool true], by simp only [E]; exact ⟨[_, _], rfl, EL.cons hE (EL.cons (by simp only [E]) EL.nil)⟩, hc.mono ?_⟩
  rintro e w' ⟨hb, ⟨h, _⟩ | ⟨l', lms, h, _, h2, rfl⟩⟩
  · rw [hJ] at h; cases h
  · rw [hJ] at h; injection h with h; subst h
    have hlen : decide (f.l.length ≤ 8) = true := decide_eq_true hvf.list.1
    rw [hlen]
    rcases h2 with ⟨_, rfl, _⟩ | h2
    · exact ⟨rfl, hb⟩
    · exact absurd hnil h2.1
end Go.Proofs.YtilfiadkhohfiaaGreatDoor
/- Layer 2: joins of finds, in runs. -/
set_option linter.unusedVariables false
namespace Go.Proofs.YtilfiadkhohfiaaGreatDoor
set_option linter.unusedSimpArgs false
set_option linter.unusedVariables false
open Go Go.RowKit Go.Clo
variable {W : World}

theorem rowOf_row {n : Nat} {l : List Mea} {s : St} {ty : TypeId} {nx : Bool} {an : List Nat} (h : s.get n = some (.row (meaC l) ty 3 nx an)) : rowOf (.sl n 0 l.length (.open_ 0)) s = .ok (meaC l) := by
  unfold rowOf
  simp only
  rw [h]
  have e : l.length * 3 = (meaC l).length := by rw [meaC_len]; omega
  show Clo.ask true _ (Clo.ask true _ (cut _ 0 _)) = _
  rw [e, cut_full]
  rfl
theorem clone_good (hmix : Tryz.prog.follows .mixedOrders = true) {w : World} {u : Value} {cap : Nat} {l : List Mea} (hM : MeaAt w u (some cap) l) (hl : l ≠ []) (hn : l.length ≤ 8) :
    Calls Tryz.prog 76 #[u] w fun e w' => ∃ blk off cap xs ty', e = .returned (.slice (some ⟨blk, off, none⟩) l.length cap) ∧ w.heap.size ≤ blk ∧ w'.heap[blk]? = some (.cells (xs : List Value).toArray ty' (0, 0)) ∧
      (∀ (i : Nat) (v : V), (meaC l)[i]? = some v → ∃ u, xs[off + i]? = some u ∧ E (fun _ => none) v u) ∧ off + cap * 3 ≤ xs.length ∧ (meaC l).length ≤ cap * 3 ∧ Below w.heap.size w w' := by
  refine (clone_any hmix hM hl hn).mono ?_
  rintro e w' ⟨u, rfl, ⟨blk, off, cap, xs, ty, rfl, k1, k2, k3, k4, k5⟩, hb⟩
  exact ⟨blk, off, cap, xs, ty, rfl, k1, k2, k3, k4, k5, hb⟩
theorem good76_3 (hmix : Tryz.prog.follows .mixedOrders = true) {l : List Mea} (hl : l ≠ []) (hn : l.length ≤ 8) {n m : Nat} : goodN Tryz.prog W (vfJ n) 76 [slN n l] [rowB l] m (slN m l) (rowB l) = true := goodN_true fun s hvw hsz => by
  have hg : s.get n = some (.row (meaC l) 0 3 false []) := (List.cons.inj hvw).1
  have hsz : s.size = m := hsz rfl
  subst hsz
  refine GoodM.row fun ρ w us hR he => ?_
  obtain ⟨u, r, rfl, e1, h2⟩ := EL.cons_inv he
  obtain rfl := EL.nil_inv h2
  obtain ⟨cap, hM, _⟩ := (row_new hR hl e1 (rowOf_row hg)).mea
  exact clone_good hmix hM hl hn
theorem good76_2 (hmix : Tryz.prog.follows .mixedOrders = true) (hs0 : 0 < W.heap.size) {l : List Mea} {cap : Nat} (hl : l ≠ []) (hn : l.length ≤ 8) {m : Nat} : goodN Tryz.prog W (vfJ 0) 76 [.sl 0 0 l.length (.exact cap)] [some (.ro (meaC l))] m (slN m l) (rowB l) = true := goodN_true fun s hvw hsz => by
  have hg : s.get 0 = some (.ro (meaC l)) := (List.cons.inj hvw).1
  have hsz : s.size = m := hsz rfl
  subst hsz
  refine GoodM.row fun ρ w us hR he => ?_
  obtain ⟨u, r, rfl, e1, h2⟩ := EL.cons_inv he
  obtain rfl := EL.nil_inv h2
  exact clone_good hmix ((meaAt_of (oc := some cap) hR hs0 (fun e => by cases e) hg e1).below hR.below) hl hn
def isSl (u : Value) : Prop := ∃ a n c, u = .slice a n c
theorem isSl_nils {ρ : Rho} {u : Value} (h : E ρ .nils u) : isSl u := by simp only [E] at h; exact ⟨_, _, _, h⟩
theorem isSl_sl {ρ : Rho} {b o n : Nat} {c : Cap} {u : Value} (h : E ρ (.sl b o n c) u) : isSl u := by
  cases c <;> (simp only [E] at h; obtain ⟨l, _, rfl⟩ := h; exact ⟨_, _, _, rfl⟩)
theorem isSl_any {ρ : Rho} {u : Value} (h : isSl u) : E ρ .any u := by
  obtain ⟨a, n, c, rfl⟩ := h
  simp only [E]
  exact ⟨fun b e => (by cases e), fun us e => (by cases e), fun us e => (by cases e)⟩
/-- What Joined comes to, of valid finds: the error, and all of the find but its measurements. -/
theorem joined48 (hmix : Tryz.prog.follows .mixedOrders = true) (hs0 : 0 < W.heap.size) {f g : Fd} (hf : f.OK) (hg : g.OK) (hz : Checks W f 0) (hz' : Checks W g 0) (num : Int) {ms ms' : Value} (hm : MeaAt W ms f.oc f.l) (hm' : MeaAt W ms' g.oc g.l) :
    Calls Tryz.prog 48 #[f.U ms, g.U ms', .int .i64 num] W fun e w' => ∃ mr, isSl mr ∧ Below W.heap.size W w' ∧ e = .returned (.tuple #[(jRes f g (match joinM f.l f.l g.l with | some l => decide (l.length ≤ 8) | none => false) num).U mr, .int .i64 (jErr f g (match joinM f.l f.l g.l with | some l => decide (l.length ≤ 8) | none => false) num)]) := by
  have hvf := hz.valid
  have hvg := hz'.valid
  have e1 := hvf.fin (mvOf 0 f.oc f.l)
  have e2 := hvg.fin (mvOf 1 g.oc g.l)
  have fin : ∀ {S : SHook} {mv : V} {ag : Bool}, HookOK Tryz.prog W (hookOf S) → (∀ ρ u, E ρ mv u → isSl u) → valK Tryz.prog S 60 48 [f.iv 0, g.iv 1, i64 num] (st2 (meaC f.l) (meaC g.l)) = some (.tup [(jRes f g ag num).im (jV f g ag mv num), i64 (jErr f g ag num)]) →
      askK Tryz.prog S 60 48 [f.iv 0, g.iv 1, i64 num] (st2 (meaC f.l) (meaC g.l)) false = askK Tryz.prog S 60 48 [f.iv 0, g.iv 1, i64 num] (st2 (meaC f.l) (meaC g.l)) true →
      Calls Tryz.prog 48 #[f.U ms, g.U ms', .int .i64 num] W fun e w' => ∃ mr, isSl mr ∧ Below W.heap.size W w' ∧ e = .returned (.tuple #[(jRes f g ag num).U mr, .int .i64 (jErr f g ag num)]) := by
    intro S mv ag hS hmv hv ha
    refine (pair_calls hmix hS (xs := [i64 num]) (ys := [.int .i64 num]) (fun ρ => EL.cons (E_i64 _) EL.nil) hv ha hm hm').mono ?_
    rintro e w' ⟨ρ', u, rfl, hb, hE⟩
    obtain ⟨x, y, rfl, h1, h2⟩ := E_tup2 hE
    obtain ⟨mr, rfl, h3⟩ := Fd.im_of h1
    refine ⟨mr, ?_, hb, by rw [E_i64_inv h2]⟩
    unfold jV at h3
    cases hc : (inB num && jC f g ag) with
    | true => rw [hc] at h3; exact hmv _ _ h3
    | false => rw [hc] at h3; exact isSl_nils h3
  have g122 : ∀ n, goodN Tryz.prog W (vfJ n) 122 [f.iv 0, g.iv 1] (vwA (meaC f.l) (meaC g.l)) 0 (i64 0) none = true := fun n => good122 hmix hs0 hf hg hz hz' (vf := vfJ n) fun s => rfl
  have g173 : ∀ n, goodN Tryz.prog W (vfJ n) 173 [i64 f.sex, i64 g.sex] (vwA (meaC f.l) (meaC g.l)) 0 (i64 (sxI f.sex g.sex)) none = true := fun n => good173 hmix hs0 _ _
  cases hJ : joinM f.l f.l g.l with
  | none =>
    have hr := jr_1 W (sxI f.sex g.sex) (meaC f.l) (meaC g.l) (mvOf 0 f.oc f.l) (mvOf 1 g.oc g.l) f.no f.el f.sd f.a f.lo f.hi f.sex f.wear f.layer f.square g.no g.el g.sd g.a g.lo g.hi g.sex g.wear g.layer g.square num
    have ha := jr_1A W (sxI f.sex g.sex) (meaC f.l) (meaC g.l) (mvOf 0 f.oc f.l) (mvOf 1 g.oc g.l) f.no f.el f.sd f.a f.lo f.hi f.sex f.wear f.layer f.square g.no g.el g.sd g.a g.lo g.hi g.sex g.wear g.layer g.square num
    rw [← e1, ← e2] at hr ha
    refine fin semN_ok (mv := .nils) (ag := false) (fun ρ u h => isSl_nils h) (hr.trans ?_) ha
    rw [show goodN Tryz.prog W (vfJ 8) 122 [f.im (mvOf 0 f.oc f.l), g.im (mvOf 1 g.oc g.l)] (vwA (meaC f.l) (meaC g.l)) 0 (i64 0) none = true from g122 8, g173 8, good169_1 hs0 hf hg hvf hvg hmix hJ]
    exact jT_eq hf hg (fun _ => rfl) .nils num
  | some l =>
    by_cases hne : g.l = []
    · have hl : f.l = l := by rw [hne] at hJ; unfold joinM at hJ; injection hJ
      subst hl
      have hlen : decide (f.l.length ≤ 8) = true := decide_eq_true hvf.list.1
      show Calls Tryz.prog 48 _ W fun e w' => ∃ mr, isSl mr ∧ Below W.heap.size W w' ∧ e = .returned (.tuple #[(jRes f g (decide (f.l.length ≤ 8)) num).U mr, .int .i64 (jErr f g (decide (f.l.length ≤ 8)) num)])
      rw [hlen]
      have g2 := good169_2 hs0 hf hg hvf hvg hmix hne (k := 0)
      cases hoc : f.oc with
      | none =>
        have hfl := hf.ho hoc
        have hmv : mvOf 0 f.oc f.l = .nils := by rw [hoc]; rfl
        have hr := jr_2n W (sxI f.sex g.sex) (meaC f.l) (meaC g.l) (mvOf 1 g.oc g.l) f.no f.el f.sd f.a f.lo f.hi f.sex f.wear f.layer f.square g.no g.el g.sd g.a g.lo g.hi g.sex g.wear g.layer g.square num
        have ha := jr_2nA W (sxI f.sex g.sex) (meaC f.l) (meaC g.l) (mvOf 1 g.oc g.l) f.no f.el f.sd f.a f.lo f.hi f.sex f.wear f.layer f.square g.no g.el g.sd g.a g.lo g.hi g.sex g.wear g.layer g.square num
        rw [← hmv] at hr ha
        rw [← e1, ← e2] at hr ha
        refine fin semN_ok (mv := .nils) (ag := true) (fun ρ u h => isSl_nils h) (hr.trans ?_) ha
        rw [show goodN Tryz.prog W (vfJ 0) 122 [f.im (mvOf 0 f.oc f.l), g.im (mvOf 1 g.oc g.l)] (vwA (meaC f.l) (meaC g.l)) 0 (i64 0) none = true from g122 0, g173 0, g2, hmv]
        exact jT_eq hf hg (fun _ => rfl) .nils num
      | some cap =>
        have hmv : mvOf 0 f.oc f.l = .sl 0 0 f.l.length (.exact cap) := by rw [hoc]; rfl
        by_cases hfl : f.l = []
        · have hmv : mvOf 0 f.oc f.l = .sl 0 0 0 (.exact cap) := by rw [hmv, hfl]; rfl
          have hc : meaC f.l = [] := by rw [hfl]; rfl
          have hr := jr_2f W (sxI f.sex g.sex) (meaC f.l) (meaC g.l) (mvOf 1 g.oc g.l) f.no f.el f.sd f.a f.lo f.hi f.sex f.wear f.layer f.square g.no g.el g.sd g.a g.lo g.hi g.sex g.wear g.layer g.square num cap hc
          have ha := jr_2fA W (sxI f.sex g.sex) (meaC f.l) (meaC g.l) (mvOf 1 g.oc g.l) f.no f.el f.sd f.a f.lo f.hi f.sex f.wear f.layer f.square g.no g.el g.sd g.a g.lo g.hi g.sex g.wear g.layer g.square num cap hc
          rw [← hmv] at hr ha
          rw [← e1, ← e2] at hr ha
          refine fin semN_ok (mv := .sl 124 0 0 (.exact 0)) (ag := true) (fun ρ u h => isSl_sl h) (hr.trans ?_) ha
          rw [show goodN Tryz.prog W (vfJ 0) 122 [f.im (mvOf 0 f.oc f.l), g.im (mvOf 1 g.oc g.l)] (vwA (meaC f.l) (meaC g.l)) 0 (i64 0) none = true from g122 0, g173 0, g2]
          exact jT_eq hf hg (fun _ => rfl) _ num
        · have hr := jr_2 W (sxI f.sex g.sex) f.l (meaC f.l) (meaC g.l) (mvOf 1 g.oc g.l) f.no f.el f.sd f.a f.lo f.hi f.sex f.wear f.layer f.square g.no g.el g.sd g.a g.lo g.hi g.sex g.wear g.layer g.square num cap f.l.length
          have ha := jr_2A W (sxI f.sex g.sex) f.l (meaC f.l) (meaC g.l) (mvOf 1 g.oc g.l) f.no f.el f.sd f.a f.lo f.hi f.sex f.wear f.layer f.square g.no g.el g.sd g.a g.lo g.hi g.sex g.wear g.layer g.square num cap f.l.length
          have g76 := good76_2 (W := W) hmix hs0 (l := f.l) (cap := cap) hfl hvf.list.1 (m := 124)
          rw [← hmv] at hr ha g76
          rw [← e1, ← e2] at hr ha
          refine fin semN_ok (mv := slN 124 f.l) (ag := true) (fun ρ u h => isSl_sl h) (hr.trans ?_) ha
          rw [show goodN Tryz.prog W (vfJ 0) 122 [f.im (mvOf 0 f.oc f.l), g.im (mvOf 1 g.oc g.l)] (vwA (meaC f.l) (meaC g.l)) 0 (i64 0) none = true from g122 0, g173 0, g2, g76]
          exact jT_eq hf hg (fun _ => rfl) _ num
    · show Calls Tryz.prog 48 _ W fun e w' => ∃ mr, isSl mr ∧ Below W.heap.size W w' ∧ e = .returned (.tuple #[(jRes f g (decide (l.length ≤ 8)) num).U mr, .int .i64 (jErr f g (decide (l.length ≤ 8)) num)])
      have hr := jr_3 W (sxI f.sex g.sex) l (decide (l.length ≤ 8)) (meaC f.l) (meaC g.l) (mvOf 0 f.oc f.l) (mvOf 1 g.oc g.l) f.no f.el f.sd f.a f.lo f.hi f.sex f.wear f.layer f.square g.no g.el g.sd g.a g.lo g.hi g.sex g.wear g.layer g.square num
      have ha := jr_3A W (sxI f.sex g.sex) l (decide (l.length ≤ 8)) (meaC f.l) (meaC g.l) (mvOf 0 f.oc f.l) (mvOf 1 g.oc g.l) f.no f.el f.sd f.a f.lo f.hi f.sex f.wear f.layer f.square g.no g.el g.sd g.a g.lo g.hi g.sex g.wear g.layer g.square num
      rw [← e1, ← e2] at hr ha
      refine fin semN_ok (mv := slN 125 l) (ag := decide (l.length ≤ 8)) (fun ρ u h => isSl_sl h) (hr.trans ?_) ha
      rw [show goodN Tryz.prog W (vfJ 8) 122 [f.im (mvOf 0 f.oc f.l), g.im (mvOf 1 g.oc g.l)] (vwA (meaC f.l) (meaC g.l)) 0 (i64 0) none = true from g122 8, g173 8, good169_3 hs0 hf hg hvf hvg hmix hJ hne]
      exact jT_eq hf hg (fun h => good76_3 hmix (joinM_ne hJ (.inr hne)) (of_decide_eq_true h)) _ num
end Go.Proofs.YtilfiadkhohfiaaGreatDoor
/- Layer 2: joins of finds, in runs. -/
set_option linter.unusedVariables false
namespace Go.Proofs.YtilfiadkhohfiaaGreatDoor
set_option linter.unusedSimpArgs false
set_option linter.unusedVariables false
open Go Go.RowKit Go.Clo
variable {W : World}

theorem GoodM.same' {P : Program} {f : FuncId} {args : List V} {s : St} {v : V}
    (h : ∀ (ρ : Rho) (w : World) (us : List Value), Rel W ρ s w → EL ρ args us → Calls P f us.toArray w fun e w' => ∃ u, e = .returned u ∧ E ρ v u ∧ Below w.heap.size w w') : GoodM P W f args s v s := by
  intro ρ w us hR he
  refine (h ρ w us hR he).mono ?_
  rintro e w' ⟨u, rfl, hu, hb⟩
  exact ⟨ρ, u, rfl, Step.below hR hb, hu⟩
theorem good50 (hmix : Tryz.prog.follows .mixedOrders = true) (hs0 : 0 < W.heap.size) {f g : Fd} {z z' : Int} (hf : f.OK) (hg : g.OK) (hz : Checks W f z) (hz' : Checks W g z') {i j : Nat} {s : St} (hi : s.get i = some (.ro (meaC f.l))) (hj : s.get j = some (.ro (meaC g.l))) :
    GoodM Tryz.prog W 50 [f.iv i, g.iv j] s (.tup [.bool (ovR f g z z'), i64 (bothZ z z')]) s := GoodM.same fun ρ w us hR he => by
  obtain ⟨u, r, rfl, e1, h2⟩ := EL.cons_inv he
  obtain ⟨u', r', rfl, e2, h3⟩ := EL.cons_inv h2
  obtain rfl := EL.nil_inv h3
  obtain ⟨ms, rfl, hm⟩ := Fd.im_of e1
  obtain ⟨ms', rfl, hm'⟩ := Fd.im_of e2
  have hb := hR.below
  refine ⟨.tuple #[.bool (ovR f g z z'), .int .i64 (bothZ z z')], ?_, overlap_calls hmix (Nat.lt_of_lt_of_le hs0 hb.size) hf hg (hz.world hb) (hz'.world hb) ((meaAt_of hR hs0 hf.ho hi hm).below hb) ((meaAt_of hR hs0 hg.ho hj hm').below hb)⟩
  simp only [E]
  exact ⟨[_, _], rfl, EL.cons (by simp only [E]) (EL.cons (E_i64 _) EL.nil)⟩
theorem good18 (hsane : ∀ w, Below W.heap.size W w → Calls Tryz.prog 18 #[] w fun e w' => e = .returned (.bool true) ∧ Below w.heap.size w w') {vf : FuncId → St → List (Option Blk)} {vw : List (Option Blk)} : goodN Tryz.prog W vf 18 [] vw 0 (.bool true) none = true := goodN_true fun s _ _ => GoodM.same fun ρ w us hR he => by
  obtain rfl := EL.nil_inv he
  exact ⟨_, by simp only [E], hsane w hR.below⟩
/-- The error and the find that Joined comes to. -/
def agB (f g : Fd) : Bool := match joinM f.l f.l g.l with | some l => decide (l.length ≤ 8) | none => false
theorem good48 (hmix : Tryz.prog.follows .mixedOrders = true) (hs0 : 0 < W.heap.size) {f g : Fd} (hf : f.OK) (hg : g.OK) (hz : Checks W f 0) (hz' : Checks W g 0) (num : Int) {s : St} (hi : s.get 0 = some (.ro (meaC f.l))) (hj : s.get 1 = some (.ro (meaC g.l))) :
    GoodM Tryz.prog W 48 [f.iv 0, g.iv 1, i64 num] s (.tup [(jRes f g (agB f g) num).im .any, i64 (jErr f g (agB f g) num)]) s := GoodM.same' fun ρ w us hR he => by
  obtain ⟨u, r, rfl, e1, h2⟩ := EL.cons_inv he
  obtain ⟨u', r', rfl, e2, h3⟩ := EL.cons_inv h2
  obtain ⟨u3, r3, rfl, e3, h4⟩ := EL.cons_inv h3
  obtain rfl := EL.nil_inv h4
  obtain ⟨ms, rfl, hm⟩ := Fd.im_of e1
  obtain ⟨ms', rfl, hm'⟩ := Fd.im_of e2
  obtain rfl := E_i64_inv e3
  have hb := hR.below
  refine (joined48 hmix (Nat.lt_of_lt_of_le hs0 hb.size) hf hg (hz.world hb) (hz'.world hb) num ((meaAt_of hR hs0 hf.ho hi hm).below hb) ((meaAt_of hR hs0 hg.ho hj hm').below hb)).mono ?_
  rintro e w' ⟨mr, hsl, hbel, rfl⟩
  refine ⟨_, rfl, ?_, hbel⟩
  simp only [E]
  exact ⟨[_, _], rfl, EL.cons (Fd.im_E (isSl_any hsl)) (EL.cons (E_i64 _) EL.nil)⟩
theorem jRes_fin (f g : Fd) (ag : Bool) (num : Int) (mv : V) : (jRes f g ag num).im mv = fin1 (jRes f g ag num).no (jRes f g ag num).el (jRes f g ag num).sd (jRes f g ag num).a mv (jRes f g ag num).lo (jRes f g ag num).hi (jRes f g ag num).sex (jRes f g ag num).wear (jRes f g ag num).layer (jRes f g ag num).square := by
  unfold jRes
  cases (inB num && jC f g ag) <;> rfl
theorem lawT_true {f g : Fd} (hf : f.Valid) (ag : Bool) (num : Int) : lawT true true true true true true (ovB f g) (ovB f g) (ovB f f) (jErr f g ag num) f.sd = some (.bool true) := by
  have hje : ovB f g = true → intBeq (jErr f g ag num) 0 = false := fun h => by
    rw [← Bool.not_eq_true, intBeq_iff]; exact jErr_ov h ag num
  have hsd : ovB f g = true → f.sd ≠ 3 := fun h => (ovB_iff.1 h).2.2.1
  have hself := ovB_self hf
  unfold lawT endT
  cases hs : intBeq f.sd 3 with
  | true =>
    rw [intBeq_iff] at hs
    have h1 : ovB f g = false := by rw [← Bool.not_eq_true]; exact fun h => hsd h hs
    have h2 : ovB f f = false := by rw [← Bool.not_eq_true]; exact fun h => hself.1 h hs
    rw [h1, h2]
    rfl
  | false =>
    rw [← Bool.not_eq_true, intBeq_iff] at hs
    rw [hself.2 hs]
    cases h : ovB f g with
    | false => rfl
    | true => rw [hje h]; rfl
/-- The law FindsOverlap returns true, if its sane does. -/
theorem overlap_law (hmix : Tryz.prog.follows .mixedOrders = true) (hs0 : 0 < W.heap.size) (hsane : ∀ w, Below W.heap.size W w → Calls Tryz.prog 18 #[] w fun e w' => e = .returned (.bool true) ∧ Below w.heap.size w w')
    {f g : Fd} {z z' : Int} (hf : f.OK) (hg : g.OK) (hz : Checks W f z) (hz' : Checks W g z') (num : Int) {ms ms' : Value} (hm : MeaAt W ms f.oc f.l) (hm' : MeaAt W ms' g.oc g.l) :
    Calls Tryz.prog 15 #[f.U ms, g.U ms', .int .i64 num] W fun e w' => e = .returned (.bool true) ∧ Below W.heap.size W w' := by
  have fin : ∀ {S : SHook}, HookOK Tryz.prog W (hookOf S) → valK Tryz.prog S 60 15 [f.iv 0, g.iv 1, i64 num] (st2 (meaC f.l) (meaC g.l)) = some (.bool true) →
      askK Tryz.prog S 60 15 [f.iv 0, g.iv 1, i64 num] (st2 (meaC f.l) (meaC g.l)) false = askK Tryz.prog S 60 15 [f.iv 0, g.iv 1, i64 num] (st2 (meaC f.l) (meaC g.l)) true →
      Calls Tryz.prog 15 #[f.U ms, g.U ms', .int .i64 num] W fun e w' => e = .returned (.bool true) ∧ Below W.heap.size W w' := by
    intro S hS hv ha
    refine (pair_calls hmix hS (xs := [i64 num]) (ys := [.int .i64 num]) (fun ρ => EL.cons (E_i64 _) EL.nil) hv ha hm hm').mono ?_
    rintro e w' ⟨ρ', u, rfl, hb, hE⟩
    exact ⟨by rw [E_bool_inv hE], hb⟩
  have g18 := good18 hsane (vf := vfA) (vw := vwA (meaC f.l) (meaC g.l))
  rcases bothZ_20 hz.z hz'.z with h20 | ⟨rfl, rfl, h0⟩
  · have h20' : bothZ z' z = 20 := by
      unfold bothZ at h20 ⊢
      rcases hz.z with rfl | rfl <;> rcases hz'.z with rfl | rfl <;> simp_all
    have gab : goodN Tryz.prog W vfA 50 [f.iv 0, g.iv 1] (vwA (meaC f.l) (meaC g.l)) 0 (.tup [.bool false, i64 20]) none = true := goodN_true fun s hvw _ => by
      obtain ⟨k0, k1⟩ := seen (vf := vfA) (fn := 50) rfl hvw
      have := good50 hmix hs0 hf hg hz hz' k0 k1
      unfold ovR at this
      rw [h20] at this
      exact this
    have gba : goodN Tryz.prog W vfA 50 [g.iv 1, f.iv 0] (vwA (meaC f.l) (meaC g.l)) 0 (.tup [.bool false, i64 20]) none = true := goodN_true fun s hvw _ => by
      obtain ⟨k0, k1⟩ := seen (vf := vfA) (fn := 50) rfl hvw
      have := good50 hmix hs0 hg hf hz' hz k1 k0
      unfold ovR at this
      rw [h20'] at this
      exact this
    have hr := lawi W (fun _ => false) (meaC f.l) (meaC g.l) (mvOf 0 f.oc f.l) (mvOf 1 g.oc g.l) f.no f.el f.sd f.a f.b f.d f.e f.lo f.hi f.sex f.wear f.layer f.square g.no g.el g.sd g.a g.b g.d g.e g.lo g.hi g.sex g.wear g.layer g.square num
    have ha := lawiA W (fun _ => false) (meaC f.l) (meaC g.l) (mvOf 0 f.oc f.l) (mvOf 1 g.oc g.l) f.no f.el f.sd f.a f.b f.d f.e f.lo f.hi f.sex f.wear f.layer f.square g.no g.el g.sd g.a g.b g.d g.e g.lo g.hi g.sex g.wear g.layer g.square num
    have hr : valK Tryz.prog (semN Tryz.prog W vfA (tbL (fun _ => false) 20 0 zFind)) 60 15 [f.iv 0, g.iv 1, i64 num] (st2 (meaC f.l) (meaC g.l)) = cond (goodN Tryz.prog W vfA 18 [] (vwA (meaC f.l) (meaC g.l)) 0 (.bool true) none) (cond (goodN Tryz.prog W vfA 50 [f.iv 0, g.iv 1] (vwA (meaC f.l) (meaC g.l)) 0 (.tup [.bool false, i64 20]) none) (cond (goodN Tryz.prog W vfA 50 [g.iv 1, f.iv 0] (vwA (meaC f.l) (meaC g.l)) 0 (.tup [.bool false, i64 20]) none) (cond (!(false == false)) (some (.bool false)) (some (.bool (!false)))) none) none) none := hr
    rw [g18, gab, gba] at hr
    exact fin semN_ok hr ha
  · have hvf := hz.valid
    have hvg := hz'.valid
    let ov : List V → Bool := fun args => @ite _ (args = [f.iv 0, f.iv 0]) (Classical.propDecidable _) (ovB f f) (ovB f g)
    have same : g.iv 1 = f.iv 0 → ovB f f = ovB f g := fun h => by
      obtain ⟨_, h1, h2, h3, _⟩ := Fd.iv_inj hg hf (by omega) h
      unfold ovB
      rw [h1, h2, h3]
    have o1 : ov [f.iv 0, g.iv 1] = ovB f g := by
      show @ite _ _ (Classical.propDecidable _) (ovB f f) (ovB f g) = ovB f g
      by_cases h : [f.iv 0, g.iv 1] = [f.iv 0, f.iv 0]
      · rw [if_pos h]; exact same (List.cons.inj (List.cons.inj h).2).1
      · rw [if_neg h]
    have o1' : ov [g.iv 1, f.iv 0] = ovB f g := by
      show @ite _ _ (Classical.propDecidable _) (ovB f f) (ovB f g) = ovB f g
      by_cases h : [g.iv 1, f.iv 0] = [f.iv 0, f.iv 0]
      · rw [if_pos h]; exact same (List.cons.inj h).1
      · rw [if_neg h]
    have o2 : ov [f.iv 0, f.iv 0] = ovB f f := by
      show @ite _ _ (Classical.propDecidable _) (ovB f f) (ovB f g) = ovB f f
      rw [if_pos rfl]
    have ovz : ∀ {f g : Fd}, ovR f g 0 0 = ovB f g := fun {f g} => by unfold ovR; rfl
    have gab : goodN Tryz.prog W vfA 50 [f.iv 0, g.iv 1] (vwA (meaC f.l) (meaC g.l)) 0 (.tup [.bool (ovB f g), i64 0]) none = true := goodN_true fun s hvw _ => by
      obtain ⟨k0, k1⟩ := seen (vf := vfA) (fn := 50) rfl hvw
      have := good50 hmix hs0 hf hg hz hz' k0 k1
      rw [ovz] at this
      exact this
    have gba : goodN Tryz.prog W vfA 50 [g.iv 1, f.iv 0] (vwA (meaC f.l) (meaC g.l)) 0 (.tup [.bool (ovB f g), i64 0]) none = true := goodN_true fun s hvw _ => by
      obtain ⟨k0, k1⟩ := seen (vf := vfA) (fn := 50) rfl hvw
      have := good50 hmix hs0 hg hf hz' hz k1 k0
      rw [ovz, ovB_comm g f] at this
      exact this
    have gaa : goodN Tryz.prog W vfA 50 [f.iv 0, f.iv 0] (vwA (meaC f.l) (meaC g.l)) 0 (.tup [.bool (ovB f f), i64 0]) none = true := goodN_true fun s hvw _ => by
      obtain ⟨k0, k1⟩ := seen (vf := vfA) (fn := 50) rfl hvw
      have := good50 hmix hs0 hf hf hz hz k0 k0
      rw [ovz] at this
      exact this
    have g48 : goodN Tryz.prog W vfA 48 [f.iv 0, g.iv 1, i64 num] (vwA (meaC f.l) (meaC g.l)) 0 (.tup [(jRes f g (agB f g) num).im .any, i64 (jErr f g (agB f g) num)]) none = true := goodN_true fun s hvw _ => by
      obtain ⟨k0, k1⟩ := seen (vf := vfA) (fn := 48) rfl hvw
      exact good48 hmix hs0 hf hg hz hz' num k0 k1
    have g19 : goodN Tryz.prog W vfA 19 [f.iv 0] (vwA (meaC f.l) (meaC g.l)) 0 (i64 0) none = true := goodN_true fun s hvw _ => good19 hs0 hf hz (seen (vf := vfA) (fn := 19) rfl hvw).1
    have e1 := hvf.fin (mvOf 0 f.oc f.l)
    have e2 := hvg.fin (mvOf 1 g.oc g.l)
    have hr := lawr W ov (jErr f g (agB f g) num) (meaC f.l) (meaC g.l) (mvOf 0 f.oc f.l) (mvOf 1 g.oc g.l) f.no f.el f.sd f.a f.lo f.hi f.sex f.wear f.layer f.square g.no g.el g.sd g.a g.lo g.hi g.sex g.wear g.layer g.square num (jRes f g (agB f g) num).no (jRes f g (agB f g) num).el (jRes f g (agB f g) num).sd (jRes f g (agB f g) num).a (jRes f g (agB f g) num).lo (jRes f g (agB f g) num).hi (jRes f g (agB f g) num).sex (jRes f g (agB f g) num).wear (jRes f g (agB f g) num).layer (jRes f g (agB f g) num).square
    have ha := lawrA W ov (jErr f g (agB f g) num) (meaC f.l) (meaC g.l) (mvOf 0 f.oc f.l) (mvOf 1 g.oc g.l) f.no f.el f.sd f.a f.lo f.hi f.sex f.wear f.layer f.square g.no g.el g.sd g.a g.lo g.hi g.sex g.wear g.layer g.square num (jRes f g (agB f g) num).no (jRes f g (agB f g) num).el (jRes f g (agB f g) num).sd (jRes f g (agB f g) num).a (jRes f g (agB f g) num).lo (jRes f g (agB f g) num).hi (jRes f g (agB f g) num).sex (jRes f g (agB f g) num).wear (jRes f g (agB f g) num).layer (jRes f g (agB f g) num).square
    rw [← e1, ← e2, ← jRes_fin] at hr ha
    refine fin semN_ok (hr.trans ?_) ha
    have o1 : ov [f.im (mvOf 0 f.oc f.l), g.im (mvOf 1 g.oc g.l)] = ovB f g := o1
    have o1' : ov [g.im (mvOf 1 g.oc g.l), f.im (mvOf 0 f.oc f.l)] = ovB f g := o1'
    have o2 : ov [f.im (mvOf 0 f.oc f.l), f.im (mvOf 0 f.oc f.l)] = ovB f f := o2
    have gab : goodN Tryz.prog W vfA 50 [f.im (mvOf 0 f.oc f.l), g.im (mvOf 1 g.oc g.l)] (vwA (meaC f.l) (meaC g.l)) 0 (.tup [.bool (ovB f g), i64 0]) none = true := gab
    have gba : goodN Tryz.prog W vfA 50 [g.im (mvOf 1 g.oc g.l), f.im (mvOf 0 f.oc f.l)] (vwA (meaC f.l) (meaC g.l)) 0 (.tup [.bool (ovB f g), i64 0]) none = true := gba
    have gaa : goodN Tryz.prog W vfA 50 [f.im (mvOf 0 f.oc f.l), f.im (mvOf 0 f.oc f.l)] (vwA (meaC f.l) (meaC g.l)) 0 (.tup [.bool (ovB f f), i64 0]) none = true := gaa
    have g48 : goodN Tryz.prog W vfA 48 [f.im (mvOf 0 f.oc f.l), g.im (mvOf 1 g.oc g.l), i64 num] (vwA (meaC f.l) (meaC g.l)) 0 (.tup [(jRes f g (agB f g) num).im .any, i64 (jErr f g (agB f g) num)]) none = true := g48
    have g19 : goodN Tryz.prog W vfA 19 [f.im (mvOf 0 f.oc f.l)] (vwA (meaC f.l) (meaC g.l)) 0 (i64 0) none = true := g19
    rw [o1, o1', o2, g18, gab, gba, gaa, g48, g19]
    exact lawT_true hvf (agB f g) num
end Go.Proofs.YtilfiadkhohfiaaGreatDoor
