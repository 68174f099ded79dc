/- Both ways to look at zones. -/
import Derived.Test.YtilfiadkhohfiaaGreatDoorPg
import Derived.Test.YtilfiadkhohfiaaGreatDoorPh
/- Layer 2: both ways to look at zones are known calls. -/
namespace Go.Proofs.YtilfiadkhohfiaaGreatDoor
set_option linter.unusedSimpArgs false
set_option linter.unusedVariables false
open Go Go.RowKit Go.Clo

theorem zonesI_eq {a b c d : Nat} (ha : a < 18446744073709551616) (hb : b < 18446744073709551616) (hc : c < 18446744073709551616) (hd : d < 18446744073709551616) : zonesI [.agg [w64 a, w64 b, w64 c, w64 d]] = decide (ofWords a b c d ≠ 0 ∧ ofWords a b c d < 65536) := by
  rw [← zonesW_eq (ofWords_lt ha hb hc hd)]
  obtain ⟨k0, k1, k2, k3⟩ := word_ofWords ha hb hc hd
  rw [k0, k1, k2, k3]
  show (!intBeq (.ofNat a) 0 && (intLt (.ofNat a) 65536 && (intBeq (.ofNat b) 0 && (intBeq (.ofNat c) 0 && intBeq (.ofNat d) 0)))) = _
  unfold zonesW
  rw [Bool.eq_iff_iff]
  simp only [Bool.and_eq_true, Bool.not_eq_true', ← Bool.not_eq_true, intBeq_iff, intLt_iff, beq_iff_eq, decide_eq_true_eq]
  show (¬ (a : Int) = 0 ∧ (a : Int) < 65536 ∧ (b : Int) = 0 ∧ (c : Int) = 0 ∧ (d : Int) = 0) ↔ _
  omega
theorem setV_words {a b c d : Nat} (ha : a < 18446744073709551616) (hb : b < 18446744073709551616) (hc : c < 18446744073709551616) (hd : d < 18446744073709551616) : setV (ofWords a b c d) = .agg #[.int .u64 (a : Int), .int .u64 (b : Int), .int .u64 (c : Int), .int .u64 (d : Int)] := by
  obtain ⟨k0, k1, k2, k3⟩ := word_ofWords ha hb hc hd
  unfold setV
  rw [k0, k1, k2, k3]
theorem words_inv {ρ : Rho} {a b c d : Nat} {us : List Value} (h : EL ρ [.agg [w64 a, w64 b, w64 c, w64 d]] us) : us = [.agg #[.int .u64 (a : Int), .int .u64 (b : Int), .int .u64 (c : Int), .int .u64 (d : Int)]] := by
  obtain ⟨vs, rfl, h0⟩ := E_agg_inv h
  obtain ⟨r1, rfl, h1⟩ := w64_inv h0
  obtain ⟨r2, rfl, h2⟩ := w64_inv h1
  obtain ⟨r3, rfl, h3⟩ := w64_inv h2
  obtain ⟨r4, rfl, h4⟩ := w64_inv h3
  obtain rfl := EL.nil_inv h4
  rfl
theorem E_bool {ρ : Rho} (b : Bool) : E ρ (.bool b) (.bool b) := by simp only [E]
theorem zones_good {W : World} (hg : Gl W) {a b c d : Nat} (ha : a < 18446744073709551616) (hb : b < 18446744073709551616) (hc : c < 18446744073709551616) (hd : d < 18446744073709551616) (vw : List (Option Go.Clo.Blk)) :
    goodB Tryz.prog W 1 156 [.agg [w64 a, w64 b, w64 c, w64 d]] vw (.bool (zonesI [.agg [w64 a, w64 b, w64 c, w64 d]])) = true := goodB_true fun s _ => Good.of fun ρ w us hR he => by
  obtain rfl := words_inv he
  refine ⟨_, E_bool _, ?_⟩
  rw [zonesI_eq ha hb hc hd, ← setV_words ha hb hc hd]
  exact areZones_any _ w (hg.below hR.below) (ofWords_lt ha hb hc hd)
theorem rzones_good {W : World} {a b c d : Nat} (ha : a < 18446744073709551616) (hb : b < 18446744073709551616) (hc : c < 18446744073709551616) (hd : d < 18446744073709551616) (vw : List (Option Go.Clo.Blk)) :
    goodB Tryz.prog W 1 161 [.agg [w64 a, w64 b, w64 c, w64 d]] vw (.bool (zonesI [.agg [w64 a, w64 b, w64 c, w64 d]])) = true := goodB_true fun s _ => Good.of fun ρ w us hR he => by
  obtain rfl := words_inv he
  refine ⟨_, E_bool _, ?_⟩
  rw [zonesI_eq ha hb hc hd, ← setV_words ha hb hc hd]
  exact rzones_any _ w (ofWords_lt ha hb hc hd)
end Go.Proofs.YtilfiadkhohfiaaGreatDoor
