/- Texts of partitions: plain mathematics. -/
import Derived.Test.YtblmlkmibgklpaaGreatDoorNd
import Derived.Lib.Split
import Derived.Lib.Join
import Derived.Lib.ItoaNum
import Derived.Lib.ItoaLen
import Derived.Lib.AtoiAll
import Derived.Lib.AtoiAllCases
import Derived.Lib.IndexBytes
namespace Go.Proofs.YtblmlkmibgklpaaGreatDoor
set_option linter.unusedSimpArgs false
set_option linter.unusedVariables false
open Go

def prn (ls : List Int) : List UInt8 := Lib.join (ls.map Lib.itoa) [32]
theorem prn_cons (x : Int) (l : List Int) : prn (x :: l) = Lib.itoa x ++ Lib.joinTail [32] (l.map Lib.itoa) := by unfold prn; rw [List.map_cons, Lib.join_cons]
theorem tail_cons (x : List UInt8) (r : List (List UInt8)) : Lib.joinTail [32] (x :: r) = 32 :: (x ++ Lib.joinTail [32] r) := by simp [Lib.joinTail]
theorem tail_snoc (x : List UInt8) (r : List (List UInt8)) : Lib.joinTail [32] (r ++ [x]) = Lib.joinTail [32] r ++ 32 :: x := by simp [Lib.joinTail]
theorem prn_snoc (l : List Int) (x : Int) (h : l ≠ []) : prn (l ++ [x]) = prn l ++ 32 :: Lib.itoa x := by
  cases l with
  | nil => exact absurd rfl h
  | cons y l => rw [List.cons_append, prn_cons, prn_cons, List.map_append, List.map_singleton, tail_snoc, List.append_assoc]
theorem prn_one (x : Int) : prn [x] = Lib.itoa x := by unfold prn; rw [List.map_singleton, Lib.join_one]
theorem tail_len (r : List (List UInt8)) : r.length ≤ (Lib.joinTail [32] r).length := by
  induction r with
  | nil => simp
  | cons x r ih => rw [tail_cons]; simp only [List.length_cons, List.length_append]; omega
theorem prn_len (ls : List Int) : ls.length ≤ (prn ls).length + 1 := by
  cases ls with
  | nil => simp
  | cons x l =>
    rw [prn_cons, List.length_append]
    have := tail_len (l.map Lib.itoa)
    rw [List.length_map] at this
    simp only [List.length_cons]; omega
/-- One word's number. -/
def dig (c : UInt8) : Bool := decide (48 ≤ c.toNat) && decide (c.toNat ≤ 57)
def perO : List UInt8 → Option Int
  | [c] => if dig c then some ((c.toNat : Int) - 48) else none
  | [c, d] => if c.toNat = 48 then none else if dig c && dig d then some (10 * ((c.toNat : Int) - 48) + ((d.toNat : Int) - 48)) else none
  | _ => none
theorem perO_itoa : ∀ n : Nat, n < 100 → perO (Lib.itoa (n : Int)) = some (n : Int) := by decide +kernel
theorem itoa_no32 : ∀ n : Nat, n < 100 → ((Lib.itoa (n : Int)).all fun c => decide (c ≠ 32)) = true := by decide +kernel
theorem itoa_some : ∀ n : Nat, n < 100 → Lib.itoa (n : Int) ≠ [] := by decide +kernel
theorem u8_eq {a b : UInt8} (h : a.toNat = b.toNat) : a = b := UInt8.toNat_inj.1 h
theorem perO_sound {w : List UInt8} {n : Int} (h : perO w = some n) : 0 ≤ n ∧ n < 100 ∧ w = Lib.itoa n := by
  match w, h with
  | [c], h =>
    simp only [perO, dig, Bool.and_eq_true, decide_eq_true_eq] at h
    split at h
    · rename_i hc
      injection h with h
      obtain ⟨m, hm⟩ : ∃ m, m = c.toNat - 48 := ⟨_, rfl⟩
      obtain rfl : n = (m : Int) := by omega
      refine ⟨by omega, by omega, ?_⟩
      have : Lib.itoa (m : Int) = Lib.decDigits m := by unfold Lib.itoa; rw [if_neg (by omega)]; simp
      rw [this, Lib.decDigits_one (by omega)]
      congr 1
      apply u8_eq
      simp only [UInt8.toNat_ofNat']
      omega
    · cases h
  | [c, d], h =>
    simp only [perO, dig, Bool.and_eq_true, decide_eq_true_eq] at h
    split at h
    · cases h
    · split at h
      · rename_i h0 hc
        injection h with h
        obtain ⟨m, hm⟩ : ∃ m, m = 10 * (c.toNat - 48) + (d.toNat - 48) := ⟨_, rfl⟩
        obtain rfl : n = (m : Int) := by omega
        refine ⟨by omega, by omega, ?_⟩
        have : Lib.itoa (m : Int) = Lib.decDigits m := by unfold Lib.itoa; rw [if_neg (by omega)]; simp
        rw [this, Lib.decDigits_two (by omega) (by omega)]
        congr 1
        · apply u8_eq; simp only [UInt8.toNat_ofNat']; omega
        · congr 1
          apply u8_eq; simp only [UInt8.toNat_ofNat']; omega
      · cases h
/-- The specification's way through a text. -/
def psS : List Int → List UInt8 → List UInt8 → Option (List Int)
  | out, w, [] => (perO w).map fun n => out ++ [n]
  | out, w, c :: r => if c = 32 then match perO w with | none => none | some n => psS (out ++ [n]) [] r else psS out (w ++ [c]) r
theorem psS_sound : ∀ (s : List UInt8) (out : List Int) (w : List UInt8) (L : List Int), psS out w s = some L → ∃ ws, ws ≠ [] ∧ L = out ++ ws ∧ prn ws = w ++ s
  | [], out, w, L, h => by
    rw [psS, Option.map_eq_some_iff] at h
    obtain ⟨n, hn, rfl⟩ := h
    exact ⟨[n], by simp, rfl, by rw [prn_one, List.append_nil]; exact (perO_sound hn).2.2.symm⟩
  | c :: r, out, w, L, h => by
    rw [psS] at h
    split at h
    · rename_i hc
      split at h
      · cases h
      · rename_i n hn
        obtain ⟨ws, h0, h1, h2⟩ := psS_sound r _ _ L h
        refine ⟨n :: ws, by simp, by rw [h1]; simp, ?_⟩
        cases ws with
        | nil => exact absurd rfl h0
        | cons x ws =>
          rw [prn_cons, List.map_cons, tail_cons, ← prn_cons, h2, hc, (perO_sound hn).2.2]
          simp
    · obtain ⟨ws, h0, h1, h2⟩ := psS_sound r _ _ L h
      exact ⟨ws, h0, h1, by rw [h2]; simp⟩
theorem psS_word (out : List Int) (r : List UInt8) : ∀ (u w : List UInt8), (∀ c ∈ u, c ≠ 32) → psS out w (u ++ r) = psS out (w ++ u) r
  | [], w, _ => by simp
  | c :: u, w, h => by
    rw [List.cons_append, psS, if_neg (h c (by simp)), psS_word out r u (w ++ [c]) (fun d hd => h d (by simp [hd]))]
    simp
theorem no32 {n : Int} (h0 : 0 ≤ n) (h1 : n < 100) : ∀ c ∈ Lib.itoa n, c ≠ 32 := fun c hc => by
  obtain ⟨m, rfl⟩ := Int.eq_ofNat_of_zero_le h0
  have := List.all_eq_true.1 (itoa_no32 m (by omega)) c hc
  simpa using this
theorem per_itoa {n : Int} (h0 : 0 ≤ n) (h1 : n < 100) : perO (Lib.itoa n) = some n := by
  obtain ⟨m, rfl⟩ := Int.eq_ofNat_of_zero_le h0
  exact perO_itoa m (by omega)
theorem psS_full : ∀ (l : List Int) (n : Int) (out : List Int), (∀ x ∈ n :: l, 0 ≤ x ∧ x < 100) → psS out [] (prn (n :: l)) = some (out ++ n :: l)
  | [], n, out, h => by
    have hn := h n (by simp)
    rw [prn_one]
    have := psS_word out [] (Lib.itoa n) [] (no32 hn.1 hn.2)
    rw [List.append_nil, List.nil_append] at this
    rw [this, psS, per_itoa hn.1 hn.2]; rfl
  | m :: l, n, out, h => by
    have hn := h n (by simp)
    rw [prn_cons, List.map_cons, tail_cons, ← prn_cons, psS_word out _ (Lib.itoa n) [] (no32 hn.1 hn.2), List.nil_append, psS, if_pos rfl, per_itoa hn.1 hn.2]
    simp only
    rw [psS_full l m _ (fun x hx => h x (List.mem_cons_of_mem _ hx))]
    simp
def parseS (s : List UInt8) : Option (List Int) := match psS [] [] s with
  | some L => if okP L then some L else none
  | none => none
theorem okP_ent {ls : List Int} (h : okP ls = true) : ls ≠ [] ∧ ls.length ≤ 32 ∧ ∀ x ∈ ls, 0 ≤ x ∧ x < 100 := by
  obtain ⟨h1, h2, m, hm⟩ := okP_scn h
  have hlow := scn_low _ _ hm
  refine ⟨by intro e; rw [e] at h1; simp at h1, h2, fun x hx => ?_⟩
  have := (scn_mem _ _ hm x).1 hx
  omega
theorem parseS_iff {s : List UInt8} {L : List Int} : parseS s = some L ↔ okP L = true ∧ prn L = s := by
  constructor
  · intro h
    unfold parseS at h
    split at h
    · rename_i M hM
      split at h
      · rename_i hok
        injection h with h; subst h
        obtain ⟨ws, _, h1, h2⟩ := psS_sound _ _ _ _ hM
        rw [List.nil_append] at h1 h2
        exact ⟨hok, by rw [h1]; exact h2⟩
      · cases h
    · cases h
  · rintro ⟨hok, rfl⟩
    obtain ⟨h0, _, hx⟩ := okP_ent hok
    cases L with
    | nil => exact absurd rfl h0
    | cons n l =>
      unfold parseS
      rw [psS_full l n [] hx]
      simp [hok]
/-- The program's way: the words, each as what Atoi makes of it. -/
def atV (w : List UInt8) : Int := match Lib.atoiAll w with
  | .ok v => v
  | .range => Lib.atoiSat w
  | _ => 0
def numP (s : List UInt8) : List Int := (Lib.splitK [32] 0 (min 32 (s.length + 1) - 1) s).map atV
def progS (s : List UInt8) : Option (List Int) := if okP (numP s) = true ∧ prn (numP s) = s then some (numP s) else none
theorem ix_hit (x r : List UInt8) (h : ∀ c ∈ x, c ≠ 32) : Lib.index (x ++ 32 :: r) [32] = x.length := by
  rw [Lib.index_one]
  induction x with
  | nil => rfl
  | cons c x ih =>
    have hc := h c (by simp)
    have hb : (c == 32) = false := by simpa using hc
    have := ih (fun d hd => h d (by simp [hd]))
    rw [List.cons_append, Lib.indexByte, hb, this]
    simp only [Bool.false_eq_true, if_false]
    rw [if_neg (by simp)]
    simp
theorem ix_miss (x : List UInt8) (h : ∀ c ∈ x, c ≠ 32) : Lib.index x [32] = -1 := by
  rw [Lib.index_one]
  induction x with
  | nil => rfl
  | cons c x ih =>
    have hc := h c (by simp)
    have hb : (c == 32) = false := by simpa using hc
    have := ih (fun d hd => h d (by simp [hd]))
    rw [Lib.indexByte, hb, this]
    rfl
theorem split_join : ∀ (r : List (List UInt8)) (x : List UInt8) (k : Nat), (∀ w ∈ x :: r, ∀ c ∈ w, c ≠ 32) → r.length ≤ k → Lib.splitK [32] 0 k (x ++ Lib.joinTail [32] r) = x :: r
  | [], x, k, h, _ => by
    have e : x ++ Lib.joinTail [32] [] = x := by simp [Lib.joinTail]
    rw [e]
    cases k with
    | zero => rfl
    | succ k => rw [Lib.splitK, ix_miss x (h x (by simp))]; rfl
  | y :: r, x, k, h, hk => by
    cases k with
    | zero => simp at hk
    | succ k =>
      rw [tail_cons, Lib.splitK, ix_hit x _ (h x (by simp))]
      rw [if_neg (by simp)]
      have e1 : ((x.length : Int)).toNat = x.length := by omega
      rw [e1, Nat.add_zero, List.take_left, List.length_singleton]
      have e2 : (x ++ 32 :: (y ++ Lib.joinTail [32] r)).drop (x.length + 1) = y ++ Lib.joinTail [32] r := by
        rw [← List.drop_drop, List.drop_left]; rfl
      rw [e2, split_join r y k (fun w hw => h w (List.mem_cons_of_mem _ hw)) (by simpa using hk)]
theorem atV_itoa' : ∀ n : Nat, n < 100 → atV (Lib.itoa (n : Int)) = (n : Int) := by decide +kernel
theorem atV_itoa {n : Int} (h0 : 0 ≤ n) (h1 : n < 100) : atV (Lib.itoa n) = n := by
  obtain ⟨m, rfl⟩ := Int.eq_ofNat_of_zero_le h0
  exact atV_itoa' m (by omega)
theorem numP_prn {L : List Int} (h0 : L ≠ []) (hl : L.length ≤ 32) (hx : ∀ x ∈ L, 0 ≤ x ∧ x < 100) : numP (prn L) = L := by
  cases L with
  | nil => exact absurd rfl h0
  | cons n l =>
    have h2 := prn_len (n :: l)
    unfold numP
    rw [List.length_cons] at h2 hl
    rw [show prn (n :: l) = Lib.itoa n ++ Lib.joinTail [32] (l.map Lib.itoa) from prn_cons n l] at h2 ⊢
    rw [split_join _ _ _ (fun w hw => by
      rw [← List.map_cons, List.mem_map] at hw
      obtain ⟨x, hxm, rfl⟩ := hw
      exact no32 (hx x hxm).1 (hx x hxm).2) (by rw [List.length_map]; omega), ← List.map_cons, List.map_map]
    have := List.map_congr_left (f := atV ∘ Lib.itoa) (g := id) (l := n :: l) (fun x hxm => atV_itoa (hx x hxm).1 (hx x hxm).2)
    rw [this, List.map_id]
theorem progS_eq (s : List UInt8) : progS s = parseS s := by
  unfold progS
  split
  · rename_i h; exact (parseS_iff.2 h).symm
  · rename_i h
    cases hp : parseS s with
    | none => rfl
    | some L =>
      obtain ⟨hok, rfl⟩ := parseS_iff.1 hp
      obtain ⟨h0, hl, hx⟩ := okP_ent hok
      rw [numP_prn h0 hl hx] at h
      exact absurd ⟨hok, rfl⟩ h
theorem parse_prn {L : List Int} (h : okP L = true) : parseS (prn L) = some L := parseS_iff.2 ⟨h, rfl⟩
end Go.Proofs.YtblmlkmibgklpaaGreatDoor
