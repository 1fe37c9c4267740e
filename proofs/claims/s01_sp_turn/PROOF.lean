import PyProof.Rows.All
import KE.OsGo
import KE.OsArgs
import PySem.Challenge.RW_spreadpoints_s01_sp_turn
open PySem PySem.W
set_option Elab.async false
namespace Tn
open Sv90
theorem digits_zero (b f : Nat) : digits b f 0 = [] := by
  cases f <;> simp [digits]
theorem digits_fuel (b : Nat) (hb : 2 ≤ b) (n : Nat) : ∀ f, n ≤ f → digits b f n = digits b n n := by
  induction n using Nat.strongRecOn with
  | _ n ih =>
    intro f hf
    by_cases h0 : n = 0
    · subst h0; rw [digits_zero, digits_zero]
    · obtain ⟨f', rfl⟩ : ∃ f', f = f' + 1 := ⟨f - 1, by omega⟩
      have hd : n / b < n := Nat.div_lt_self (by omega) hb
      obtain ⟨n', e⟩ : ∃ n', n = n' + 1 := ⟨n - 1, by omega⟩
      have e1 : digits b (f' + 1) n = n % b :: digits b f' (n / b) := by rw [digits, if_neg h0]
      have e2 : digits b n n = n % b :: digits b n' (n / b) := by
        conv => lhs; arg 2; rw [e]
        rw [digits, if_neg h0]
      rw [e1, e2, ih _ hd f' (by omega), ih _ hd n' (by omega)]
theorem digits_step (b : Nat) (hb : 2 ≤ b) (n : Nat) (h0 : n ≠ 0) : digits b n n = n % b :: digits b (n / b) (n / b) := by
  have hd : n / b < n := Nat.div_lt_self (by omega) hb
  rw [← digits_fuel b hb n (n + 1) (by omega), digits, if_neg h0, digits_fuel b hb (n / b) n (by omega)]
structure Told (b n rest turned dg : Int) : Prop where
  ex : ∃ pre : List Nat, digits b.toNat n.toNat n.toNat = pre ++ digits b.toNat rest.toNat rest.toNat ∧
    turned = ((pre.foldl (fun a d => a * b.toNat + d) 0 : Nat) : Int) ∧ dg = (pre.length : Int)
theorem start {b n : Int} (h : 0 ≤ n) : 0 ≤ n ∧ Told b n n 0 0 := ⟨h, ⟨[], rfl, rfl, rfl⟩⟩
theorem fdiv_nat {r b : Int} (h : 0 ≤ r) (hb : 0 ≤ b) : Int.fdiv r b = ((r.toNat / b.toNat : Nat) : Int) := by
  rw [Int.fdiv_eq_ediv_of_nonneg r hb]
  conv => lhs; rw [← Int.toNat_of_nonneg h, ← Int.toNat_of_nonneg hb]
  rfl
theorem fmod_nat {r b : Int} (h : 0 ≤ r) (hb : 0 ≤ b) : Int.fmod r b = ((r.toNat % b.toNat : Nat) : Int) := by
  rw [Int.fmod_eq_emod_of_nonneg r hb]
  conv => lhs; rw [← Int.toNat_of_nonneg h, ← Int.toNat_of_nonneg hb]
  rfl
theorem turn {b n rest turned dg : Int} (T : Told b n rest turned dg) (h0 : 0 < rest) (hb : 2 ≤ b) :
    0 ≤ Int.fdiv rest b ∧ Told b n (Int.fdiv rest b) (turned * b + Int.fmod rest b) (dg + 1) := by
  obtain ⟨pre, e1, e2, e3⟩ := T.ex
  rw [fdiv_nat (by omega) (by omega), fmod_nat (by omega) (by omega)]
  refine ⟨Int.natCast_nonneg _, ⟨pre ++ [rest.toNat % b.toNat], ?_, ?_, ?_⟩⟩
  · rw [e1, digits_step b.toNat (by omega) rest.toNat (by omega), Int.toNat_natCast]
    simp
  · rw [List.foldl_append, e2]
    simp only [List.foldl_cons, List.foldl_nil]
    rw [Int.natCast_add, Int.natCast_mul, Int.toNat_of_nonneg (by omega : 0 ≤ b)]
  · rw [e3]; simp
theorem less {b rest : Int} (h0 : 0 < rest) (hb : 2 ≤ b) : (Int.fdiv rest b).toNat < rest.toNat := by
  rw [fdiv_nat (by omega) (by omega), Int.toNat_natCast]
  exact Nat.div_lt_self (by omega) (by omega)
theorem out {b n rest turned dg : Int} (T : Told b n rest turned dg) (h0 : 0 ≤ rest) (h1 : ¬ 0 < rest) (hb : 2 ≤ b) (hb' : b ≤ 16) :
    [dg, turned] = PySx10.sp_turn b n := by
  obtain ⟨pre, e1, e2, e3⟩ := T.ex
  have z : rest.toNat = 0 := by omega
  rw [z, digits_zero, List.append_nil] at e1
  show _ = (Sx10.does (.turn b n.toNat)).v :: (Sx10.does (.turn b n.toNat)).l.map fun (y : Nat) => (y : Int)
  have w : Sv90.within b 2 16 = true := by simp [Sv90.within, hb, hb']
  simp [Sx10.does, w, many, Sv90.turned, e1, e2, e3]
theorem refused {b n : Int} (h : b < 2 ∨ 16 < b) : [-2] = PySx10.sp_turn b n := by
  show _ = (Sx10.does (.turn b n.toNat)).v :: (Sx10.does (.turn b n.toNat)).l.map fun (y : Nat) => (y : Int)
  have w : Sv90.within b 2 16 = false := by
    simp only [Sv90.within, Bool.and_eq_false_iff, decide_eq_false_iff_not]
    omega
  simp [Sx10.does, w, ok]
theorem asked {b n : Int} (h : PySx10.sp_turn_asked b n = true) : 0 ≤ n ∧ n ≤ 4294967295 := by
  have h1 : (Sx10Neutral.whole32 b && Sx10Neutral.natural n 32) = true := (Bool.and_eq_true_iff.mp h).1
  have h2 := (Bool.and_eq_true_iff.mp h1).2
  simp only [Sx10Neutral.natural, Bool.and_eq_true, decide_eq_true_eq] at h2
  omega
end Tn

namespace Tn
open PySem PySem.W PySem.Calls PyProof.Rows
section
variable {prog : Program} {w : World} {A : Around} {E : Value → Shared → Prop} {s : Shared} {x y : Int} {t u : Tok} {Q : Value → Shared → Prop}
theorem step_div (hy : 0 < y) (hs : y ≤ 100000) (h : Q (.int (Int.fdiv x y) s.toks) { s with toks := s.toks + 1 }) :
    wpAny (model prog w) A (binaryOp .FloorDiv (.int x t) (.int y u)) Q E s :=
  PyProof.Rows.floordiv_int (by omega) h (Or.inl (PyProof.noPylong_small (by omega)))
theorem step_mod (hy : 0 < y) (h : Q (.int (Int.fmod x y) s.toks) { s with toks := s.toks + 1 }) :
    wpAny (model prog w) A (binaryOp .Mod (.int x t) (.int y u)) Q E s :=
  PyProof.Rows.mod_int (by omega) h
theorem step_mul (lo : -100000 ≤ y) (hi : y ≤ 100000) (h : Q (.int (x * y) s.toks) { s with toks := s.toks + 1 }) :
    wpAny (model prog w) A (binaryOp .Mult (.int x t) (.int y u)) Q E s :=
  PyProof.Rows.mul_int h (PySem.IntMulOk.of_right (PySem.intBits_le_64 (by omega) (by omega)))
end
end Tn
open PySem PySem.W PyProof.Rows
local macro_rules | `(tactic| walk_at "binaryOp FloorDiv int int") => `(tactic| (k_here; (with_reducible refine' Tn.step_div ?k1 ?k2 ?_); (case k1 => k_dflt omega); (case k2 => k_dflt omega)))
local macro_rules | `(tactic| walk_at "binaryOp Mod int int") => `(tactic| (k_here; (with_reducible refine' Tn.step_mod ?k1 ?_); (case k1 => k_dflt omega)))
local macro_rules | `(tactic| walk_at "binaryOp Mult int int") => `(tactic| (k_here; (with_reducible refine' Tn.step_mul ?k1 ?k2 ?_); (case k1 => k_dflt omega); (case k2 => k_dflt omega)))
example : Int → Int → List Int → Int → Int → Int → Prop := fun b n _ rest turned dg => 0 ≤ rest ∧ Tn.Told b n rest turned dg
theorem Tn.said : PySem.Challenge.rw_spreadpoints_s01_sp_turn.wellSaid = true := by decide +kernel
set_option maxRecDepth 100000 in
set_option maxHeartbeats 8000000 in
theorem PySem.Challenge.cw_spreadpoints_s01_sp_turn_holds : PySem.Challenge.rw_spreadpoints_s01_sp_turn.Holds := by
  k_with "state" => first
    | exact Tn.start (by omega)
    | exact Tn.turn (by assumption) (by omega) (by omega)
  k_with "measure" => exact Tn.less (by omega) (by omega)
  k_with "exec While Compare cons nil" => k_while_given ["b", "n"] (fun b n _ rest turned dg => 0 ≤ rest ∧ Tn.Told b n rest turned dg) (fun _ _ _ rest _ _ => rest.toNat) "rest" "turned" "digits"
  open_ks with [.int 2, .int 0]
  all_goals (
    os_open Tn.said with a w q e
    obtain ⟨b', n', u⟩ := a
    have q' := Tn.asked (b := b') (n := n') q
    have e1 := os_j_int (List.cons.inj e).1
    have e2 := os_j_int (List.cons.inj (List.cons.inj e).2).1
    subst e1 e2
    show ofPy (PyData.list _) = WData.list (List.map WData.int (PySx10.sp_turn _ _))
    refine os_list ?_
    first
      | exact congrArg (List.map PyData.int) (Tn.refused (by omega))
      | (exfalso; omega)
      | exact congrArg (List.map PyData.int) (Tn.out (by assumption) (by assumption) (by assumption) (by omega) (by omega)))
