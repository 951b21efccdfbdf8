/-
  Mathematics of the batch of inverses: prefix times the inverse of the whole product times suffix.
-/
import Derived.Test.YtgoognipljknjaaMath
namespace Go.Proofs.Ytgoognipljknjaa.M

theorem mmod1 (x y p : Nat) : x % p * y % p = x * y % p := by rw [Nat.mul_mod, Nat.mod_mod, ← Nat.mul_mod]
theorem mmod2 (x y p : Nat) : x * (y % p) % p = x * y % p := by rw [Nat.mul_mod, Nat.mod_mod, ← Nat.mul_mod]
theorem prod_append (l m : List Nat) : prod (l ++ m) = prod l * prod m := by
  induction l with
  | nil => simp [prod]
  | cons a l ih => simp [prod, ih, Nat.mul_assoc]
theorem prod_take_succ (l : List Nat) {k : Nat} (h : k < l.length) : prod (l.take (k + 1)) = prod (l.take k) * l.getD k 0 := by
  rw [List.take_succ_eq_append_getElem h, prod_append]
  simp [prod, List.getD_eq_getElem?_getD, h]
theorem prod_drop_pred (l : List Nat) {k : Nat} (h : k < l.length) : prod (l.drop k) = l.getD k 0 * prod (l.drop (k + 1)) := by
  rw [List.drop_eq_getElem_cons h]
  simp [prod, List.getD_eq_getElem?_getD, h]
theorem prod_split (l : List Nat) {k : Nat} (h : k < l.length) : prod l = prod (l.take k) * (l.getD k 0 * prod (l.drop (k + 1))) := by
  conv => lhs; rw [← List.take_append_drop k l, prod_append]
  rw [prod_drop_pred l h]
/-- the inverse of the whole product times the numbers from k on -/
def restAt (p : Nat) (l : List Nat) (k : Nat) : Nat := pw p (prod l % p) (p - 2) * prod (l.drop k) % p
def preAt (p : Nat) (l : List Nat) (k : Nat) : Nat := prod (l.take k) % p
theorem preAt_succ (p : Nat) (l : List Nat) {k : Nat} (h : k < l.length) : preAt p l (k + 1) = preAt p l k * l.getD k 0 % p := by
  unfold preAt; rw [prod_take_succ l h, mmod1]
theorem preAt_all (p : Nat) (l : List Nat) : preAt p l l.length = prod l % p := by unfold preAt; rw [List.take_length]
theorem restAt_end (p : Nat) (l : List Nat) (hp : 0 < p) : restAt p l l.length = pw p (preAt p l l.length) (p - 2) := by
  unfold restAt
  rw [List.drop_length, preAt_all]
  simp only [prod, Nat.mul_one]
  exact Nat.mod_eq_of_lt (pw_lt _ _ hp)
theorem restAt_pred (p : Nat) (l : List Nat) {k : Nat} (h : k < l.length) : restAt p l k = restAt p l (k + 1) * l.getD k 0 % p := by
  unfold restAt
  rw [prod_drop_pred l h, Nat.mul_mod (_ % p) (l.getD k 0), Nat.mod_mod, ← Nat.mul_mod, Nat.mul_assoc, Nat.mul_comm (l.getD k 0)]
theorem prod_unit {p : Nat} (hi : isP p = true) (l : List Nat) (h : ∀ x ∈ l, x % p ≠ 0) : prod l ^ (p - 1) % p = 1 := fermat hi (prod_ne hi l h)
theorem inv_at {p : Nat} (hi : isP p = true) (l : List Nat) (h : ∀ x ∈ l, x % p ≠ 0) {k : Nat} (hk : k < l.length) : preAt p l k * restAt p l (k + 1) % p = pw p (l.getD k 0) (p - 2) := by
  have hp := pos_of hi
  unfold preAt restAt pw
  rw [prod_split l hk]
  have hA := prod_unit hi (l.take k) (fun x hx => h x (List.mem_of_mem_take hx))
  have hS := prod_unit hi (l.drop (k + 1)) (fun x hx => h x (List.mem_of_mem_drop hx))
  generalize prod (l.take k) = A at *
  generalize prod (l.drop (k + 1)) = S at *
  generalize l.getD k 0 = a at *
  rw [← Nat.pow_mod, mmod1, mmod1, mmod2]
  have e : A * ((A * (a * S)) ^ (p - 2) * S) = A ^ (p - 1) * S ^ (p - 1) * a ^ (p - 2) := by
    have e1 : A ^ (p - 1) = A ^ (p - 2) * A := by rw [← Nat.pow_succ]; congr 1; omega
    have e2 : S ^ (p - 1) = S ^ (p - 2) * S := by rw [← Nat.pow_succ]; congr 1; omega
    rw [Nat.mul_pow, Nat.mul_pow, e1, e2]
    simp only [Nat.mul_assoc, Nat.mul_comm, Nat.mul_left_comm]
  rw [e, Nat.mul_mod, Nat.mul_mod (A ^ (p - 1)), hA, hS]
  simp
end Go.Proofs.Ytgoognipljknjaa.M
