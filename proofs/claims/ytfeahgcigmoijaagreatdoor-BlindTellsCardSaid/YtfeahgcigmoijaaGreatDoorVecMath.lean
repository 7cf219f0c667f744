/- Rows that wrap: sums in whatever order and parts. No condition but lengths and bits. -/
import Derived.Test.YtfeahgcigmoijaaGreatDoorVecE
import Derived.Test.YtfeahgcigmoijaaGreatDoorRef02
namespace Go.Proofs.YtfeahgcigmoijaaGreatDoor
open VecC
namespace VecM
theorem add_comm (xs ys : List Int) : vAdd xs ys = vAdd ys xs := by
  induction xs generalizing ys with
  | nil => cases ys <;> rfl
  | cons a l ih =>
    cases ys with
    | nil => rfl
    | cons b m => show (a + b) % 4294967296 :: vAdd l m = (b + a) % 4294967296 :: vAdd m l; rw [ih, Int.add_comm]
theorem add_assoc (xs ys zs : List Int) : vAdd (vAdd xs ys) zs = vAdd xs (vAdd ys zs) := by
  induction xs generalizing ys zs with
  | nil => rfl
  | cons a l ih =>
    cases ys with
    | nil => rfl
    | cons b m =>
      cases zs with
      | nil => rfl
      | cons c n =>
        show ((a + b) % 4294967296 + c) % 4294967296 :: vAdd (vAdd l m) n = (a + (b + c) % 4294967296) % 4294967296 :: vAdd l (vAdd m n)
        rw [ih]; congr 1; omega
theorem add_zeros {xs : List Int} {n : Nat} (h : xs.length = n) (hb : Bits xs) : vAdd xs (List.replicate n 0) = xs := by rw [add_comm]; exact zeros_add h hb
theorem foldl_add {n : Nat} (ls : List (List Int)) (z : List Int) (hz : z.length = n) (hb : Bits z) (hl : ∀ row ∈ ls, row.length = n) : ls.foldl vAdd z = vAdd z (vSum n ls) := by
  induction ls generalizing z with
  | nil => show z = vAdd z (List.replicate n 0); rw [add_zeros hz hb]
  | cons a l ih =>
    have ha := hl a (by simp)
    have hl' : ∀ row ∈ l, row.length = n := fun r hr => hl r (by simp [hr])
    have h0 : (List.replicate n (0 : Int)).length = n := by simp
    show l.foldl vAdd (vAdd z a) = vAdd z (l.foldl vAdd (vAdd (List.replicate n 0) a))
    rw [ih _ (vAdd_length hz ha) (Ref02.vAdd_bits _ _) hl', ih _ (vAdd_length h0 ha) (Ref02.vAdd_bits _ _) hl', add_assoc, add_assoc,
      zeros_add (vAdd_length ha (vSum_length n l hl')) (Ref02.vAdd_bits _ _)]
theorem sum_cons {n : Nat} {a : List Int} {l : List (List Int)} (ha : a.length = n) (hl : ∀ row ∈ l, row.length = n) : vSum n (a :: l) = vAdd a (vSum n l) := by
  have h0 : (List.replicate n (0 : Int)).length = n := by simp
  show l.foldl vAdd (vAdd (List.replicate n 0) a) = _
  rw [foldl_add l _ (vAdd_length h0 ha) (Ref02.vAdd_bits _ _) hl, add_assoc, zeros_add (vAdd_length ha (vSum_length n l hl)) (Ref02.vAdd_bits _ _)]
theorem sum_append {n : Nat} {l m : List (List Int)} (hl : ∀ row ∈ l, row.length = n) (hm : ∀ row ∈ m, row.length = n) : vSum n (l ++ m) = vAdd (vSum n l) (vSum n m) := by
  show (l ++ m).foldl vAdd _ = _
  rw [List.foldl_append]
  exact foldl_add m _ (vSum_length n l hl) (Ref02.vSum_bits n l) hm
theorem sum_reverse {n : Nat} {l : List (List Int)} (hl : ∀ row ∈ l, row.length = n) (hb : ∀ row ∈ l, Bits row) : vSum n l.reverse = vSum n l := by
  induction l with
  | nil => rfl
  | cons a l ih =>
    have ha := hl a (by simp)
    have hl' : ∀ row ∈ l, row.length = n := fun r hr => hl r (by simp [hr])
    have h1 : vSum n [a] = a := zeros_add ha (hb a (by simp))
    rw [List.reverse_cons, sum_append (fun r hr => hl' r (List.mem_reverse.mp hr)) (fun r hr => by rw [List.mem_singleton.mp hr]; exact ha), ih hl' (fun r hr => hb r (by simp [hr])), sum_cons ha hl', h1, add_comm]
theorem add_sub {n : Nat} {xs ys : List Int} (hx : xs.length = n) (hy : ys.length = n) (hb : Bits xs) : vSub (vAdd xs ys) ys = xs := by
  induction n generalizing xs ys with
  | zero => rw [List.length_eq_zero_iff.mp hx]; rfl
  | succ n ih =>
    match xs, ys, hx, hy with
    | a :: l, b :: m, hx, hy =>
      have ha := hb a (by simp)
      show ((a + b) % 4294967296 - b) % 4294967296 :: vSub (vAdd l m) m = a :: l
      rw [ih (by simpa using hx) (by simpa using hy) fun x h => hb x (by simp [h])]
      congr 1; omega
theorem times_add (q : Int) (xs ys : List Int) : vTimes q (vAdd xs ys) = vAdd (vTimes q xs) (vTimes q ys) := by
  induction xs generalizing ys with
  | nil => rfl
  | cons a l ih =>
    cases ys with
    | nil => rfl
    | cons b m =>
      show (a + b) % 4294967296 * q % 4294967296 :: vTimes q (vAdd l m) = (a * q % 4294967296 + b * q % 4294967296) % 4294967296 :: vAdd (vTimes q l) (vTimes q m)
      rw [ih]
      congr 1
      rw [Int.mul_emod, Int.emod_emod, ← Int.mul_emod, Int.add_mul, Int.add_emod]
theorem times_sum {n : Nat} {q : Int} {l : List (List Int)} (hl : ∀ row ∈ l, row.length = n) : vTimes q (vSum n l) = vSum n (l.map (vTimes q)) := by
  induction l with
  | nil =>
    show (List.replicate n 0).map _ = List.replicate n 0
    rw [List.map_replicate]; simp
  | cons a l ih =>
    have ha := hl a (by simp)
    have hl' : ∀ row ∈ l, row.length = n := fun r hr => hl r (by simp [hr])
    rw [sum_cons ha hl', times_add, ih hl', List.map_cons, sum_cons (by simp [vTimes, ha]) (fun r hr => by
      obtain ⟨x, hx, rfl⟩ := List.mem_map.mp hr
      simp [vTimes, hl' x hx])]
end VecM
end Go.Proofs.YtfeahgcigmoijaaGreatDoor
