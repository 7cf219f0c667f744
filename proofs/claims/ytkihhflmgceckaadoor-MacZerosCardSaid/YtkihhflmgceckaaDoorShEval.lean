/- The sum reckoned step by step, each number before it is used: for the kernel, at a sum of given bytes. No condition. -/
import Derived.Test.YtkihhflmgceckaaDoorRef05f
namespace Go.Proofs.YtkihhflmgceckaaDoor
open Go.RowKit Go.Lib
namespace Ev
open Sh
universe u
/-- A number is reckoned before it is used. -/
def fc {α : Type u} (n : Nat) (f : Nat → α) : α := match n with
  | 0 => f 0
  | k + 1 => f (k + 1)
theorem fc_eq {α : Type u} (n : Nat) (f : Nat → α) : fc n f = f n := by cases n <;> rfl
def fl {α : Type u} : List Nat → (List Nat → α) → α
  | [], k => k []
  | x :: r, k => fc x fun y => fl r fun s => k (y :: s)
theorem fl_eq {α : Type u} : ∀ (l : List Nat) (k : List Nat → α), fl l k = k l
  | [], _ => rfl
  | x :: r, k => by
    show fc x (fun y => fl r fun s => k (y :: s)) = _
    rw [fc_eq, fl_eq r]
/-- The rounds. -/
def stp (v : List Nat) (p : Nat × Nat) : List Nat :=
  [md [md [v.getD 7 0, E1 (v.getD 4 0), chf (v.getD 4 0) (v.getD 5 0) (v.getD 6 0), p.1, p.2], md [E0 (v.getD 0 0), mjf (v.getD 0 0) (v.getD 1 0) (v.getD 2 0)]], v.getD 0 0, v.getD 1 0, v.getD 2 0, md [v.getD 3 0, md [v.getD 7 0, E1 (v.getD 4 0), chf (v.getD 4 0) (v.getD 5 0) (v.getD 6 0), p.1, p.2]], v.getD 4 0, v.getD 5 0, v.getD 6 0]
def runF : List (Nat × Nat) → Nat → Nat → Nat → Nat → Nat → Nat → Nat → Nat → List Nat
  | [], a, b, c, d, e, f, g, h => [a, b, c, d, e, f, g, h]
  | p :: r, a, b, c, d, e, f, g, h => fc (md [h, E1 e, chf e f g, p.1, p.2]) fun t => fc (md [t, md [E0 a, mjf a b c]]) fun x => fc (md [d, t]) fun y => runF r x a b c y e f g
theorem runF_fold : ∀ (l : List (Nat × Nat)) (a b c d e f g h : Nat), runF l a b c d e f g h = l.foldl stp [a, b, c, d, e, f, g, h]
  | [], _, _, _, _, _, _, _, _ => rfl
  | p :: r, a, b, c, d, e, f, g, h => by
    show fc _ (fun t => fc _ fun x => fc _ fun y => runF r x a b c y e f g) = _
    rw [fc_eq, fc_eq, fc_eq, runF_fold r, List.foldl_cons]
    rfl
def prs (w : List Nat) (n : Nat) : List (Nat × Nat) := (List.range n).map fun t => (KL.getD t 0, w.getD t 0)
theorem run_fold (w v : List Nat) : ∀ n, run w v n = (prs w n).foldl stp v
  | 0 => rfl
  | n + 1 => by
    have e : prs w (n + 1) = prs w n ++ [(KL.getD n 0, w.getD n 0)] := by simp [prs, List.range_succ]
    have e2 : run w v (n + 1) = rnd w (run w v n) n := rfl
    rw [e, List.foldl_append, ← run_fold w v n, e2]
    rfl
def prF : List Nat → List Nat → List (Nat × Nat)
  | k :: ks, w :: ws => (k, w) :: prF ks ws
  | _, _ => []
/-- The words, the last one first. -/
def nxr (r : List Nat) : Nat := md [e1 (r.getD 1 0), r.getD 6 0, e0 (r.getD 14 0), r.getD 15 0]
def extF : Nat → List Nat → List Nat
  | 0, r => r
  | n + 1, r => fc (nxr r) fun x => extF n (x :: r)
theorem getD_rev (l : List Nat) (i : Nat) (h : i < l.length) : l.reverse.getD i 0 = l.getD (l.length - (i + 1)) 0 := by
  rw [List.getD_eq_getElem?_getD, List.getD_eq_getElem?_getD, List.getElem?_reverse h, show l.length - 1 - i = l.length - (i + 1) by omega]
theorem nx_rev (l : List Nat) (h : 16 ≤ l.length) : nxr l.reverse = nx l := by
  unfold nxr nx
  rw [getD_rev l 1 (by omega), getD_rev l 6 (by omega), getD_rev l 14 (by omega), getD_rev l 15 (by omega)]
  rfl
theorem extF_eq (l : List Nat) (h : 16 ≤ l.length) : ∀ n m, extF n (ext l m).reverse = (ext l (m + n)).reverse
  | 0, _ => rfl
  | n + 1, m => by
    show fc _ (fun x => extF n (x :: (ext l m).reverse)) = _
    have e : ext l (m + 1) = ext l m ++ [nx (ext l m)] := rfl
    have e2 : nx (ext l m) :: (ext l m).reverse = (ext l (m + 1)).reverse := by rw [e, List.reverse_append]; rfl
    rw [fc_eq, nx_rev _ (by rw [ext_len]; omega), e2, extF_eq l h n (m + 1), show m + 1 + n = m + (n + 1) by omega]
def rcmp (h R : List Nat) : List Nat := (List.range 8).map fun i => md [h.getD i 0, R.getD i 0]
/-- A block. -/
def cmpF (h bs : List Nat) : List Nat :=
  fl (wds bs 16) fun W => fl (rcmp h (runF (prs (extF 48 W.reverse).reverse 64) (h.getD 0 0) (h.getD 1 0) (h.getD 2 0) (h.getD 3 0) (h.getD 4 0) (h.getD 5 0) (h.getD 6 0) (h.getD 7 0))) fun r => r
theorem eight (h : List Nat) (hl : h.length = 8) : [h.getD 0 0, h.getD 1 0, h.getD 2 0, h.getD 3 0, h.getD 4 0, h.getD 5 0, h.getD 6 0, h.getD 7 0] = h := by
  match h, hl with
  | [_, _, _, _, _, _, _, _], _ => rfl
theorem cmpF_eq (h bs : List Nat) (hl : h.length = 8) : cmpF h bs = cmp h bs := by
  unfold cmpF
  rw [fl_eq, fl_eq, runF_fold, eight h hl, ← run_fold]
  have e := extF_eq (wds bs 16) (by rw [wds_len]; omega) 48 0
  have e0 : ext (wds bs 16) 0 = wds bs 16 := rfl
  rw [e0, Nat.zero_add] at e
  rw [e, List.reverse_reverse]
  rfl
def hshF : Nat → List Nat → List Nat → List Nat
  | 0, _, h => h
  | n + 1, P, h => hshF n (P.drop 64) (cmpF h (P.take 64))
theorem cmp_len (h bs : List Nat) : (cmp h bs).length = 8 := by simp [cmp]
theorem hsh_len (p : List Nat) : ∀ n, (hsh p n).length = 8
  | 0 => rfl
  | _ + 1 => cmp_len _ _
theorem hshF_eq (p : List Nat) : ∀ n m, hshF n (p.drop (64 * m)) (hsh p m) = hsh p (m + n)
  | 0, _ => rfl
  | n + 1, m => by
    show hshF n ((p.drop (64 * m)).drop 64) (cmpF (hsh p m) ((p.drop (64 * m)).take 64)) = _
    have e : cmp (hsh p m) ((p.drop (64 * m)).take 64) = hsh p (m + 1) := rfl
    rw [cmpF_eq _ _ (hsh_len p m), e, List.drop_drop, show 64 * m + 64 = 64 * (m + 1) by omega, hshF_eq p n (m + 1), show m + 1 + n = m + (n + 1) by omega]
def sumF (b : List Nat) : List Nat := fl (pad b) fun P => fl (hshF (P.length / 64) P HL) fun h => bys h
theorem sumF_eq (b : List Nat) : sumF b = Sh.sum b := by
  unfold sumF
  rw [fl_eq, fl_eq]
  have e := hshF_eq (pad b) ((pad b).length / 64) 0
  rw [Nat.zero_add] at e
  have e0 : hshF ((pad b).length / 64) (pad b) HL = hsh (pad b) ((pad b).length / 64) := e
  rw [e0]
  rfl
set_option maxRecDepth 100000 in
theorem sum_abc : Sh.sum [97, 98, 99] = [186, 120, 22, 191, 143, 1, 207, 234, 65, 65, 64, 222, 93, 174, 34, 35, 176, 3, 97, 163, 150, 23, 122, 156, 180, 16, 255, 97, 242, 0, 21, 173] := by
  rw [← sumF_eq]
  decide +kernel
end Ev
end Go.Proofs.YtkihhflmgceckaaDoor
