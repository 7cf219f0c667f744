/- The document's own answers of layer 5 (package caucusref05): the sum. Conditions: what is handed in reads as bytes. -/
import Derived.Test.YtkihhflmgceckaaDoorRef05e
import Derived.Test.YtkihhflmgceckaaDoorBits32
import Derived.Great.BuildSlice
namespace Go.Proofs.YtkihhflmgceckaaDoor
open Go.RowKit Go.Lib
namespace Sh
open SlR
/-- The document's words of the rounds, and the words of the beginning. -/
def KL : List Nat := [1116352408, 1899447441, 3049323471, 3921009573, 961987163, 1508970993, 2453635748, 2870763221, 3624381080, 310598401, 607225278, 1426881987, 1925078388, 2162078206, 2614888103, 3248222580, 3835390401, 4022224774, 264347078, 604807628, 770255983, 1249150122, 1555081692, 1996064986, 2554220882, 2821834349, 2952996808, 3210313671, 3336571891, 3584528711, 113926993, 338241895, 666307205, 773529912, 1294757372, 1396182291, 1695183700, 1986661051, 2177026350, 2456956037, 2730485921, 2820302411, 3259730800, 3345764771, 3516065817, 3600352804, 4094571909, 275423344, 430227734, 506948616, 659060556, 883997877, 958139571, 1322822218, 1537002063, 1747873779, 1955562222, 2024104815, 2227730452, 2361852424, 2428436474, 2756734187, 3204031479, 3329325298]
def HL : List Nat := [1779033703, 3144134277, 1013904242, 2773480762, 1359893119, 2600822924, 528734635, 1541459225]
def e0 (x : Nat) : Nat := (rot x 7 ^^^ rot x 18) ^^^ (x / 8)
def e1 (y : Nat) : Nat := (rot y 17 ^^^ rot y 19) ^^^ (y / 1024)
theorem e0_lt {x : Nat} (h : x < 4294967296) : e0 x < 4294967296 := B3.xor_lt (B3.xor_lt (rot_lt h (by omega)) (rot_lt h (by omega))) (by omega)
theorem e1_lt {x : Nat} (h : x < 4294967296) : e1 x < 4294967296 := B3.xor_lt (B3.xor_lt (rot_lt h (by omega)) (rot_lt h (by omega))) (by omega)
/-- One word more. -/
def nx (l : List Nat) : Nat := sm [e1 (l.getD (l.length - 2) 0), l.getD (l.length - 7) 0, e0 (l.getD (l.length - 15) 0), l.getD (l.length - 16) 0] % 4294967296
def ext (l : List Nat) : Nat → List Nat
  | 0 => l
  | n + 1 => ext l n ++ [nx (ext l n)]
theorem ext_len (l : List Nat) : ∀ n, (ext l n).length = l.length + n
  | 0 => rfl
  | n + 1 => by rw [ext, List.length_append, ext_len l n]; rfl
theorem B32_snoc {l : List Nat} (h : B32 l) {x : Nat} (hx : x < 4294967296) : B32 (l ++ [x]) := fun i => by
  rw [List.getD_eq_getElem?_getD, List.getElem?_append]
  split
  · rw [← List.getD_eq_getElem?_getD]; exact h i
  · match i - l.length with
    | 0 => exact hx
    | j + 1 => show (0 : Nat) < 4294967296; omega
theorem ext_B32 {l : List Nat} (h : B32 l) : ∀ n, B32 (ext l n)
  | 0 => h
  | n + 1 => B32_snoc (ext_B32 h n) (Nat.mod_lt _ (by omega))
/-- The eight letters of a round. -/
def chf (e f g : Nat) : Nat := (e &&& f) ||| ((4294967295 - e) &&& g)
def mjf (a b c : Nat) : Nat := ((a &&& b) ||| (a &&& c)) ||| (b &&& c)
def E1 (e : Nat) : Nat := (rot e 6 ^^^ rot e 11) ^^^ rot e 25
def E0 (a : Nat) : Nat := (rot a 2 ^^^ rot a 13) ^^^ rot a 22
def md (xs : List Nat) : Nat := sm xs % 4294967296
def rnd (w v : List Nat) (t : Nat) : List Nat :=
  let t1 := md [v.getD 7 0, E1 (v.getD 4 0), chf (v.getD 4 0) (v.getD 5 0) (v.getD 6 0), KL.getD t 0, w.getD t 0]
  let t2 := md [E0 (v.getD 0 0), mjf (v.getD 0 0) (v.getD 1 0) (v.getD 2 0)]
  [md [t1, t2], v.getD 0 0, v.getD 1 0, v.getD 2 0, md [v.getD 3 0, t1], v.getD 4 0, v.getD 5 0, v.getD 6 0]
def run (w v : List Nat) : Nat → List Nat
  | 0 => v
  | n + 1 => rnd w (run w v n) n
/-- What a block makes of eight words. -/
def cmp (h : List Nat) (bs : List Nat) : List Nat := (List.range 8).map fun i => md [h.getD i 0, (run (ext (wds bs 16) 48) h 64).getD i 0]
def hsh (p : List Nat) : Nat → List Nat
  | 0 => HL
  | n + 1 => cmp (hsh p n) ((p.drop (64 * n)).take 64)
/-- The sum. -/
def sum (b : List Nat) : List Nat := bys (hsh (pad b) ((pad b).length / 64))
end Sh
end Go.Proofs.YtkihhflmgceckaaDoor
