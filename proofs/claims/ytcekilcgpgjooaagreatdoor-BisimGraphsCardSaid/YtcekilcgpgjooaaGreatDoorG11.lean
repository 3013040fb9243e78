/- Proved here: contracts of the walk to BisimGraphs: fields of values, and functorOf; each under the conditions that its own statement names. -/
import Derived.Test.YtcekilcgpgjooaaGreatDoorG10
import Derived.Deep.QuietTactic
set_option maxRecDepth 100000
set_option maxHeartbeats 3200000
namespace Go.Proofs.YtcekilcgpgjooaaGreatDoor
open Go.RowKit
def V.count : V → Nat
 | .nil => 0
 | .cons _ k _ r => 1 + k.count + r.count
def T.get : T → Nat → F
 | .nil, _ => ⟨0, 0, .nil⟩
 | .cons k n t _, 0 => ⟨k, n, t⟩
 | .cons _ _ _ r, i + 1 => r.get i
def F.part (f : F) (n : Int) (i : Nat) : F := if f.k = 2 then f.t.get i else if f.k = 3 then f.t.get n.toNat else f.t.get 0
theorem T.get_drop (t : T) : ∀ (i : Nat) (k n : Int) (kids rest : T), t.drop i = .cons k n kids rest → t.get i = ⟨k, n, kids⟩ := by
 induction t with
 | nil => intro i k n kids rest h; cases i <;> simp [T.drop] at h
 | cons k n t r _ ihr =>
  intro i k' n' kids rest h
  cases i with
  | zero => simp only [T.drop, T.cons.injEq] at h; obtain ⟨rfl, rfl, rfl, _⟩ := h; rfl
  | succ i => exact ihr i _ _ _ _ h
def wOk : Int → List Int → Bool
 | _, [] => true
 | q, w :: r => decide (1 ≤ w ∧ w ≤ q) && wOk (q - w) r
def weighs (k : Int) (len : Nat) (ws : List Int) : Bool := if k = 6 ∨ k = 7 then wOk 1048576 ws && decide (ws.length = len) else decide (ws.length = 0)
def numbersOf (f : F) (m : Int) : Int := if f.k = 0 then m else if f.k = 1 then f.n else if f.k = 3 then 2 else 1
def argsOf (f : F) (len : Nat) : Int := if f.k = 0 then 0 else if f.k = 1 then 0 else if f.k = 2 then 2 else if f.k = 3 then 1 else if f.k = 4 then f.n else if f.k = 7 then max len 1 else len
def vFields (f : F) (m n : Int) (len : Nat) (ws : List Int) : Bool := decide (0 ≤ n ∧ n < numbersOf f m ∧ (len : Int) = argsOf f len) && weighs f.k len ws
def coll (k : Int) : Bool := decide (k = 5 ∨ k = 6 ∨ k = 7)
def V.inc : V → Bool
 | .nil => true
 | .cons _ _ _ .nil => true
 | .cons n k ws (.cons n' k' ws' r) => decide (or3 (cmpI n n') (k.cmp k') (cmpL ws ws') < 0) && V.inc (.cons n' k' ws' r)
def gcdL : Nat → List Int → Nat
 | d, [] => d
 | d, w :: r => gcdL (Nat.gcd d w.toNat) r
def nodeOk (f : F) (kids : V) (ws : List Int) : Bool := !coll f.k || (kids.inc && (decide (kids.len ≤ 100) && (decide (f.k ≠ 7) || decide (gcdL 0 ws = 1))))
def okL (sp : F → V → List Int → Bool) (m : Int) : V → F → Int → Nat → Bool
 | .nil, _, _, _ => true
 | .cons n kids ws rest, f, pn, i => (vFields (f.part pn i) m n kids.len ws && (okL sp m kids (f.part pn i) n 0 && sp (f.part pn i) kids ws)) && okL sp m rest f pn (i + 1)
def okV (sp : F → V → List Int → Bool) (m : Int) (f : F) (n : Int) (kids : V) (ws : List Int) : Bool := vFields f m n kids.len ws && (okL sp m kids f n 0 && sp f kids ws)
theorem okL_cons (sp : F → V → List Int → Bool) (m n : Int) (kids : V) (ws : List Int) (rest : V) (f : F) (pn : Int) (i : Nat) :
    okL sp m (.cons n kids ws rest) f pn i = (okV sp m (f.part pn i) n kids ws && okL sp m rest f pn (i + 1)) := rfl
def F.good (f : F) : Bool := fieldsOk f.k f.n f.t.len && f.t.allOk
theorem T.allOk_get (t : T) : ∀ i, t.allOk = true → i < t.len → (t.get i).good = true := by
 induction t with
 | nil => intro i _ h; simp [T.len] at h
 | cons k n t r _ ihr =>
  intro i h hi
  simp only [T.allOk, Bool.and_eq_true] at h
  cases i with
  | zero => simp [T.get, F.good, h.1.1, h.1.2]
  | succ i => exact ihr i h.2 (by simp only [T.len] at hi; omega)
def F.at (f : F) (n : Int) (i : Nat) : Nat := if f.k = 2 then i else if f.k = 3 then n.toNat else 0
theorem F.part_at (f : F) (n : Int) (i : Nat) : f.part n i = f.t.get (f.at n i) := by
 unfold F.part F.at; split
 ·rfl
 ·split <;> rfl
theorem F.good_len {f : F} (hg : f.good = true) : (f.t.len : Int) = arityOf f.k ∧ leastOf f.k ≤ f.n ∧ f.n ≤ mostOf f.k := by
 unfold F.good fieldsOk at hg
 simp only [Bool.and_eq_true, decide_eq_true_eq] at hg
 exact hg.1
theorem good_at {f : F} (hg : f.good = true) {m n : Int} {len : Nat} {ws : List Int} (hf : vFields f m n len ws = true) {i : Nat} (hi : i < len) : f.at n i < f.t.len := by
 obtain ⟨h1, _, _⟩ := F.good_len hg
 unfold vFields numbersOf argsOf at hf
 simp only [Bool.and_eq_true, decide_eq_true_eq] at hf
 obtain ⟨⟨h2, h3, h4⟩, _⟩ := hf
 unfold arityOf at h1
 unfold F.at
 by_cases k0 : f.k = 0
 ·rw [if_pos k0] at h4; omega
 by_cases k1 : f.k = 1
 ·rw [if_neg k0, if_pos k1] at h4; omega
 by_cases k2 : f.k = 2
 ·rw [if_neg k0, if_neg k1, if_pos k2] at h4
  rw [if_neg (by omega), if_neg (by omega), if_pos (by omega)] at h1
  rw [if_pos k2]; omega
 by_cases k3 : f.k = 3
 ·rw [if_neg k0, if_neg k1, if_pos k3] at h3
  rw [if_neg (by omega), if_neg (by omega), if_pos (by omega)] at h1
  rw [if_neg k2, if_pos k3]; omega
 rw [if_neg k2, if_neg k3]
 rw [if_neg (by omega)] at h1
 by_cases hx : f.k = 4 ∨ f.k = 5 ∨ f.k = 6 ∨ f.k = 7
 ·rw [if_pos hx] at h1; omega
 ·rw [if_neg hx, if_neg (by omega)] at h1; omega
theorem good_part {f : F} (hg : f.good = true) {m n : Int} {len : Nat} {ws : List Int} (hf : vFields f m n len ws = true) {i : Nat} (hi : i < len) : (f.part n i).good = true := by
 rw [F.part_at]
 refine T.allOk_get _ _ ?_ (good_at hg hf hi)
 unfold F.good at hg
 simp only [Bool.and_eq_true] at hg
 exact hg.2
end Go.Proofs.YtcekilcgpgjooaaGreatDoor
namespace Go.Proofs.YtcekilcgpgjooaaGreatDoor
open Go.RowKit
open Go.Lib (hid)
theorem wOk_drop {q : Int} {ws : List Int} {j : Nat} (h : j < ws.length) : wOk q (ws.drop j) = (decide (1 ≤ ws[j] ∧ ws[j] ≤ q) && wOk (q - ws[j]) (ws.drop (j + 1))) := by
 rw [List.drop_eq_getElem_cons h]; rfl
theorem eqn_len (a b : Nat) : Ending.returned (Value.bool ((a : Int) == (b : Int))) = .returned (.bool (decide (a = b))) := by
 congr 2
 rw [Bool.eq_iff_iff]; simp; omega
theorem weighs_any (S : Nat → Nat → Prop) (S' : Nat → Prop) (f : F) (a a' c : Option Addr) (cap cap' cp : Nat) (n : Int) (kids : V) (ws : List Int) (w : World) (_hs : Sl S w a f.t) (hv : Vl S' w a' kids) (hi : Ints S' w c ws) :
    Calls Tryz.prog 163 #[f.val a cap, Vv n a' kids.len cap' c ws.length cp] w fun e w' => e = .returned (.bool (weighs f.k kids.len ws)) ∧ Below w.heap.size w w' := by
 obtain ⟨W, hW⟩ : ∃ W : World, W = (w.alloc (Obj.cells #[.int .i64 f.k, .int .i64 f.n, Value.slice a f.t.len cap] 24)).alloc (Obj.cells #[.int .i64 n, Value.slice a' kids.len cap', Value.slice c ws.length cp] 58) := ⟨_, rfl⟩
 have hWb : Below w.heap.size w W := by rw [hW]; exact ba2 _ _ _
 have c0 : W.cell? ⟨w.heap.size, 0, none⟩ = some (.int .i64 f.k) := by rw [hW]; simp
 have e1 : W.cell? ⟨w.heap.size + 1, 1, none⟩ = some (.slice a' kids.len cap') := by rw [hW]; simp
 have e2 : W.cell? ⟨w.heap.size + 1, 2, none⟩ = some (.slice c ws.length cp) := by rw [hW]; simp
 have hlw := hi.1
 have hlk := hv.1
 have hiW := hi.below hWb
 clear _hs hv hi
 by_cases hk : f.k = 6 ∨ f.k = 7
 ·have HR := hid (show weighs f.k kids.len ws = (wOk 1048576 ws && decide (ws.length = kids.len)) by unfold weighs; rw [if_pos hk])
  cases hb6 : (f.k != 6)
  all_goals
   (try have hb7 : (f.k != 7) = false := by simp at hb6 ⊢; omega)
   clear hk
   go_enter Tryz.func163, Tryz.ntmps163
   go_wp2_with fail
   rw [← hW]
   clear hW
   go_loopw [5, 7, 23] (fun l _ i wr => ∃ j : Nat, ∃ q : Int, j ≤ ws.length ∧ i = .int .i64 j ∧ l = .int .i64 q ∧ 0 ≤ q ∧ q ≤ 1048576 ∧ wOk q (ws.drop j) = wOk 1048576 ws ∧ wr = W) (fun _ _ i _ => ws.length - (intOf i).toNat)
   case atStart => exact ⟨0, 1048576, Nat.zero_le _, rfl, rfl, by omega, by omega, by simp, rfl⟩
   case round =>
    obtain ⟨j, q, hj, rfl, rfl, hq0, hq1, hw, rfl⟩ := hrel
    have HW := hid hw
    clear hw
    by_cases hlt : j < ws.length
    ·obtain ⟨b, o, rfl, d0⟩ := hiW.get hlt
     have hstep := wOk_drop (q := q) hlt
     obtain ⟨x, hx⟩ : ∃ x, x = ws[j] := ⟨_, rfl⟩
     rw [← hx] at hstep d0
     have HS := hid hstep
     clear hstep hx
     by_cases h1 : 1 ≤ x
     ·by_cases h2 : x ≤ q
      ·go_wp2_with fail
       go_roundw
       case rel => exact ⟨j + 1, q - x, by omega, by go_num, rfl, by omega, by omega, by rw [← HW.out, HS.out]; simp [h1, h2], trivial⟩
       case measure => simp [intOf]; omega
      ·have HF := hid (show wOk 1048576 ws = false by rw [← HW.out, HS.out]; simp [h2])
       go_wp2_with fail
       go_ret
       exact ⟨by rw [HR.out, HF.out]; simp, hWb⟩
     ·have HF := hid (show wOk 1048576 ws = false by rw [← HW.out, HS.out]; simp [h1])
      have hx1 : x < 1 := by omega
      go_wp2_with fail
      go_ret
      exact ⟨by rw [HR.out, HF.out]; simp, hWb⟩
    ·have HF := hid (show wOk 1048576 ws = true by rw [← HW.out, List.drop_of_length_le (by omega)]; rfl)
     go_wp2_with fail
     go_ret
     exact ⟨by rw [HR.out, HF.out]; exact eqn_len _ _, hWb⟩
 ·have HR := hid (show weighs f.k kids.len ws = decide (ws.length = 0) by unfold weighs; rw [if_neg hk])
  have h6 : (f.k != 6) = true := by simp; omega
  have h7 : (f.k != 7) = true := by simp; omega
  clear hk
  go_enter Tryz.func163, Tryz.ntmps163
  go_wp2_with fail
  rw [← hW]
  clear hW
  go_ret
  exact ⟨by rw [HR.out]; exact eqn_len _ 0, hWb⟩
theorem vfields_0 (S : Nat → Nat → Prop) (S' : Nat → Prop) (fn m : Int) (ft : T) (a a' c : Option Addr) (cap cap' cp : Nat) (n : Int) (kids : V) (ws : List Int) (w : World) (hs : Sl S w a ft) (hv : Vl S' w a' kids) (hi : Ints S' w c ws) :
    Calls Tryz.prog 127 #[F.val ⟨0, fn, ft⟩ a cap, .int .i64 m, Vv n a' kids.len cap' c ws.length cp] w fun e w' => e = .returned (.bool (vFields ⟨0, fn, ft⟩ m n kids.len ws)) ∧ Below w.heap.size w w' := by
 obtain ⟨W, hW⟩ : ∃ W : World, W = (w.alloc (Obj.cells #[.int .i64 0, .int .i64 fn, Value.slice a ft.len cap] 24)).alloc (Obj.cells #[.int .i64 n, Value.slice a' kids.len cap', Value.slice c ws.length cp] 58) := ⟨_, rfl⟩
 have hWb : Below w.heap.size w W := by rw [hW]; exact ba2 _ _ _
 have c0 : W.cell? ⟨w.heap.size, 0, none⟩ = some (.int .i64 0) := by rw [hW]; simp
 have c1 : W.cell? ⟨w.heap.size, 1, none⟩ = some (.int .i64 fn) := by rw [hW]; simp
 have c2 : W.cell? ⟨w.heap.size, 2, none⟩ = some (.slice a ft.len cap) := by rw [hW]; simp
 have e0 : W.cell? ⟨w.heap.size + 1, 0, none⟩ = some (.int .i64 n) := by rw [hW]; simp
 have e1 : W.cell? ⟨w.heap.size + 1, 1, none⟩ = some (.slice a' kids.len cap') := by rw [hW]; simp
 have e2 : W.cell? ⟨w.heap.size + 1, 2, none⟩ = some (.slice c ws.length cp) := by rw [hW]; simp
 have HB := hid (fun k : Nat => hWb.trans (below_drewN : Below w.heap.size W (W.drewN k)))
 have HC := hid (fun x (hx : Below w.heap.size w x) => weighs_any S S' ⟨0, fn, ft⟩ a a' c cap cap' cp n kids ws x (hs.below hx) (hv.below hx) (hi.below hx))
 have hlk := hv.1
 have HR := hid (show vFields ⟨0, fn, ft⟩ m n kids.len ws = (decide (0 ≤ n ∧ n < m ∧ (kids.len : Int) = 0) && weighs 0 kids.len ws) by unfold vFields numbersOf argsOf; simp)
 clear hs hv hi
 by_cases h1 : 0 ≤ n
 rotate_left
 ·have HF := hid (show decide (0 ≤ n ∧ n < m ∧ (kids.len : Int) = 0) = false from decide_eq_false (fun h => h1 h.1))
  have h1' : n < 0 := by omega
  go_enter Tryz.func127, Tryz.ntmps127
  go_wp2_with fail
  rw [← hW]
  clear hW
  go_quiet (fail)
  go_wp2_with fail
  go_ret
  exact ⟨by rw [HR.out, HF.out]; rfl, HB.out _⟩
 by_cases h2 : n < m
 rotate_left
 ·have HF := hid (show decide (0 ≤ n ∧ n < m ∧ (kids.len : Int) = 0) = false from decide_eq_false (fun h => h2 h.2.1))
  have h2' : m ≤ n := by omega
  go_enter Tryz.func127, Tryz.ntmps127
  go_wp2_with fail
  rw [← hW]
  clear hW
  go_quiet (fail)
  go_wp2_with fail
  go_ret
  exact ⟨by rw [HR.out, HF.out]; rfl, HB.out _⟩
 by_cases h3 : (kids.len : Int) = 0
 rotate_left
 ·have HF := hid (show decide (0 ≤ n ∧ n < m ∧ (kids.len : Int) = 0) = false from decide_eq_false (fun h => h3 h.2.2))
  have h3' : ((kids.len : Int) == 0) = false := by simpa using h3
  skip
  have HH3 := hid h3
  clear h3
  go_enter Tryz.func127, Tryz.ntmps127
  go_wp2_with fail
  rw [← hW]
  clear hW
  go_quiet (fail)
  go_wp2_with fail
  go_ret
  exact ⟨by rw [HR.out, HF.out]; rfl, HB.out _⟩
 have HF := hid (show decide (0 ≤ n ∧ n < m ∧ (kids.len : Int) = 0) = true from decide_eq_true ⟨h1, h2, h3⟩)
 have h3' : ((kids.len : Int) == 0) = true := beq_iff_eq.2 h3
 skip
 have HH3 := hid h3
 clear h3
 go_enter Tryz.func127, Tryz.ntmps127
 go_wp2_with fail
 rw [← hW]
 clear hW
 go_quiet (fail)
 go_wp2_with fail
 refine (HC.out _ (HB.out _)).mono ?_
 rintro e w' ⟨rfl, hb⟩
 go_wp2_with fail
 go_ret
 exact ⟨by rw [HR.out, HF.out]; rfl, (HB.out _).trans (hb.mono (HB.out _).size)⟩
theorem vfields_1 (S : Nat → Nat → Prop) (S' : Nat → Prop) (fn m : Int) (ft : T) (a a' c : Option Addr) (cap cap' cp : Nat) (n : Int) (kids : V) (ws : List Int) (w : World) (hs : Sl S w a ft) (hv : Vl S' w a' kids) (hi : Ints S' w c ws) :
    Calls Tryz.prog 127 #[F.val ⟨1, fn, ft⟩ a cap, .int .i64 m, Vv n a' kids.len cap' c ws.length cp] w fun e w' => e = .returned (.bool (vFields ⟨1, fn, ft⟩ m n kids.len ws)) ∧ Below w.heap.size w w' := by
 obtain ⟨W, hW⟩ : ∃ W : World, W = (w.alloc (Obj.cells #[.int .i64 1, .int .i64 fn, Value.slice a ft.len cap] 24)).alloc (Obj.cells #[.int .i64 n, Value.slice a' kids.len cap', Value.slice c ws.length cp] 58) := ⟨_, rfl⟩
 have hWb : Below w.heap.size w W := by rw [hW]; exact ba2 _ _ _
 have c0 : W.cell? ⟨w.heap.size, 0, none⟩ = some (.int .i64 1) := by rw [hW]; simp
 have c1 : W.cell? ⟨w.heap.size, 1, none⟩ = some (.int .i64 fn) := by rw [hW]; simp
 have c2 : W.cell? ⟨w.heap.size, 2, none⟩ = some (.slice a ft.len cap) := by rw [hW]; simp
 have e0 : W.cell? ⟨w.heap.size + 1, 0, none⟩ = some (.int .i64 n) := by rw [hW]; simp
 have e1 : W.cell? ⟨w.heap.size + 1, 1, none⟩ = some (.slice a' kids.len cap') := by rw [hW]; simp
 have e2 : W.cell? ⟨w.heap.size + 1, 2, none⟩ = some (.slice c ws.length cp) := by rw [hW]; simp
 have HB := hid (fun k : Nat => hWb.trans (below_drewN : Below w.heap.size W (W.drewN k)))
 have HC := hid (fun x (hx : Below w.heap.size w x) => weighs_any S S' ⟨1, fn, ft⟩ a a' c cap cap' cp n kids ws x (hs.below hx) (hv.below hx) (hi.below hx))
 have hlk := hv.1
 have HR := hid (show vFields ⟨1, fn, ft⟩ m n kids.len ws = (decide (0 ≤ n ∧ n < fn ∧ (kids.len : Int) = 0) && weighs 1 kids.len ws) by unfold vFields numbersOf argsOf; simp)
 clear hs hv hi
 by_cases h1 : 0 ≤ n
 rotate_left
 ·have HF := hid (show decide (0 ≤ n ∧ n < fn ∧ (kids.len : Int) = 0) = false from decide_eq_false (fun h => h1 h.1))
  have h1' : n < 0 := by omega
  go_enter Tryz.func127, Tryz.ntmps127
  go_wp2_with fail
  rw [← hW]
  clear hW
  go_quiet (fail)
  go_wp2_with fail
  go_ret
  exact ⟨by rw [HR.out, HF.out]; rfl, HB.out _⟩
 by_cases h2 : n < fn
 rotate_left
 ·have HF := hid (show decide (0 ≤ n ∧ n < fn ∧ (kids.len : Int) = 0) = false from decide_eq_false (fun h => h2 h.2.1))
  have h2' : fn ≤ n := by omega
  go_enter Tryz.func127, Tryz.ntmps127
  go_wp2_with fail
  rw [← hW]
  clear hW
  go_quiet (fail)
  go_wp2_with fail
  go_ret
  exact ⟨by rw [HR.out, HF.out]; rfl, HB.out _⟩
 by_cases h3 : (kids.len : Int) = 0
 rotate_left
 ·have HF := hid (show decide (0 ≤ n ∧ n < fn ∧ (kids.len : Int) = 0) = false from decide_eq_false (fun h => h3 h.2.2))
  have h3' : ((kids.len : Int) == 0) = false := by simpa using h3
  skip
  have HH3 := hid h3
  clear h3
  go_enter Tryz.func127, Tryz.ntmps127
  go_wp2_with fail
  rw [← hW]
  clear hW
  go_quiet (fail)
  go_wp2_with fail
  go_ret
  exact ⟨by rw [HR.out, HF.out]; rfl, HB.out _⟩
 have HF := hid (show decide (0 ≤ n ∧ n < fn ∧ (kids.len : Int) = 0) = true from decide_eq_true ⟨h1, h2, h3⟩)
 have h3' : ((kids.len : Int) == 0) = true := beq_iff_eq.2 h3
 skip
 have HH3 := hid h3
 clear h3
 go_enter Tryz.func127, Tryz.ntmps127
 go_wp2_with fail
 rw [← hW]
 clear hW
 go_quiet (fail)
 go_wp2_with fail
 refine (HC.out _ (HB.out _)).mono ?_
 rintro e w' ⟨rfl, hb⟩
 go_wp2_with fail
 go_ret
 exact ⟨by rw [HR.out, HF.out]; rfl, (HB.out _).trans (hb.mono (HB.out _).size)⟩
theorem vfields_2 (S : Nat → Nat → Prop) (S' : Nat → Prop) (fn m : Int) (ft : T) (a a' c : Option Addr) (cap cap' cp : Nat) (n : Int) (kids : V) (ws : List Int) (w : World) (hs : Sl S w a ft) (hv : Vl S' w a' kids) (hi : Ints S' w c ws) :
    Calls Tryz.prog 127 #[F.val ⟨2, fn, ft⟩ a cap, .int .i64 m, Vv n a' kids.len cap' c ws.length cp] w fun e w' => e = .returned (.bool (vFields ⟨2, fn, ft⟩ m n kids.len ws)) ∧ Below w.heap.size w w' := by
 obtain ⟨W, hW⟩ : ∃ W : World, W = (w.alloc (Obj.cells #[.int .i64 2, .int .i64 fn, Value.slice a ft.len cap] 24)).alloc (Obj.cells #[.int .i64 n, Value.slice a' kids.len cap', Value.slice c ws.length cp] 58) := ⟨_, rfl⟩
 have hWb : Below w.heap.size w W := by rw [hW]; exact ba2 _ _ _
 have c0 : W.cell? ⟨w.heap.size, 0, none⟩ = some (.int .i64 2) := by rw [hW]; simp
 have c1 : W.cell? ⟨w.heap.size, 1, none⟩ = some (.int .i64 fn) := by rw [hW]; simp
 have c2 : W.cell? ⟨w.heap.size, 2, none⟩ = some (.slice a ft.len cap) := by rw [hW]; simp
 have e0 : W.cell? ⟨w.heap.size + 1, 0, none⟩ = some (.int .i64 n) := by rw [hW]; simp
 have e1 : W.cell? ⟨w.heap.size + 1, 1, none⟩ = some (.slice a' kids.len cap') := by rw [hW]; simp
 have e2 : W.cell? ⟨w.heap.size + 1, 2, none⟩ = some (.slice c ws.length cp) := by rw [hW]; simp
 have HB := hid (fun k : Nat => hWb.trans (below_drewN : Below w.heap.size W (W.drewN k)))
 have HC := hid (fun x (hx : Below w.heap.size w x) => weighs_any S S' ⟨2, fn, ft⟩ a a' c cap cap' cp n kids ws x (hs.below hx) (hv.below hx) (hi.below hx))
 have hlk := hv.1
 have HR := hid (show vFields ⟨2, fn, ft⟩ m n kids.len ws = (decide (0 ≤ n ∧ n < 1 ∧ (kids.len : Int) = 2) && weighs 2 kids.len ws) by unfold vFields numbersOf argsOf; simp)
 clear hs hv hi
 by_cases h1 : 0 ≤ n
 rotate_left
 ·have HF := hid (show decide (0 ≤ n ∧ n < 1 ∧ (kids.len : Int) = 2) = false from decide_eq_false (fun h => h1 h.1))
  have h1' : n < 0 := by omega
  go_enter Tryz.func127, Tryz.ntmps127
  go_wp2_with fail
  rw [← hW]
  clear hW
  go_quiet (fail)
  go_wp2_with fail
  go_ret
  exact ⟨by rw [HR.out, HF.out]; rfl, HB.out _⟩
 by_cases h2 : n < 1
 rotate_left
 ·have HF := hid (show decide (0 ≤ n ∧ n < 1 ∧ (kids.len : Int) = 2) = false from decide_eq_false (fun h => h2 h.2.1))
  have h2' : 1 ≤ n := by omega
  go_enter Tryz.func127, Tryz.ntmps127
  go_wp2_with fail
  rw [← hW]
  clear hW
  go_quiet (fail)
  go_wp2_with fail
  go_ret
  exact ⟨by rw [HR.out, HF.out]; rfl, HB.out _⟩
 by_cases h3 : (kids.len : Int) = 2
 rotate_left
 ·have HF := hid (show decide (0 ≤ n ∧ n < 1 ∧ (kids.len : Int) = 2) = false from decide_eq_false (fun h => h3 h.2.2))
  have h3' : ((kids.len : Int) == 2) = false := by simpa using h3
  skip
  have HH3 := hid h3
  clear h3
  go_enter Tryz.func127, Tryz.ntmps127
  go_wp2_with fail
  rw [← hW]
  clear hW
  go_quiet (fail)
  go_wp2_with fail
  go_ret
  exact ⟨by rw [HR.out, HF.out]; rfl, HB.out _⟩
 have HF := hid (show decide (0 ≤ n ∧ n < 1 ∧ (kids.len : Int) = 2) = true from decide_eq_true ⟨h1, h2, h3⟩)
 have h3' : ((kids.len : Int) == 2) = true := beq_iff_eq.2 h3
 skip
 have HH3 := hid h3
 clear h3
 go_enter Tryz.func127, Tryz.ntmps127
 go_wp2_with fail
 rw [← hW]
 clear hW
 go_quiet (fail)
 go_wp2_with fail
 refine (HC.out _ (HB.out _)).mono ?_
 rintro e w' ⟨rfl, hb⟩
 go_wp2_with fail
 go_ret
 exact ⟨by rw [HR.out, HF.out]; rfl, (HB.out _).trans (hb.mono (HB.out _).size)⟩
theorem vfields_3 (S : Nat → Nat → Prop) (S' : Nat → Prop) (fn m : Int) (ft : T) (a a' c : Option Addr) (cap cap' cp : Nat) (n : Int) (kids : V) (ws : List Int) (w : World) (hs : Sl S w a ft) (hv : Vl S' w a' kids) (hi : Ints S' w c ws) :
    Calls Tryz.prog 127 #[F.val ⟨3, fn, ft⟩ a cap, .int .i64 m, Vv n a' kids.len cap' c ws.length cp] w fun e w' => e = .returned (.bool (vFields ⟨3, fn, ft⟩ m n kids.len ws)) ∧ Below w.heap.size w w' := by
 obtain ⟨W, hW⟩ : ∃ W : World, W = (w.alloc (Obj.cells #[.int .i64 3, .int .i64 fn, Value.slice a ft.len cap] 24)).alloc (Obj.cells #[.int .i64 n, Value.slice a' kids.len cap', Value.slice c ws.length cp] 58) := ⟨_, rfl⟩
 have hWb : Below w.heap.size w W := by rw [hW]; exact ba2 _ _ _
 have c0 : W.cell? ⟨w.heap.size, 0, none⟩ = some (.int .i64 3) := by rw [hW]; simp
 have c1 : W.cell? ⟨w.heap.size, 1, none⟩ = some (.int .i64 fn) := by rw [hW]; simp
 have c2 : W.cell? ⟨w.heap.size, 2, none⟩ = some (.slice a ft.len cap) := by rw [hW]; simp
 have e0 : W.cell? ⟨w.heap.size + 1, 0, none⟩ = some (.int .i64 n) := by rw [hW]; simp
 have e1 : W.cell? ⟨w.heap.size + 1, 1, none⟩ = some (.slice a' kids.len cap') := by rw [hW]; simp
 have e2 : W.cell? ⟨w.heap.size + 1, 2, none⟩ = some (.slice c ws.length cp) := by rw [hW]; simp
 have HB := hid (fun k : Nat => hWb.trans (below_drewN : Below w.heap.size W (W.drewN k)))
 have HC := hid (fun x (hx : Below w.heap.size w x) => weighs_any S S' ⟨3, fn, ft⟩ a a' c cap cap' cp n kids ws x (hs.below hx) (hv.below hx) (hi.below hx))
 have hlk := hv.1
 have HR := hid (show vFields ⟨3, fn, ft⟩ m n kids.len ws = (decide (0 ≤ n ∧ n < 2 ∧ (kids.len : Int) = 1) && weighs 3 kids.len ws) by unfold vFields numbersOf argsOf; simp)
 clear hs hv hi
 by_cases h1 : 0 ≤ n
 rotate_left
 ·have HF := hid (show decide (0 ≤ n ∧ n < 2 ∧ (kids.len : Int) = 1) = false from decide_eq_false (fun h => h1 h.1))
  have h1' : n < 0 := by omega
  go_enter Tryz.func127, Tryz.ntmps127
  go_wp2_with fail
  rw [← hW]
  clear hW
  go_quiet (fail)
  go_wp2_with fail
  go_ret
  exact ⟨by rw [HR.out, HF.out]; rfl, HB.out _⟩
 by_cases h2 : n < 2
 rotate_left
 ·have HF := hid (show decide (0 ≤ n ∧ n < 2 ∧ (kids.len : Int) = 1) = false from decide_eq_false (fun h => h2 h.2.1))
  have h2' : 2 ≤ n := by omega
  go_enter Tryz.func127, Tryz.ntmps127
  go_wp2_with fail
  rw [← hW]
  clear hW
  go_quiet (fail)
  go_wp2_with fail
  go_ret
  exact ⟨by rw [HR.out, HF.out]; rfl, HB.out _⟩
 by_cases h3 : (kids.len : Int) = 1
 rotate_left
 ·have HF := hid (show decide (0 ≤ n ∧ n < 2 ∧ (kids.len : Int) = 1) = false from decide_eq_false (fun h => h3 h.2.2))
  have h3' : ((kids.len : Int) == 1) = false := by simpa using h3
  skip
  have HH3 := hid h3
  clear h3
  go_enter Tryz.func127, Tryz.ntmps127
  go_wp2_with fail
  rw [← hW]
  clear hW
  go_quiet (fail)
  go_wp2_with fail
  go_ret
  exact ⟨by rw [HR.out, HF.out]; rfl, HB.out _⟩
 have HF := hid (show decide (0 ≤ n ∧ n < 2 ∧ (kids.len : Int) = 1) = true from decide_eq_true ⟨h1, h2, h3⟩)
 have h3' : ((kids.len : Int) == 1) = true := beq_iff_eq.2 h3
 skip
 have HH3 := hid h3
 clear h3
 go_enter Tryz.func127, Tryz.ntmps127
 go_wp2_with fail
 rw [← hW]
 clear hW
 go_quiet (fail)
 go_wp2_with fail
 refine (HC.out _ (HB.out _)).mono ?_
 rintro e w' ⟨rfl, hb⟩
 go_wp2_with fail
 go_ret
 exact ⟨by rw [HR.out, HF.out]; rfl, (HB.out _).trans (hb.mono (HB.out _).size)⟩
theorem vfields_4 (S : Nat → Nat → Prop) (S' : Nat → Prop) (fn m : Int) (ft : T) (a a' c : Option Addr) (cap cap' cp : Nat) (n : Int) (kids : V) (ws : List Int) (w : World) (hs : Sl S w a ft) (hv : Vl S' w a' kids) (hi : Ints S' w c ws) :
    Calls Tryz.prog 127 #[F.val ⟨4, fn, ft⟩ a cap, .int .i64 m, Vv n a' kids.len cap' c ws.length cp] w fun e w' => e = .returned (.bool (vFields ⟨4, fn, ft⟩ m n kids.len ws)) ∧ Below w.heap.size w w' := by
 obtain ⟨W, hW⟩ : ∃ W : World, W = (w.alloc (Obj.cells #[.int .i64 4, .int .i64 fn, Value.slice a ft.len cap] 24)).alloc (Obj.cells #[.int .i64 n, Value.slice a' kids.len cap', Value.slice c ws.length cp] 58) := ⟨_, rfl⟩
 have hWb : Below w.heap.size w W := by rw [hW]; exact ba2 _ _ _
 have c0 : W.cell? ⟨w.heap.size, 0, none⟩ = some (.int .i64 4) := by rw [hW]; simp
 have c1 : W.cell? ⟨w.heap.size, 1, none⟩ = some (.int .i64 fn) := by rw [hW]; simp
 have c2 : W.cell? ⟨w.heap.size, 2, none⟩ = some (.slice a ft.len cap) := by rw [hW]; simp
 have e0 : W.cell? ⟨w.heap.size + 1, 0, none⟩ = some (.int .i64 n) := by rw [hW]; simp
 have e1 : W.cell? ⟨w.heap.size + 1, 1, none⟩ = some (.slice a' kids.len cap') := by rw [hW]; simp
 have e2 : W.cell? ⟨w.heap.size + 1, 2, none⟩ = some (.slice c ws.length cp) := by rw [hW]; simp
 have HB := hid (fun k : Nat => hWb.trans (below_drewN : Below w.heap.size W (W.drewN k)))
 have HC := hid (fun x (hx : Below w.heap.size w x) => weighs_any S S' ⟨4, fn, ft⟩ a a' c cap cap' cp n kids ws x (hs.below hx) (hv.below hx) (hi.below hx))
 have hlk := hv.1
 have HR := hid (show vFields ⟨4, fn, ft⟩ m n kids.len ws = (decide (0 ≤ n ∧ n < 1 ∧ (kids.len : Int) = fn) && weighs 4 kids.len ws) by unfold vFields numbersOf argsOf; simp)
 clear hs hv hi
 by_cases h1 : 0 ≤ n
 rotate_left
 ·have HF := hid (show decide (0 ≤ n ∧ n < 1 ∧ (kids.len : Int) = fn) = false from decide_eq_false (fun h => h1 h.1))
  have h1' : n < 0 := by omega
  go_enter Tryz.func127, Tryz.ntmps127
  go_wp2_with fail
  rw [← hW]
  clear hW
  go_quiet (fail)
  go_wp2_with fail
  go_ret
  exact ⟨by rw [HR.out, HF.out]; rfl, HB.out _⟩
 by_cases h2 : n < 1
 rotate_left
 ·have HF := hid (show decide (0 ≤ n ∧ n < 1 ∧ (kids.len : Int) = fn) = false from decide_eq_false (fun h => h2 h.2.1))
  have h2' : 1 ≤ n := by omega
  go_enter Tryz.func127, Tryz.ntmps127
  go_wp2_with fail
  rw [← hW]
  clear hW
  go_quiet (fail)
  go_wp2_with fail
  go_ret
  exact ⟨by rw [HR.out, HF.out]; rfl, HB.out _⟩
 by_cases h3 : (kids.len : Int) = fn
 rotate_left
 ·have HF := hid (show decide (0 ≤ n ∧ n < 1 ∧ (kids.len : Int) = fn) = false from decide_eq_false (fun h => h3 h.2.2))
  have h3' : ((kids.len : Int) == fn) = false := by simpa using h3
  skip
  have HH3 := hid h3
  clear h3
  go_enter Tryz.func127, Tryz.ntmps127
  go_wp2_with fail
  rw [← hW]
  clear hW
  go_quiet (fail)
  go_wp2_with fail
  go_ret
  exact ⟨by rw [HR.out, HF.out]; rfl, HB.out _⟩
 have HF := hid (show decide (0 ≤ n ∧ n < 1 ∧ (kids.len : Int) = fn) = true from decide_eq_true ⟨h1, h2, h3⟩)
 have h3' : ((kids.len : Int) == fn) = true := beq_iff_eq.2 h3
 skip
 have HH3 := hid h3
 clear h3
 go_enter Tryz.func127, Tryz.ntmps127
 go_wp2_with fail
 rw [← hW]
 clear hW
 go_quiet (fail)
 go_wp2_with fail
 refine (HC.out _ (HB.out _)).mono ?_
 rintro e w' ⟨rfl, hb⟩
 go_wp2_with fail
 go_ret
 exact ⟨by rw [HR.out, HF.out]; rfl, (HB.out _).trans (hb.mono (HB.out _).size)⟩
theorem vfields_7a (S : Nat → Nat → Prop) (S' : Nat → Prop) (fn m : Int) (ft : T) (a a' c : Option Addr) (cap cap' cp : Nat) (n : Int) (kids : V) (ws : List Int) (w : World) (hs : Sl S w a ft) (hv : Vl S' w a' kids) (hi : Ints S' w c ws) (hx : (1 : Int) ≤ kids.len) :
    Calls Tryz.prog 127 #[F.val ⟨7, fn, ft⟩ a cap, .int .i64 m, Vv n a' kids.len cap' c ws.length cp] w fun e w' => e = .returned (.bool (vFields ⟨7, fn, ft⟩ m n kids.len ws)) ∧ Below w.heap.size w w' := by
 obtain ⟨W, hW⟩ : ∃ W : World, W = (w.alloc (Obj.cells #[.int .i64 7, .int .i64 fn, Value.slice a ft.len cap] 24)).alloc (Obj.cells #[.int .i64 n, Value.slice a' kids.len cap', Value.slice c ws.length cp] 58) := ⟨_, rfl⟩
 have hWb : Below w.heap.size w W := by rw [hW]; exact ba2 _ _ _
 have c0 : W.cell? ⟨w.heap.size, 0, none⟩ = some (.int .i64 7) := by rw [hW]; simp
 have c1 : W.cell? ⟨w.heap.size, 1, none⟩ = some (.int .i64 fn) := by rw [hW]; simp
 have c2 : W.cell? ⟨w.heap.size, 2, none⟩ = some (.slice a ft.len cap) := by rw [hW]; simp
 have e0 : W.cell? ⟨w.heap.size + 1, 0, none⟩ = some (.int .i64 n) := by rw [hW]; simp
 have e1 : W.cell? ⟨w.heap.size + 1, 1, none⟩ = some (.slice a' kids.len cap') := by rw [hW]; simp
 have e2 : W.cell? ⟨w.heap.size + 1, 2, none⟩ = some (.slice c ws.length cp) := by rw [hW]; simp
 have HB := hid (fun k : Nat => hWb.trans (below_drewN : Below w.heap.size W (W.drewN k)))
 have HC := hid (fun x (hx : Below w.heap.size w x) => weighs_any S S' ⟨7, fn, ft⟩ a a' c cap cap' cp n kids ws x (hs.below hx) (hv.below hx) (hi.below hx))
 have hlk := hv.1
 have HR := hid (show vFields ⟨7, fn, ft⟩ m n kids.len ws = (decide (0 ≤ n ∧ n < 1 ∧ (kids.len : Int) = kids.len) && weighs 7 kids.len ws) by show (decide (0 ≤ n ∧ n < 1 ∧ (kids.len : Int) = max (kids.len : Int) 1) && weighs 7 kids.len ws) = _; rw [show max (kids.len : Int) 1 = (kids.len : Int) by omega])
 clear hs hv hi
 by_cases h1 : 0 ≤ n
 rotate_left
 ·have HF := hid (show decide (0 ≤ n ∧ n < 1 ∧ (kids.len : Int) = kids.len) = false from decide_eq_false (fun h => h1 h.1))
  have h1' : n < 0 := by omega
  go_enter Tryz.func127, Tryz.ntmps127
  go_wp2_with fail
  rw [← hW]
  clear hW
  go_quiet (fail)
  go_wp2_with fail
  go_ret
  exact ⟨by rw [HR.out, HF.out]; rfl, HB.out _⟩
 by_cases h2 : n < 1
 rotate_left
 ·have HF := hid (show decide (0 ≤ n ∧ n < 1 ∧ (kids.len : Int) = kids.len) = false from decide_eq_false (fun h => h2 h.2.1))
  have h2' : 1 ≤ n := by omega
  go_enter Tryz.func127, Tryz.ntmps127
  go_wp2_with fail
  rw [← hW]
  clear hW
  go_quiet (fail)
  go_wp2_with fail
  go_ret
  exact ⟨by rw [HR.out, HF.out]; rfl, HB.out _⟩
 by_cases h3 : (kids.len : Int) = kids.len
 rotate_left
 ·exact absurd rfl h3
 have HF := hid (show decide (0 ≤ n ∧ n < 1 ∧ (kids.len : Int) = kids.len) = true from decide_eq_true ⟨h1, h2, h3⟩)
 have h3' : ((kids.len : Int) == kids.len) = true := beq_iff_eq.2 h3
 skip
 have HH3 := hid h3
 clear h3
 go_enter Tryz.func127, Tryz.ntmps127
 go_wp2_with fail
 rw [← hW]
 clear hW
 go_quiet (fail)
 go_wp2_with fail
 refine (HC.out _ (HB.out _)).mono ?_
 rintro e w' ⟨rfl, hb⟩
 go_wp2_with fail
 go_ret
 exact ⟨by rw [HR.out, HF.out]; rfl, (HB.out _).trans (hb.mono (HB.out _).size)⟩
theorem vfields_7b (S : Nat → Nat → Prop) (S' : Nat → Prop) (fn m : Int) (ft : T) (a a' c : Option Addr) (cap cap' cp : Nat) (n : Int) (kids : V) (ws : List Int) (w : World) (hs : Sl S w a ft) (hv : Vl S' w a' kids) (hi : Ints S' w c ws) (hx : (kids.len : Int) < 1) :
    Calls Tryz.prog 127 #[F.val ⟨7, fn, ft⟩ a cap, .int .i64 m, Vv n a' kids.len cap' c ws.length cp] w fun e w' => e = .returned (.bool (vFields ⟨7, fn, ft⟩ m n kids.len ws)) ∧ Below w.heap.size w w' := by
 obtain ⟨W, hW⟩ : ∃ W : World, W = (w.alloc (Obj.cells #[.int .i64 7, .int .i64 fn, Value.slice a ft.len cap] 24)).alloc (Obj.cells #[.int .i64 n, Value.slice a' kids.len cap', Value.slice c ws.length cp] 58) := ⟨_, rfl⟩
 have hWb : Below w.heap.size w W := by rw [hW]; exact ba2 _ _ _
 have c0 : W.cell? ⟨w.heap.size, 0, none⟩ = some (.int .i64 7) := by rw [hW]; simp
 have c1 : W.cell? ⟨w.heap.size, 1, none⟩ = some (.int .i64 fn) := by rw [hW]; simp
 have c2 : W.cell? ⟨w.heap.size, 2, none⟩ = some (.slice a ft.len cap) := by rw [hW]; simp
 have e0 : W.cell? ⟨w.heap.size + 1, 0, none⟩ = some (.int .i64 n) := by rw [hW]; simp
 have e1 : W.cell? ⟨w.heap.size + 1, 1, none⟩ = some (.slice a' kids.len cap') := by rw [hW]; simp
 have e2 : W.cell? ⟨w.heap.size + 1, 2, none⟩ = some (.slice c ws.length cp) := by rw [hW]; simp
 have HB := hid (fun k : Nat => hWb.trans (below_drewN : Below w.heap.size W (W.drewN k)))
 have HC := hid (fun x (hx : Below w.heap.size w x) => weighs_any S S' ⟨7, fn, ft⟩ a a' c cap cap' cp n kids ws x (hs.below hx) (hv.below hx) (hi.below hx))
 have hlk := hv.1
 have HR := hid (show vFields ⟨7, fn, ft⟩ m n kids.len ws = (decide (0 ≤ n ∧ n < 1 ∧ (kids.len : Int) = 1) && weighs 7 kids.len ws) by show (decide (0 ≤ n ∧ n < 1 ∧ (kids.len : Int) = max (kids.len : Int) 1) && weighs 7 kids.len ws) = _; rw [show max (kids.len : Int) 1 = 1 by omega])
 clear hs hv hi
 by_cases h1 : 0 ≤ n
 rotate_left
 ·have HF := hid (show decide (0 ≤ n ∧ n < 1 ∧ (kids.len : Int) = 1) = false from decide_eq_false (fun h => h1 h.1))
  have h1' : n < 0 := by omega
  go_enter Tryz.func127, Tryz.ntmps127
  go_wp2_with fail
  rw [← hW]
  clear hW
  go_quiet (fail)
  go_wp2_with fail
  go_ret
  exact ⟨by rw [HR.out, HF.out]; rfl, HB.out _⟩
 by_cases h2 : n < 1
 rotate_left
 ·have HF := hid (show decide (0 ≤ n ∧ n < 1 ∧ (kids.len : Int) = 1) = false from decide_eq_false (fun h => h2 h.2.1))
  have h2' : 1 ≤ n := by omega
  go_enter Tryz.func127, Tryz.ntmps127
  go_wp2_with fail
  rw [← hW]
  clear hW
  go_quiet (fail)
  go_wp2_with fail
  go_ret
  exact ⟨by rw [HR.out, HF.out]; rfl, HB.out _⟩
 by_cases h3 : (kids.len : Int) = 1
 rotate_left
 ·have HF := hid (show decide (0 ≤ n ∧ n < 1 ∧ (kids.len : Int) = 1) = false from decide_eq_false (fun h => h3 h.2.2))
  have h3' : ((kids.len : Int) == 1) = false := by simpa using h3
  skip
  have HH3 := hid h3
  clear h3
  go_enter Tryz.func127, Tryz.ntmps127
  go_wp2_with fail
  rw [← hW]
  clear hW
  go_quiet (fail)
  go_wp2_with fail
  go_ret
  exact ⟨by rw [HR.out, HF.out]; rfl, HB.out _⟩
 have HF := hid (show decide (0 ≤ n ∧ n < 1 ∧ (kids.len : Int) = 1) = true from decide_eq_true ⟨h1, h2, h3⟩)
 have h3' : ((kids.len : Int) == 1) = true := beq_iff_eq.2 h3
 skip
 have HH3 := hid h3
 clear h3
 go_enter Tryz.func127, Tryz.ntmps127
 go_wp2_with fail
 rw [← hW]
 clear hW
 go_quiet (fail)
 go_wp2_with fail
 refine (HC.out _ (HB.out _)).mono ?_
 rintro e w' ⟨rfl, hb⟩
 go_wp2_with fail
 go_ret
 exact ⟨by rw [HR.out, HF.out]; rfl, (HB.out _).trans (hb.mono (HB.out _).size)⟩
theorem vfields_o (S : Nat → Nat → Prop) (S' : Nat → Prop) (k : Int) (fn m : Int) (ft : T) (a a' c : Option Addr) (cap cap' cp : Nat) (n : Int) (kids : V) (ws : List Int) (w : World) (hs : Sl S w a ft) (hv : Vl S' w a' kids) (hi : Ints S' w c ws) (k0 : k ≠ 0) (k1 : k ≠ 1) (k2 : k ≠ 2) (k3 : k ≠ 3) (k4 : k ≠ 4) (k7 : k ≠ 7) :
    Calls Tryz.prog 127 #[F.val ⟨k, fn, ft⟩ a cap, .int .i64 m, Vv n a' kids.len cap' c ws.length cp] w fun e w' => e = .returned (.bool (vFields ⟨k, fn, ft⟩ m n kids.len ws)) ∧ Below w.heap.size w w' := by
 obtain ⟨W, hW⟩ : ∃ W : World, W = (w.alloc (Obj.cells #[.int .i64 k, .int .i64 fn, Value.slice a ft.len cap] 24)).alloc (Obj.cells #[.int .i64 n, Value.slice a' kids.len cap', Value.slice c ws.length cp] 58) := ⟨_, rfl⟩
 have hWb : Below w.heap.size w W := by rw [hW]; exact ba2 _ _ _
 have c0 : W.cell? ⟨w.heap.size, 0, none⟩ = some (.int .i64 k) := by rw [hW]; simp
 have c1 : W.cell? ⟨w.heap.size, 1, none⟩ = some (.int .i64 fn) := by rw [hW]; simp
 have c2 : W.cell? ⟨w.heap.size, 2, none⟩ = some (.slice a ft.len cap) := by rw [hW]; simp
 have e0 : W.cell? ⟨w.heap.size + 1, 0, none⟩ = some (.int .i64 n) := by rw [hW]; simp
 have e1 : W.cell? ⟨w.heap.size + 1, 1, none⟩ = some (.slice a' kids.len cap') := by rw [hW]; simp
 have e2 : W.cell? ⟨w.heap.size + 1, 2, none⟩ = some (.slice c ws.length cp) := by rw [hW]; simp
 have HB := hid (fun k : Nat => hWb.trans (below_drewN : Below w.heap.size W (W.drewN k)))
 have HC := hid (fun x (hx : Below w.heap.size w x) => weighs_any S S' ⟨k, fn, ft⟩ a a' c cap cap' cp n kids ws x (hs.below hx) (hv.below hx) (hi.below hx))
 have hlk := hv.1
 have HR := hid (show vFields ⟨k, fn, ft⟩ m n kids.len ws = (decide (0 ≤ n ∧ n < 1 ∧ (kids.len : Int) = kids.len) && weighs k kids.len ws) by unfold vFields numbersOf argsOf; simp only [if_neg k0, if_neg k1, if_neg k2, if_neg k3, if_neg k4, if_neg k7])
 have b0 : (k == 0) = false := by simpa using k0
 have b1 : (k == 1) = false := by simpa using k1
 have b2 : (k == 2) = false := by simpa using k2
 have b3 : (k == 3) = false := by simpa using k3
 have b4 : (k == 4) = false := by simpa using k4
 have b7 : (k == 7) = false := by simpa using k7
 clear k0 k1 k2 k3 k4 k7
 clear hs hv hi
 by_cases h1 : 0 ≤ n
 rotate_left
 ·have HF := hid (show decide (0 ≤ n ∧ n < 1 ∧ (kids.len : Int) = kids.len) = false from decide_eq_false (fun h => h1 h.1))
  have h1' : n < 0 := by omega
  go_enter Tryz.func127, Tryz.ntmps127
  go_wp2_with fail
  rw [← hW]
  clear hW
  go_quiet (fail)
  go_wp2_with fail
  go_ret
  exact ⟨by rw [HR.out, HF.out]; rfl, HB.out _⟩
 by_cases h2 : n < 1
 rotate_left
 ·have HF := hid (show decide (0 ≤ n ∧ n < 1 ∧ (kids.len : Int) = kids.len) = false from decide_eq_false (fun h => h2 h.2.1))
  have h2' : 1 ≤ n := by omega
  go_enter Tryz.func127, Tryz.ntmps127
  go_wp2_with fail
  rw [← hW]
  clear hW
  go_quiet (fail)
  go_wp2_with fail
  go_ret
  exact ⟨by rw [HR.out, HF.out]; rfl, HB.out _⟩
 by_cases h3 : (kids.len : Int) = kids.len
 rotate_left
 ·exact absurd rfl h3
 have HF := hid (show decide (0 ≤ n ∧ n < 1 ∧ (kids.len : Int) = kids.len) = true from decide_eq_true ⟨h1, h2, h3⟩)
 have h3' : ((kids.len : Int) == kids.len) = true := beq_iff_eq.2 h3
 skip
 have HH3 := hid h3
 clear h3
 go_enter Tryz.func127, Tryz.ntmps127
 go_wp2_with fail
 rw [← hW]
 clear hW
 go_quiet (fail)
 go_wp2_with fail
 refine (HC.out _ (HB.out _)).mono ?_
 rintro e w' ⟨rfl, hb⟩
 go_wp2_with fail
 go_ret
 exact ⟨by rw [HR.out, HF.out]; rfl, (HB.out _).trans (hb.mono (HB.out _).size)⟩
theorem vfields_any (S : Nat → Nat → Prop) (S' : Nat → Prop) (f : F) (m : Int) (a a' c : Option Addr) (cap cap' cp : Nat) (n : Int) (kids : V) (ws : List Int) (w : World) (hs : Sl S w a f.t) (hv : Vl S' w a' kids) (hi : Ints S' w c ws) :
    Calls Tryz.prog 127 #[f.val a cap, .int .i64 m, Vv n a' kids.len cap' c ws.length cp] w fun e w' => e = .returned (.bool (vFields f m n kids.len ws)) ∧ Below w.heap.size w w' := by
 obtain ⟨k, fn, ft⟩ := f
 by_cases k0 : k = 0
 ·subst k0; exact vfields_0 S S' fn m ft a a' c cap cap' cp n kids ws w hs hv hi
 by_cases k1 : k = 1
 ·subst k1; exact vfields_1 S S' fn m ft a a' c cap cap' cp n kids ws w hs hv hi
 by_cases k2 : k = 2
 ·subst k2; exact vfields_2 S S' fn m ft a a' c cap cap' cp n kids ws w hs hv hi
 by_cases k3 : k = 3
 ·subst k3; exact vfields_3 S S' fn m ft a a' c cap cap' cp n kids ws w hs hv hi
 by_cases k4 : k = 4
 ·subst k4; exact vfields_4 S S' fn m ft a a' c cap cap' cp n kids ws w hs hv hi
 by_cases k7 : k = 7
 ·subst k7
  by_cases hx : (1 : Int) ≤ kids.len
  ·exact vfields_7a S S' fn m ft a a' c cap cap' cp n kids ws w hs hv hi hx
  ·exact vfields_7b S S' fn m ft a a' c cap cap' cp n kids ws w hs hv hi (by omega)
 exact vfields_o S S' k fn m ft a a' c cap cap' cp n kids ws w hs hv hi k0 k1 k2 k3 k4 k7
def PartPost (S : Nat → Nat → Prop) (g : F) (w : World) (e : Ending) (w' : World) : Prop := ∃ a cap, e = .returned (g.val a cap) ∧ Sl S w' a g.t ∧ Below w.heap.size w w'
theorem part_any (S : Nat → Nat → Prop) (f : F) (i : Nat) (a a' c : Option Addr) (cap cap' cp : Nat) (n : Int) (lk lw : Nat) (w : World) (hs : Sl S w a f.t) (hat : f.at n i < f.t.len) (hn : f.k = 3 → 0 ≤ n) :
    Calls Tryz.prog 128 #[.int .i64 (i : Int), f.val a cap, Vv n a' lk cap' c lw cp] w (PartPost S (f.part n i) w) := by
 obtain ⟨b, o, rfl, hA⟩ := hs.addr hat
 obtain ⟨k1, n1, kids, rest, hd, _⟩ := T.drop_lt hat
 obtain ⟨_, d0, d1, a1, cap1, d2, hs1⟩ := hA.get hd
 have hp : f.part n i = ⟨k1, n1, kids⟩ := by rw [F.part_at]; exact T.get_drop _ _ _ _ _ _ hd
 rw [hp]
 have hlen := hs.1
 clear hp hd hA hs
 obtain ⟨k, fn, ft⟩ := f
 have hb3 := Nat.mul_comm 3 (F.at ⟨k, fn, ft⟩ n i)
 rw [hb3] at d0 d1 d2
 clear hb3
 have htt : ft.len ≤ 9223372036854775807 := hlen
 have hbw := lt_of_cell d0
 obtain ⟨W, hW⟩ : ∃ W : World, W = (w.alloc (Obj.cells #[.int .i64 k, .int .i64 fn, Value.slice (some ⟨b, o, none⟩) ft.len cap] 24)).alloc (Obj.cells #[.int .i64 n, Value.slice a' lk cap', Value.slice c lw cp] 58) := ⟨_, rfl⟩
 have hWb : Below w.heap.size w W := by rw [hW]; exact ba2 _ _ _
 have hWs : W.heap.size = w.heap.size + 2 := by rw [hW]; simp
 obtain ⟨X, hX⟩ : ∃ X : World, X = W.alloc (Obj.cells #[.int .i64 0, .int .i64 0, Value.slice none 0 0] 24) := ⟨_, rfl⟩
 have hXW : Below W.heap.size W X := by rw [hX]; exact ba _ _
 have hXb : Below w.heap.size w X := hWb.trans (hXW.mono hWb.size)
 have f0 : X.cell? ⟨w.heap.size, 0, none⟩ = some (.int .i64 k) := cell_below hXW (by rw [hW]; simp)
 have f2 : X.cell? ⟨w.heap.size, 2, none⟩ = some (.slice (some ⟨b, o, none⟩) ft.len cap) := cell_below hXW (by rw [hW]; simp)
 have e0 : X.cell? ⟨w.heap.size + 1, 0, none⟩ = some (.int .i64 n) := cell_below hXW (by rw [hW]; simp)
 have hx : X.heap[w.heap.size + 2]? = some (Obj.cells #[.int .i64 0, .int .i64 0, Value.slice none 0 0] 24 (0, 0)) := by rw [hX, ← hWs]; exact heap_new _ _
 replace d0 := cell_below hXb d0
 replace d1 := cell_below hXb d1
 replace d2 := cell_below hXb d2
 have HV := hid hs1
 clear hs1 hXW hWb f0 f2 e0 hXb
 by_cases h2 : k = 2
 ·subst h2
  simp only [F.at, if_true] at d0 d1 d2 hat
  subst hX
  subst hW
  clear hx
  go_enter Tryz.func128, Tryz.ntmps128
  go_wp2_with fail
  refine bodyPost_ret (v := .agg #[.int .i64 k1, .int .i64 n1, .slice a1 kids.len cap1]) (by simp [results, Tryz.results128, go_sem]) rfl ?_
  have hB := (((Below.refl w.heap.size w).alloc (Nat.le_refl _) (Obj.cells #[.int .i64 2, .int .i64 fn, Value.slice (some ⟨b, o, none⟩) ft.len cap] 24)).alloc (by simp) (Obj.cells #[.int .i64 n, Value.slice a' lk cap', Value.slice c lw cp] 58)).alloc (by simp; omega) (Obj.cells #[.int .i64 k1, .int .i64 n1, .slice a1 kids.len cap1] 24)
  exact ⟨a1, cap1, rfl, HV.out.below hB, hB⟩
 by_cases h3 : k = 3
 ·subst h3
  obtain ⟨j, rfl⟩ : ∃ j : Nat, n = (j : Int) := ⟨n.toNat, by have := hn rfl; omega⟩
  have hj : F.at ⟨3, fn, ft⟩ (j : Int) i = j := by simp [F.at]
  rw [hj] at d0 d1 d2 hat
  clear hj
  subst hX
  subst hW
  clear hx
  go_enter Tryz.func128, Tryz.ntmps128
  go_wp2_with fail
  refine bodyPost_ret (v := .agg #[.int .i64 k1, .int .i64 n1, .slice a1 kids.len cap1]) (by simp [results, Tryz.results128, go_sem]) rfl ?_
  have hB := (((Below.refl w.heap.size w).alloc (Nat.le_refl _) (Obj.cells #[.int .i64 3, .int .i64 fn, Value.slice (some ⟨b, o, none⟩) ft.len cap] 24)).alloc (by simp) (Obj.cells #[.int .i64 (j : Int), Value.slice a' lk cap', Value.slice c lw cp] 58)).alloc (by simp; omega) (Obj.cells #[.int .i64 k1, .int .i64 n1, .slice a1 kids.len cap1] 24)
  exact ⟨a1, cap1, rfl, HV.out.below hB, hB⟩
 ·have hj : F.at ⟨k, fn, ft⟩ n i = 0 := by simp [F.at, h2, h3]
  rw [hj] at d0 d1 d2 hat
  simp only [Nat.zero_mul, Nat.add_zero] at d0 d1 d2
  have b2 : (k == 2) = false := by simpa using h2
  have b3 : (k == 3) = false := by simpa using h3
  clear hj h2 h3
  subst hX
  subst hW
  clear hx
  go_enter Tryz.func128, Tryz.ntmps128
  go_wp2_with fail
  refine bodyPost_ret (v := .agg #[.int .i64 k1, .int .i64 n1, .slice a1 kids.len cap1]) (by simp [results, Tryz.results128, go_sem]) rfl ?_
  have hB := (((Below.refl w.heap.size w).alloc (Nat.le_refl _) (Obj.cells #[.int .i64 k, .int .i64 fn, Value.slice (some ⟨b, o, none⟩) ft.len cap] 24)).alloc (by simp) (Obj.cells #[.int .i64 n, Value.slice a' lk cap', Value.slice c lw cp] 58)).alloc (by simp; omega) (Obj.cells #[.int .i64 k1, .int .i64 n1, .slice a1 kids.len cap1] 24)
  exact ⟨a1, cap1, rfl, HV.out.below hB, hB⟩
end Go.Proofs.YtcekilcgpgjooaaGreatDoor
