/- Proved here: contracts of the walk to BisimGraphs: the comparison of pairs, isRelation, and maps with pairs as keys; each under the conditions that its own statement names. -/
import Derived.Test.YtcekilcgpgjooaaGreatDoorG03
import Derived.Maps.OwnOps
import Derived.Maps.Views
import Derived.DeepKeys4
set_option maxRecDepth 100000
set_option maxHeartbeats 3200000
namespace Go.Proofs.YtcekilcgpgjooaaGreatDoor
open Go Go.RowKit
open Go.Lib (hid)
theorem Tryz.cells38 : Tryz.prog.cellsOf 38 = 2 := by kernel_rfl
theorem cor_any (b : Nat) (x y : Int) (w : World) (h0 : w.cell? ⟨b, 0, none⟩ = some (.int .i64 x)) (h1 : w.cell? ⟨b, 1, none⟩ = some (.int .i64 y)) :
    Calls Tryz.prog 78 #[.slice (some ⟨b, 0, none⟩) 2 2] w fun e w' => e = .returned (.int .i64 (if x ≠ 0 then x else y)) ∧ w' = w := by
 obtain ⟨r, hr⟩ : ∃ r, r = (if x ≠ 0 then x else y) := ⟨_, rfl⟩
 rw [← hr]
 have HR := hid hr
 clear hr
 by_cases hx : x = 0
 ·subst hx
  by_cases hy : y = 0
  ·subst hy
   have HZ := hid (show r = 0 by rw [HR.out]; simp)
   go_enter Tryz.func78, Tryz.ntmps78
   go_wp2_with fail
   go_loopw [8] (fun i wr => ∃ k : Nat, k ≤ 2 ∧ i = .int .i64 k ∧ wr = w) (fun i _ => 2 - (intOf i).toNat)
   case atStart => exact ⟨0, by omega, rfl, by first | trivial | rfl⟩
   case round =>
    obtain ⟨k, hk, rfl, rfl⟩ := hrel
    rcases (show k = 0 ∨ k = 1 ∨ k = 2 by omega) with rfl | rfl | rfl
    ·go_wp2_with fail
     go_roundw
     case rel => exact ⟨1, by omega, by go_num, by first | trivial | rfl⟩
     case measure => simp [intOf]
    ·go_wp2_with fail
     go_roundw
     case rel => exact ⟨2, by omega, by go_num, by first | trivial | rfl⟩
     case measure => simp [intOf]
    ·go_wp2_with fail
     go_ret
     exact ⟨by rw [HZ.out]; rfl, rfl⟩
  ·have hyb : (y != 0) = true := by simpa using hy
   have HZ := hid (show r = y by rw [HR.out]; simp)
   clear hy
   go_enter Tryz.func78, Tryz.ntmps78
   go_wp2_with fail
   go_loopw [8] (fun i wr => ∃ k : Nat, k ≤ 1 ∧ i = .int .i64 k ∧ wr = w) (fun i _ => 2 - (intOf i).toNat)
   case atStart => exact ⟨0, by omega, rfl, by first | trivial | rfl⟩
   case round =>
    obtain ⟨k, hk, rfl, rfl⟩ := hrel
    rcases (show k = 0 ∨ k = 1 by omega) with rfl | rfl
    ·go_wp2_with fail
     go_roundw
     case rel => exact ⟨1, by omega, by go_num, by first | trivial | rfl⟩
     case measure => simp [intOf]
    ·go_wp2_with fail
     go_ret
     exact ⟨by rw [HZ.out]; rfl, rfl⟩
 ·have hxb : (x != 0) = true := by simpa using hx
  have HX := hid (show r = x from by rw [HR.out, if_pos hx])
  clear hx
  go_enter Tryz.func78, Tryz.ntmps78
  go_wp2_with fail
  go_loopw [8] (fun i wr => i = .int .i64 0 ∧ wr = w) (fun i _ => 2 - (intOf i).toNat)
  case atStart => exact ⟨rfl, by first | trivial | rfl⟩
  case round =>
   obtain ⟨rfl, rfl⟩ := hrel
   go_wp2_with fail
   go_ret
   exact ⟨by rw [HX.out]; rfl, rfl⟩
theorem cellAl {u : World} {b o : Nat} {v : Value} {x : Obj} (h : u.cell? ⟨b, o, none⟩ = some v) : (u.alloc x).cell? ⟨b, o, none⟩ = some v := by
 have := lt_of_cell h
 unfold World.cell? at h ⊢
 rw [Below.heap_alloc _ _ _ this]; exact h
def cmpP (p q : Int × Int) : Int := if cmpI p.1 q.1 ≠ 0 then cmpI p.1 q.1 else cmpI p.2 q.2
abbrev Pv (p : Int × Int) : Value := .agg #[.int .i64 p.1, .int .i64 p.2]
theorem cells2 {u : World} {b : Nat} {x0 x1 : Value} {t : TypeId} {fz : Nat × Nat} (h : u.heap[b]? = some (.cells #[x0, x1] t fz)) : u.cell? ⟨b, 0, none⟩ = some x0 ∧ u.cell? ⟨b, 1, none⟩ = some x1 := by
 simp [World.cell?, h]
theorem cmpP_any (p q : Int × Int) (w : World) : Calls Tryz.prog 41 #[Pv p, Pv q] w fun e w' => e = .returned (.int .i64 (cmpP p q)) ∧ Below w.heap.size w w' := by
 obtain ⟨p1, p2⟩ := p
 obtain ⟨q1, q2⟩ := q
 obtain ⟨W, hW⟩ : ∃ W : World, W = (w.alloc (Obj.cells #[.int .i64 p1, .int .i64 p2] 38)).alloc (Obj.cells #[.int .i64 q1, .int .i64 q2] 38) := ⟨_, rfl⟩
 have hWb : Below w.heap.size w W := by rw [hW]; exact ba2 _ _ _
 have hWs : W.heap.size = w.heap.size + 2 := by rw [hW]; simp
 have k0 : W.heap[w.heap.size]? = some (Obj.cells #[.int .i64 p1, .int .i64 p2] 38 (0, 0)) := by rw [hW]; exact heap_old2 _ _ _
 have k1 : W.heap[w.heap.size + 1]? = some (Obj.cells #[.int .i64 q1, .int .i64 q2] 38 (0, 0)) := by rw [hW]; exact heap_new2 _ _ _
 obtain ⟨b, hb⟩ : ∃ b, b = w.heap.size := ⟨_, rfl⟩
 rw [← hb] at k0 k1
 obtain ⟨x0, x1⟩ := cells2 k0
 obtain ⟨y0, y1⟩ := cells2 k1
 obtain ⟨u, hu⟩ : ∃ u, u = cmpI p1 q1 := ⟨_, rfl⟩
 obtain ⟨v, hv⟩ : ∃ v, v = cmpI p2 q2 := ⟨_, rfl⟩
 have HU := hid (fun x => (show Calls Tryz.prog 79 #[.int .i64 p1, .int .i64 q1] x (fun e x' => e = .returned (.int .i64 u) ∧ x = x') by rw [hu]; exact cmpI_any p1 q1 x))
 have HV := hid (fun x => (show Calls Tryz.prog 79 #[.int .i64 p2, .int .i64 q2] x (fun e x' => e = .returned (.int .i64 v) ∧ x = x') by rw [hv]; exact cmpI_any p2 q2 x))
 obtain ⟨rr, hrr⟩ : ∃ rr : Int, rr = (if u ≠ 0 then u else v) := ⟨_, rfl⟩
 have HR := hid (show rr = cmpP (p1, p2) (q1, q2) by rw [hrr]; unfold cmpP; rw [hu, hv])
 have HCO := hid (fun x b' h0 h1 => (show Calls Tryz.prog 78 #[.slice (some ⟨b', 0, none⟩) 2 2] x (fun e x' => e = .returned (.int .i64 rr) ∧ x' = x) by rw [hrr]; exact cor_any b' u v x h0 h1))
 have HWB := hid hWb
 clear hWb hWs k0 k1 hu hv hrr
 go_enter Tryz.func41, Tryz.ntmps41
 go_wp2_with fail
 rw [← hW, ← hb]
 clear hW hb
 go_region_held3 (fun x : World => x.cell? ⟨b, 0, none⟩ = some (.int .i64 p1) ∧ x.cell? ⟨b, 1, none⟩ = some (.int .i64 p2) ∧ x.cell? ⟨b + 1, 0, none⟩ = some (.int .i64 q1) ∧ x.cell? ⟨b + 1, 1, none⟩ = some (.int .i64 q2)) (first | exact ⟨x0, x1, y0, y1⟩ | exact ⟨cellAl x0, cellAl x1, cellAl y0, cellAl y1⟩ | fail) (first
  | (go_at_call 79; refine callAt (args' := #[.int .i64 p1, .int .i64 q1]) rfl ?_; refine (HU.out _).mono ?_; rintro e x ⟨rfl, hx⟩; subst hx)
  | (go_at_call 79; refine callAt (args' := #[.int .i64 p2, .int .i64 q2]) rfl ?_; refine (HV.out _).mono ?_; rintro e x ⟨rfl, hx⟩; subst hx)
  | (go_at_call 78; refine (HCO.out _ _ (by simp) (by simp)).mono ?_; rintro e x ⟨rfl, hx⟩; subst hx)
  | fail)
 all_goals (go_wp2_with fail; go_ret; exact ⟨by rw [← HR.out]; rfl, by first | exact (belowN (HWB.out.alloc HWB.out.size _)) | exact (HWB.out.alloc HWB.out.size _).drew | exact belowN (HWB.out.alloc HWB.out.size _).drew⟩)
def Prs (S : Nat → Prop) (w : World) (a : Option Addr) (r : List (Int × Int)) : Prop :=
 r.length ≤ 9223372036854775807 ∧ (r = [] ∨ ∃ b o, a = some ⟨b, o, none⟩ ∧ S b ∧ ∀ i p, r[i]? = some p → w.cell? ⟨b, o + i * 2, none⟩ = some (.int .i64 p.1) ∧ w.cell? ⟨b, o + i * 2 + 1, none⟩ = some (.int .i64 p.2))
theorem Prs.below {S : Nat → Prop} {w w' : World} (hb : Below w.heap.size w w') {a : Option Addr} {r : List (Int × Int)} (h : Prs S w a r) : Prs S w' a r := by
 refine ⟨h.1, ?_⟩
 rcases h.2 with h2 | ⟨b, o, h2, h3, h4⟩
 ·exact Or.inl h2
 ·exact Or.inr ⟨b, o, h2, h3, fun i p hp => ⟨cell_below hb (h4 i p hp).1, cell_below hb (h4 i p hp).2⟩⟩
theorem Prs.get {S : Nat → Prop} {w : World} {a : Option Addr} {r : List (Int × Int)} (h : Prs S w a r) {i : Nat} {p : Int × Int} (hp : r[i]? = some p) : ∃ b o, a = some ⟨b, o, none⟩ ∧ S b ∧ w.cell? ⟨b, o + i * 2, none⟩ = some (.int .i64 p.1) ∧ w.cell? ⟨b, o + i * 2 + 1, none⟩ = some (.int .i64 p.2) := by
 rcases h.2 with h2 | ⟨b, o, h2, h3, h4⟩
 ·subst h2; simp at hp
 ·exact ⟨b, o, h2, h3, h4 i p hp⟩
def inPair (n m : Int) (p : Int × Int) : Bool := decide (0 ≤ p.1 ∧ p.1 < n ∧ 0 ≤ p.2 ∧ p.2 < m)
def relFrom (n m : Int) : Option (Int × Int) → List (Int × Int) → Bool
 | _, [] => true
 | none, p :: r => inPair n m p && relFrom n m (some p) r
 | some q, p :: r => inPair n m p && (decide (cmpP q p < 0) && relFrom n m (some p) r)
def prevOf (r : List (Int × Int)) : Nat → Option (Int × Int)
 | 0 => none
 | k + 1 => r[k]?
theorem isRel_any (S : Nat → Prop) (a : Option Addr) (cap : Nat) (r : List (Int × Int)) (n m : Int) (w : World) (hr : Prs S w a r) :
    Calls Tryz.prog 55 #[.slice a r.length cap, .int .i64 n, .int .i64 m] w fun e w' => e = .returned (.bool (relFrom n m none r)) ∧ Below w.heap.size w w' := by
 have hlen := hr.1
 obtain ⟨N, hN⟩ : ∃ N, N = r.length := ⟨_, rfl⟩
 obtain ⟨R, hR⟩ : ∃ R, R = relFrom n m none r := ⟨_, rfl⟩
 rw [← hN, ← hR]
 rw [← hN] at hlen
 have HN := hid hN
 have HR := hid hR
 have HP := hid hr
 clear hN hR hr
 go_enter Tryz.func55, Tryz.ntmps55
 go_wp2_with fail
 go_loopw [11] (fun i wr => ∃ k : Nat, k ≤ N ∧ i = .int .i64 k ∧ relFrom n m (prevOf r k) (r.drop k) = R ∧ Below w.heap.size w wr) (fun i _ => N - (intOf i).toNat)
 case atStart => exact ⟨0, Nat.zero_le _, rfl, HR.out.symm, Below.refl _ _⟩
 case round =>
  obtain ⟨k, hk, rfl, hrel0, hb⟩ := hrel
  have HB := hid hb
  have HRL := hid hrel0
  clear hrel0
  by_cases hlt : k < N
  rotate_left
  ·have HF := hid (show R = true by rw [← HRL.out, List.drop_eq_nil_of_le (by have := HN.out; omega)]; cases prevOf r k <;> rfl)
   go_wp2_with fail
   go_ret
   exact ⟨by rw [HF.out]; rfl, HB.out⟩
  obtain ⟨p, hp⟩ : ∃ p, r[k]? = some p := ⟨r[k]'(by have := HN.out; omega), List.getElem?_eq_getElem _⟩
  obtain ⟨b, o, rfl, _, c0, c1⟩ := (HP.out.below hb).get hp
  have HPK := hid hp
  have HDR := hid (show r.drop k = p :: r.drop (k + 1) by
   have hkl : k < r.length := by have := HN.out; omega
   rw [List.drop_eq_getElem_cons hkl]
   rw [List.getElem?_eq_getElem hkl] at hp
   injection hp with hp
   rw [hp])
  have HNX := hid (show prevOf r (k + 1) = some p from hp)
  obtain ⟨p1, p2⟩ := p
  simp only at c0 c1
  obtain ⟨X, hX⟩ : ∃ X : World, X = wr.alloc (Obj.cells #[.int .i64 p1, .int .i64 p2] 38) := ⟨_, rfl⟩
  have hXb : Below wr.heap.size wr X := by rw [hX]; exact ba _ _
  have hXk : X.heap[wr.heap.size]? = some (Obj.cells #[.int .i64 p1, .int .i64 p2] 38 (0, 0)) := by rw [hX]; exact heap_new _ _
  obtain ⟨bx, hbx⟩ : ∃ bx, bx = wr.heap.size := ⟨_, rfl⟩
  rw [← hbx] at hXk
  obtain ⟨x0, x1⟩ := cells2 hXk
  have HBX := hid (hb.trans (hXb.mono hb.size))
  have HPX := hid ((HP.out.below hb).below hXb)
  clear hp hb hXb hXk
  by_cases hin : 0 ≤ p1 ∧ p1 < n ∧ 0 ≤ p2 ∧ p2 < m
  rotate_left
  ·have HF := hid (show R = false by
    rw [← HRL.out, HDR.out]
    have : inPair n m (p1, p2) = false := decide_eq_false hin
    cases prevOf r k <;> simp [relFrom, this])
   have HBR := hid (show Below w.heap.size w (wr.alloc (Obj.cells #[.int .i64 p1, .int .i64 p2] 38)) by rw [← hX]; exact HBX.out)
   clear hX hbx x0 x1
   by_cases h1 : p1 < 0
   ·go_wp2_with fail
    go_ret
    exact ⟨by rw [HF.out]; rfl, HBR.out⟩
   by_cases h2 : n ≤ p1
   ·go_wp2_with fail
    go_ret
    exact ⟨by rw [HF.out]; rfl, HBR.out⟩
   by_cases h3 : p2 < 0
   ·go_wp2_with fail
    go_ret
    exact ⟨by rw [HF.out]; rfl, HBR.out⟩
   have h4 : m ≤ p2 := by omega
   go_wp2_with fail
   go_ret
   exact ⟨by rw [HF.out]; rfl, HBR.out⟩
  obtain ⟨i1, i2, i3, i4⟩ := hin
  have HIN := hid (show inPair n m (p1, p2) = true from decide_eq_true ⟨i1, i2, i3, i4⟩)
  go_wp2_with fail
  rw [← hX, ← hbx]
  clear hX hbx
  go_wp2_with fail
  cases k with
  | zero =>
   have HNXT := hid (show relFrom n m (some (p1, p2)) (r.drop 1) = R by
    have h := HRL.out
    rw [HDR.out] at h
    simpa [prevOf, relFrom, HIN.out] using h)
   go_quiet (fail)
   go_wp2_with fail
   go_roundw
   case rel => exact ⟨1, by omega, by go_num, by rw [HNX.out]; exact HNXT.out, belowN HBX.out⟩
   case measure => simp [intOf]; omega
  | succ j =>
   obtain ⟨q, hq⟩ : ∃ q, r[j]? = some q := ⟨r[j]'(by have := HN.out; omega), List.getElem?_eq_getElem _⟩
   obtain ⟨b', o', e, _, d0, d1⟩ := HPX.out.get hq
   cases e
   obtain ⟨q1, q2⟩ := q
   simp only at d0 d1
   have HPV := hid (show prevOf r (j + 1) = some (q1, q2) from hq)
   obtain ⟨cc, hcc⟩ : ∃ cc, cc = cmpP (q1, q2) (p1, p2) := ⟨_, rfl⟩
   have HCP := hid (fun x => (show Calls Tryz.prog 41 #[Pv (q1, q2), Pv (p1, p2)] x (fun e x' => e = .returned (.int .i64 cc) ∧ Below x.heap.size x x') by rw [hcc]; exact cmpP_any (q1, q2) (p1, p2) x))
   have HCC := hid hcc
   have hjk : ((↑(j + 1) : Int)) - 1 = (j : Int) := by omega
   have hjp : (0 : Int) < (↑(j + 1) : Int) := by omega
   have hjN : j < N := by omega
   have hjI : (j : Int) < (N : Int) := by omega
   have hjq : IntKind.i64.wrap (j : Int) = (j : Int) := IntWalk.i64_in _ ⟨by omega, by omega⟩
   have hjs : (0 : Int) < (j : Int) + 1 := by omega
   have hjt : (j : Int) + 1 - 1 = j := by omega
   have hju : decide ((0 : Int) < (j : Int) + 1) = true := decide_eq_true hjs
   clear hq hcc
   go_region_held3 (fun x : World => x.cell? ⟨bx, 0, none⟩ = some (.int .i64 p1) ∧ x.cell? ⟨bx, 1, none⟩ = some (.int .i64 p2) ∧ x.cell? ⟨b, o + j * 2, none⟩ = some (.int .i64 q1) ∧ x.cell? ⟨b, o + j * 2 + 1, none⟩ = some (.int .i64 q2)) (first | exact ⟨x0, x1, d0, d1⟩ | fail) (first | (go_at_call 41; refine (HCP.out _).mono ?_; rintro e x ⟨rfl, hbq⟩; have HBQ := hid hbq; replace x0 := cell_below hbq x0; replace x1 := cell_below hbq x1; replace d0 := cell_below hbq d0; replace d1 := cell_below hbq d1; clear hbq) | fail)
   have HBZ := hid ((belowN HBX.out).trans (HBQ.out.mono (belowN HBX.out).size))
   by_cases hc : cc < 0
   ·have HNXT := hid (show relFrom n m (some (p1, p2)) (r.drop (j + 1 + 1)) = R by
     have h := HRL.out
     rw [HDR.out, HPV.out] at h
     rw [HCC.out] at hc
     simpa [relFrom, HIN.out, hc] using h)
    go_wp2_with fail
    go_roundw
    case rel => exact ⟨j + 1 + 1, by omega, by go_num, by rw [HNX.out]; exact HNXT.out, HBZ.out⟩
    case measure => simp [intOf]; omega
   ·have HF := hid (show R = false by
     rw [← HRL.out, HDR.out, HPV.out]
     rw [HCC.out] at hc
     simp [relFrom, hc])
    go_wp2_with fail
    go_ret
    exact ⟨by rw [HF.out]; rfl, HBZ.out⟩
end Go.Proofs.YtcekilcgpgjooaaGreatDoor
namespace Go.Proofs.YtcekilcgpgjooaaGreatDoor
open Go Go.RowKit Go.Maps
theorem laidOutT : laidOutB Tryz.prog = true := by kernel_rfl
theorem rowP : (38 : TypeId) < Tryz.prog.types.size := of_decide_eq_true (by kernel_rfl)
theorem wideP : (match Tryz.prog.underlying 38 with | some (.array _ _) | some (.struct _) => true | _ => false) = true := by rw [Tryz.underlying38]
theorem lawP : Keyed Tryz.prog 38 := Keyed.of_law (deep_law_laid laidOutT (m := 2) (by omega) rowP (by kernel_rfl) wideP)
theorem ktyP : Tryz.prog.keyType 38 = true := by kernel_rfl
theorem sizeT : ∃ d, Tryz.prog.types.size = d + 2 := ⟨Tryz.prog.types.size - 2, (Nat.sub_add_cancel (Nat.le_trans (show 2 ≤ 38 by decide) (Nat.le_of_lt rowP))).symm⟩
theorem keyP {x y : Int} (hx : (Lit.int .i64 x).wf = true) (hy : (Lit.int .i64 y).wf = true) : ∃ kl, keyOf Tryz.prog 38 (.agg #[.int .i64 x, .int .i64 y]) = some kl := by
 obtain ⟨d, hd⟩ := sizeT
 have hf : (Value.agg #[Value.int .i64 x, Value.int .i64 y]).formed Tryz.prog 38 = true := by simp [Value.formed, Tryz.underlying38, Tryz.cells38]
 have hl : Tryz.prog.keyLits (Tryz.prog.types.size + 1) 38 [.int .i64 x, .int .i64 y] = some [.int .i64 x, .int .i64 y] := by
  rw [hd]
  simp [Program.keyLits, Tryz.underlying38, Tryz.underlying3, Tryz.cells38, Tryz.cells3, hx, hy, List.range, List.range.loop]
 unfold keyOf
 rw [Tryz.underlying38]
 simp only [ktyP, hf, Bool.and_self, if_true]
 rw [show (Value.agg #[.int .i64 x, Value.int .i64 y]).cells.toList = [.int .i64 x, .int .i64 y] by rfl, hl]
 exact ⟨_, rfl⟩
def MapB (w : World) (b n : Nat) (mem : Int → Int → Bool) : Prop :=
 ∃ D : DataW Unit, w.ownsMap Tryz.prog 38 (plainElem Tryz.prog 4) b n D ∧ IsMap D ∧ ∀ x y kl, keyOf Tryz.prog 38 (.agg #[.int .i64 x, .int .i64 y]) = some kl → D.atKey kl (.lit (.bool false)) = .lit (.bool (mem x y))
theorem MapB.lt {w : World} {b n : Nat} {mem : Int → Int → Bool} (h : MapB w b n mem) : b < w.heap.size := by
 obtain ⟨D, ⟨es, clock, hb, _⟩, _⟩ := h
 exact heap_lt hb
theorem MapB.same {w w' : World} {b n : Nat} {mem : Int → Int → Bool} (h : MapB w b n mem) (hk : w'.heap[b]? = w.heap[b]?) : MapB w' b n mem := by
 obtain ⟨D, ⟨es, clock, hb, hr⟩, hD⟩ := h
 exact ⟨D, ⟨es, clock, hk.trans hb, hr⟩, hD⟩
theorem MapB.made (w : World) : MapB (w.alloc (.map #[] 0)) w.heap.size 0 (fun _ _ => false) :=
 ⟨.map [], World.ownsMap_made _ _ _ _, isMap_empty, fun _ _ _ _ => rfl⟩
theorem boolZ (w : World) : (zeroValue 4).run Tryz.prog w = .ok (.bool false) w := by kernel_rfl
theorem plainElem_bool_inv {H : Type} {P : Program} {e : TypeId} (he : P.underlying e = some .bool) {v : Value} {z : DataW H × List MemPlace} (h : plainElem P e v = some z) : ∃ x, v = .bool x ∧ z = (.lit (.bool x), []) := by
 unfold plainElem at h
 rw [he] at h
 cases v <;> simp at h
 subst h
 exact ⟨_, rfl, rfl⟩
theorem MapB.look {w : World} {b n : Nat} {mem : Int → Int → Bool} (h : MapB w b n mem) {x y : Int} (hx : (Lit.int .i64 x).wf = true) (hy : (Lit.int .i64 y).wf = true) :
    (Instr.lookup 73 (.map (some b)) (.agg #[.int .i64 x, .int .i64 y]) false).run Tryz.prog w = .ok (.bool (mem x y)) w := by
 obtain ⟨D, hown, _, hD⟩ := h
 obtain ⟨kl, hkl⟩ := keyP hx hy
 obtain ⟨v, ps, hrun, hv⟩ := hown.lookup lawP Tryz.underlying73 (boolZ w) (plainElem_bool Tryz.underlying4 false) hkl
 obtain ⟨c, rfl, hc⟩ := plainElem_bool_inv Tryz.underlying4 hv
 simp only [Prod.mk.injEq] at hc
 have h1 := hD x y kl hkl
 rw [hc.1] at h1
 simp only [DataW.lit.injEq, Lit.bool.injEq] at h1
 rw [hrun, h1]
theorem MapB.put {w' : World} {b n : Nat} {mem : Int → Int → Bool} {D : DataW Unit} {x y : Int} {kl : Lit} (hkl : keyOf Tryz.prog 38 (.agg #[.int .i64 x, .int .i64 y]) = some kl) (hm : IsMap D)
    (hD : ∀ x y kl, keyOf Tryz.prog 38 (.agg #[.int .i64 x, .int .i64 y]) = some kl → D.atKey kl (.lit (.bool false)) = .lit (.bool (mem x y)))
    (hown : w'.ownsMap Tryz.prog 38 (plainElem Tryz.prog 4) b (n + 1) (D.put kl (.lit (.bool true)))) : MapB w' b (n + 1) (fun x' y' => decide (x' = x ∧ y' = y) || mem x' y') := by
 refine ⟨_, hown, hm.put _ _, fun x' y' kl' hkl' => ?_⟩
 by_cases e : x' = x ∧ y' = y
 ·obtain ⟨rfl, rfl⟩ := e
  rw [hkl] at hkl'
  injection hkl' with hkl'
  subst hkl'
  rw [atKey_put_same hm (lawP.key hkl)]
  simp
 ·have hne : kl' ≠ kl := fun h => by
   subst h
   have := lawP.inj hkl' hkl
   simp only [Value.agg.injEq, Array.mk.injEq, List.cons.injEq, Value.int.injEq, true_and, and_true] at this
   exact e this
  rw [atKey_put_other hne, hD x' y' kl' hkl']
  simp [e]
theorem member_call (vb mb n : Nat) (mem : Int → Int → Bool) (x y : Nat) (w : World) (hx : x ≤ 1000000) (hy : y ≤ 1000000) (hm : MapB w mb n mem) (hv : w.heap[vb]? = some (Obj.cells #[.map (some mb)] 73 (0, 0))) :
    Calls Tryz.prog 102 #[.int .i64 (x : Int), .int .i64 (y : Int), .pointer (some ⟨vb, 0, none⟩)] w fun e w' => e = .returned (.bool (mem x y)) ∧ w' = w := by
 have z0 := cell_of1 hv
 have hlk := hm.look (x := (x : Int)) (y := (y : Int)) (WalkArith.wf_i64 (by omega)) (WalkArith.wf_i64 (by omega))
 clear hv hm
 go_enter Tryz.func102, Tryz.ntmps102
 go_wp2_with fail
 go_ret
 exact ⟨rfl, rfl⟩
end Go.Proofs.YtcekilcgpgjooaaGreatDoor
