/- Proved here: contracts of the walk to BisimGraphs: moves of a flow, with what was asked; each under the conditions that its own statement names. -/
import Derived.Test.YtcekilcgpgjooaaGreatDoorG26
import Derived.Deep.LoopGhost
import Derived.Deep.QuietTactic
set_option maxRecDepth 100000
set_option maxHeartbeats 6400000
namespace Go.Proofs.YtcekilcgpgjooaaGreatDoor
open Go.RowKit
def Sub (X Y : Nat → Nat → Bool) : Prop := ∀ i j, X i j = true → Y i j = true
theorem Sub.refl (X : Nat → Nat → Bool) : Sub X X := fun _ _ h => h
theorem Sub.trans {X Y Z : Nat → Nat → Bool} (h : Sub X Y) (k : Sub Y Z) : Sub X Z := fun i j e => k i j (h i j e)
structure AsksT (B : Nat) (P : Nat → Prop) (I : (Nat → Nat → Bool) → World → Prop) (n m : Nat) (rel : Nat → Nat → Bool) (g : Nat) (lb : Array Value) : Prop where
 eg : ∀ args w, (callFunc g args).run Tryz.prog w = .ok (.enter g args) w
 pb : ∀ k, P k → k < B
 lt : ∀ X w, I X w → B ≤ w.heap.size
 same : ∀ X w w', I X w → Below B w w' → I X w'
 weak : ∀ X Y w, Sub X Y → I Y w → I X w
 le : ∀ X w, I X w → Sub X rel
 call : ∀ X (a b : Nat) w, a < n → b < m → I X w → Calls Tryz.prog g (#[.int .i64 (a : Int), .int .i64 (b : Int)] ++ lb) w fun e w' => e = .returned (.bool (rel a b)) ∧ (∃ Y, Sub X Y ∧ (rel a b = true → Y a b = true) ∧ I Y w') ∧ Kept P w w'
theorem AsksT.fix {B : Nat} {P : Nat → Prop} {I : (Nat → Nat → Bool) → World → Prop} {n m : Nat} {rel : Nat → Nat → Bool} {g : Nat} {lb : Array Value} (h : AsksT B P I n m rel g lb) (X : Nat → Nat → Bool) : Asks B P (I X) n m rel g lb :=
 ⟨h.eg, h.pb, h.lt X, h.same X, fun a b w ha hb hI => (h.call X a b w ha hb hI).mono (by rintro e w' ⟨h1, ⟨Y, hs, _, hY⟩, hk⟩; exact ⟨h1, h.weak X Y w' hs hY, hk⟩)⟩
theorem AsksT.drew {B : Nat} {P : Nat → Prop} {I : (Nat → Nat → Bool) → World → Prop} {n m : Nat} {rel : Nat → Nat → Bool} {g : Nat} {lb : Array Value} (h : AsksT B P I n m rel g lb) {X : Nat → Nat → Bool} {w : World} (hI : I X w) : I X w.drew := (h.fix X).drew hI
theorem AsksT.drewN {B : Nat} {P : Nat → Prop} {I : (Nat → Nat → Bool) → World → Prop} {n m : Nat} {rel : Nat → Nat → Bool} {g : Nat} {lb : Array Value} (h : AsksT B P I n m rel g lb) {X : Nat → Nat → Bool} {w : World} {k : Nat} (hI : I X w) : I X (w.drewN k) := (h.fix X).drewN hI
theorem AsksT.set {B : Nat} {P : Nat → Prop} {I : (Nat → Nat → Bool) → World → Prop} {n m : Nat} {rel : Nat → Nat → Bool} {g : Nat} {lb : Array Value} (h : AsksT B P I n m rel g lb) {X : Nat → Nat → Bool} {w : World} (hI : I X w) {p : Addr} (hp : B ≤ p.block) (v : Value) : I X (w.setCell p v) := (h.fix X).set hI hp v
theorem Part.weak {n m : Nat} {L R : Nat → Int} {X Y : Nat → Nat → Bool} {mv : Nat → Nat → Int} {le ri : Nat → Int} (h : Part n m L R X mv le ri) (hs : Sub X Y) : Part n m L R Y mv le ri :=
 ⟨h.mv0, fun a b ha hb hf => h.mvr a b ha hb (by cases e : X a b; · rfl
                                                 ·rw [hs a b e] at hf; cases hf), h.le0, h.ri0, h.rows, h.cols⟩
end Go.Proofs.YtcekilcgpgjooaaGreatDoor
namespace Go.Proofs.YtcekilcgpgjooaaGreatDoor
open Go.RowKit
open Go.Lib (hid)
theorem direct_anyT {B : Nat} {P : Nat → Prop} {I : (Nat → Nat → Bool) → World → Prop} {rel : Nat → Nat → Bool} {g : Nat} {lbv : Array Value} {D E : Value} {L R : Nat → Int} (x : Mv) (hA : AsksT B P I x.n x.m rel g lbv) (hx : x.Ok B) (hb : Sml x.n x.m L R)
    (X : Nat → Nat → Bool) (le ri : Nat → Int) (mv : Nat → Nat → Int) (w : World) (hI : I X w) (hm : MvIn x (.func (.func g) #[] lbv) D E w le ri mv) (hp : Part x.n x.m L R X mv le ri) :
    Calls Tryz.prog 133 #[x.ptr] w fun e w' => e = .returned (.tuple #[]) ∧ ∃ Y le' ri' mv', MvIn x (.func (.func g) #[] lbv) D E w' le' ri' mv' ∧ Part x.n x.m L R Y mv' le' ri' ∧ (I Y w' ∧ Sub X Y) ∧ Kept (fun k => P k ∨ B ≤ k) w w' := by
 have eg := hA.eg
 have HA := hid hA
 have HX := hid hx
 have HSm := hid hb
 obtain ⟨lb, rb, vb, n, m⟩ := x
 have hn1 : n ≤ 1000 := hb.hn
 have hm1 : m ≤ 1000 := hb.hm
 obtain ⟨c0, c1, c2, c3, c4, c5⟩ := cells6 hm.st
 have HM := hid hm
 have HP := hid hp
 have HI := hid hI
 clear hA hx hb hm hp hI
 simp only at c0 c1 c2 c3 c4 c5
 go_enter Tryz.func133, Tryz.ntmps133
 go_wp2_with fail
 go_loopw [10] (fun i wr => ∃ (k : Nat) (Y : Nat → Nat → Bool) (le ri : Nat → Int) (mv : Nat → Nat → Int), k ≤ n ∧ i = .int .i64 k ∧ MvIn ⟨lb, rb, vb, n, m⟩ (.func (.func g) #[] lbv) D E wr le ri mv ∧ Part n m L R Y mv le ri ∧ (I Y wr ∧ Sub X Y) ∧ Kept (fun k => P k ∨ B ≤ k) w wr) (fun i _ => n - (intOf i).toNat)
 case atStart => exact ⟨0, X, le, ri, mv, Nat.zero_le _, rfl, HM.out, HP.out, ⟨HI.out, Sub.refl _⟩, Kept.refl _ _⟩
 case round =>
  obtain ⟨k, Y1, le1, ri1, mv1, hk, rfl, hm1', hp1, hI1, hk1⟩ := hrel
  have HM1 := hid hm1'
  have HP1 := hid hp1
  have HI1 := hid hI1
  have HK1 := hid hk1
  clear hm1' hp1 hI1 hk1 c0 c1 c2 c3 c4 c5
  by_cases hlt : k < n
  ·go_wp2_with fail
   obtain ⟨wx, hwx⟩ : ∃ wx, wx = wr := ⟨_, rfl⟩
   rw [← hwx]
   rw [← hwx] at HM1 HI1 HK1
   clear hwx
   go_loopw [3] (fun j wr => ∃ (b : Nat) (Y : Nat → Nat → Bool) (le ri : Nat → Int) (mv : Nat → Nat → Int), b ≤ m ∧ j = .int .i64 b ∧ MvIn ⟨lb, rb, vb, n, m⟩ (.func (.func g) #[] lbv) D E wr le ri mv ∧ Part n m L R Y mv le ri ∧ (I Y wr ∧ Sub X Y) ∧ Kept (fun k => P k ∨ B ≤ k) w wr) (fun j _ => m - (intOf j).toNat)
   case atStart => exact ⟨0, Y1, le1, ri1, mv1, Nat.zero_le _, rfl, HM1.out, HP1.out, HI1.out, HK1.out⟩
   case round =>
    obtain ⟨b, Y2, le2, ri2, mv2, hbm, rfl, hm2, hp2, hI2, hk2⟩ := hrel
    clear HM1 HP1 HI1 HK1
    obtain ⟨c0, c1, c2, c3, c4, c5⟩ := cells6 hm2.st
    simp only at c0 c1 c2 c3 c4 c5
    have d0 := hm2.left.cell hlt
    have hle := hp2.le_L hlt
    have hLb := HSm.out.l k hlt
    simp only at d0 hle hLb
    obtain ⟨lv, hlv⟩ : ∃ lv, lv = le2 k := ⟨_, rfl⟩
    rw [← hlv] at d0 hle
    have HLV := hid hlv
    have HM2 := hid hm2
    have HP2 := hid hp2
    have HI2 := hid hI2
    have HK2 := hid hk2
    clear hlv hm2 hp2 hI2 hk2
    by_cases hbl : b < m
    ·by_cases hl0 : 0 < lv
     ·have d1 := HM2.out.right.cell hbl
      have hri := HP2.out.ri_R hbl
      have hRb := HSm.out.r b hbl
      simp only at d1 hri hRb
      obtain ⟨rv, hrv⟩ : ∃ rv, rv = ri2 b := ⟨_, rfl⟩
      rw [← hrv] at d1 hri
      have HRV := hid hrv
      clear hrv
      by_cases hr0 : 0 < rv
      ·have hcall := HA.out.call Y2 k b wr hlt hbl HI2.out.1
       cases hrel : rel k b
       ·rw [hrel] at hcall
        go_wp2_with (go_at_fn g; refine hcall.mono ?_; rintro e w3 ⟨rfl, ⟨Y3, hs3, ht3, hI3⟩, hk3⟩)
        have HM3 := hid (HM2.out.kept HX.out HA.out.pb hk3)
        have HK3 := hid (HK2.out.trans (hk3.mono (fun j _ h => Or.inl h)))
        go_roundw
        case rel => exact ⟨b + 1, Y3, le2, ri2, mv2, by omega, by go_num, HM3.out, HP2.out.weak hs3, ⟨hI3, HI2.out.2.trans hs3⟩, HK3.out⟩
        case measure => simp [intOf]; omega
       ·rw [hrel] at hcall
        have HREL := hid hrel
        clear hrel
        go_wp2_with (go_at_fn g; refine hcall.mono ?_; rintro e w3 ⟨rfl, ⟨Y3, hs3, ht3, hI3⟩, hk3⟩)
        have HM3 := hid (HM2.out.kept HX.out HA.out.pb hk3)
        have HK3 := hid (HK2.out.trans (hk3.mono (fun j _ h => Or.inl h)))
        have HI3 := hid hI3
        have HS3 := hid hs3
        have HT3 := hid (show Y3 k b = true from ht3 (by first | rfl | trivial | exact HREL.out))
        clear c0 c1 c2 c3 c4 c5 d0 d1 hI3 hk3 hcall hs3 ht3
        obtain ⟨c0, c1, c2, c3, c4, c5⟩ := cells6 HM3.out.st
        simp only at c0 c1 c2 c3 c4 c5
        have d0 := HM3.out.left.cell hlt
        have d1 := HM3.out.right.cell hbl
        have d2 := HM3.out.moved.cell hbl
        have d3 := (HM3.out.cols b hbl).cell hlt
        have f0 := HM3.out.left.frozen k
        simp only at d0 d1 d2 d3 f0
        rw [← HLV.out] at d0
        rw [← HRV.out] at d1
        obtain ⟨mvv, hmv⟩ : ∃ mvv, mvv = mv2 k b := ⟨_, rfl⟩
        have hmvb : 0 ≤ mvv ∧ mvv + lv ≤ L k := by rw [hmv, HLV.out]; have := HP2.out.mv_L hlt hbl; omega
        rw [← hmv] at d3
        have HMV := hid hmv
        clear hmv
        go_region
        obtain ⟨d, hd⟩ : ∃ d, d = (if rv < lv then rv else lv) := ⟨_, rfl⟩
        have hdb : 0 ≤ d ∧ d ≤ lv ∧ d ≤ rv := by rw [hd]; split <;> omega
        rw [← hd]
        clear hd
        obtain ⟨w4, hw4⟩ : ∃ w4, w4 = w3.drew := ⟨_, rfl⟩
        have HM4 := hid (show MvIn ⟨lb, rb, vb, n, m⟩ (.func (.func g) #[] lbv) D E w4 le2 ri2 mv2 by rw [hw4]; exact HM3.out.drew)
        have HI4 := hid (show I Y3 w4 by rw [hw4]; exact HA.out.drew HI3.out)
        have HK4 := hid (show Kept (fun k => P k ∨ B ≤ k) w w4 by rw [hw4]; exact HK3.out.drew)
        rw [← hw4]
        clear hw4 HM3 HI3 HK3 c0 c1 c2 c3 c4 c5 d0 d1 d2 d3 f0
        obtain ⟨c0, c1, c2, c3, c4, c5⟩ := cells6 HM4.out.st
        have d0 := HM4.out.left.cell hlt
        have d1 := HM4.out.right.cell hbl
        have d2 := HM4.out.moved.cell hbl
        have d3 := (HM4.out.cols b hbl).cell hlt
        have f0 := HM4.out.left.frozen k
        have f1 := HM4.out.right.frozen b
        have f2 := (HM4.out.cols b hbl).frozen k
        have hlbv := HX.out.lv
        have hrbv := HX.out.rv
        have hlrb := HX.out.lr
        simp only at c0 c1 c2 c3 c4 c5 d0 d1 d2 d3 f0 f1 f2 hlbv hrbv hlrb
        rw [← HLV.out] at d0
        rw [← HRV.out] at d1
        rw [← HMV.out] at d3
        go_wp2_with fail
        go_roundw
        case rel =>
         have hB1 := HX.out.l
         have hB2 := HX.out.r
         simp only at hB1 hB2
         exact ⟨b + 1, Y3, upd le2 k (lv - d), upd ri2 b (rv - d), upd2 mv2 k b (mvv + d), by omega, by go_num, ((HM4.out.setLeft HX.out k _).setRight HX.out b _).setMoved HX.out k _,
          (by rw [HLV.out, HRV.out, HMV.out]; exact (HP2.out.weak HS3.out).move hlt hbl HT3.out hdb.1 (by rw [← HLV.out]; exact hdb.2.1) (by rw [← HRV.out]; exact hdb.2.2)),
          ⟨HA.out.set (HA.out.set (HA.out.set HI4.out (by simp; omega) _) (by simp; omega) _) (by simp; omega) _, HI2.out.2.trans HS3.out⟩,
          ((HK4.out.set (Or.inl (Or.inr (by simp; omega))) _).set (Or.inl (Or.inr (by simp; omega))) _).set (Or.inl (Or.inr (by simp; omega))) _⟩
        case measure => simp [intOf]; omega
      ·go_wp2_with fail
       go_roundw
       case rel => exact ⟨b + 1, Y2, le2, ri2, mv2, by omega, by go_num, HM2.out, HP2.out, HI2.out, HK2.out⟩
       case measure => simp [intOf]; omega
     ·go_wp2_with fail
      go_roundw
      case rel => exact ⟨k + 1, Y2, le2, ri2, mv2, by omega, by go_num, HM2.out, HP2.out, HI2.out, HK2.out⟩
      case measure => simp [intOf]; omega
    ·go_wp2_with fail
     go_roundw
     case rel => exact ⟨k + 1, Y2, le2, ri2, mv2, by omega, by go_num, HM2.out, HP2.out, HI2.out, HK2.out⟩
     case measure => simp [intOf]; omega
  ·go_wp2_with fail
   go_end0
   exact ⟨rfl, Y1, le1, ri1, mv1, HM1.out, HP1.out, HI1.out, HK1.out⟩
end Go.Proofs.YtcekilcgpgjooaaGreatDoor
namespace Go.Proofs.YtcekilcgpgjooaaGreatDoor
open Go Go.RowKit
structure DEnvT (B base : Nat) (P : Nat → Prop) (I : (Nat → Nat → Bool) → World → Prop) (rel : Nat → Nat → Bool) (g : Nat) (lbv : Array Value) (y : Dfs) (ld rd : Nat → Int) (K : Int) : Prop where
 asks : AsksT B P I y.x.n y.x.m rel g lbv
 ok : DfOk y B base
 hn : y.x.n ≤ 1000
 hm : y.x.m ≤ 1000
 ldK : ∀ a, a < y.x.n → -1 ≤ ld a ∧ ld a ≤ K
 rdK : ∀ b, b < y.x.m → -1 ≤ rd b ∧ rd b ≤ 2000
 kk : K ≤ 2000
theorem DSt.weak {n m : Nat} {X Y : Nat → Nat → Bool} {ri : Nat → Int} {mv : Nat → Nat → Int} (h : DSt n m X ri mv) (hs : Sub X Y) : DSt n m Y ri mv :=
 ⟨h.mv0, fun a b ha hb hf => h.mvr a b ha hb (by cases e : X a b; · rfl
                                                 ·rw [hs a b e] at hf; cases hf), h.ri0, h.rows⟩
def BackCaseT (n m : Nat) (rel Y : Nat → Nat → Bool) (ld rd ri : Nat → Int) (mv : Nat → Nat → Int) (nr nl : Nat → Nat) (b : Nat) (v : Int) (ri' : Nat → Int) (mv' : Nat → Nat → Int) (nr' nl' : Nat → Nat) : Prop :=
 (v = 0 ∧ ri' = ri ∧ mv' = mv ∧ n ≤ nl' b ∧ (Dead n m rel ld rd ri mv nr nl → Dead n m rel ld rd ri mv nr' nl')) ∨ (0 < v ∧ FStep n m Y rd (rd b) (fun _ => 0) (one b (-v)) ri mv ri' mv')
def MoveCaseT (n m : Nat) (rel Y : Nat → Nat → Bool) (ld rd ri : Nat → Int) (mv : Nat → Nat → Int) (nr nl : Nat → Nat) (a : Nat) (v : Int) (ri' : Nat → Int) (mv' : Nat → Nat → Int) (nr' nl' : Nat → Nat) : Prop :=
 (v = 0 ∧ ri' = ri ∧ mv' = mv ∧ m ≤ nr' a ∧ (Dead n m rel ld rd ri mv nr nl → Dead n m rel ld rd ri mv nr' nl')) ∨ (0 < v ∧ FStep n m Y rd (ld a + 1) (one a v) (fun _ => 0) ri mv ri' mv')
theorem MoveCaseT.kp {n m : Nat} {rel Y : Nat → Nat → Bool} {ld rd ri : Nat → Int} {mv : Nat → Nat → Int} {nr nl : Nat → Nat} {a : Nat} {v : Int} {ri' : Nat → Int} {mv' : Nat → Nat → Int} {nr' nl' : Nat → Nat} (h : MoveCaseT n m rel Y ld rd ri mv nr nl a v ri' mv' nr' nl')
    {c b : Nat} (hc : c < n) (hb : b < m) (hl : rd b < ld a + 1) : mv' c b = mv c b := by
 rcases h with ⟨_, _, h, _⟩ | ⟨_, h⟩
 ·rw [h]
 ·exact h.kp c b hc hb hl
def BackPostT (B : Nat) (P : Nat → Prop) (I : (Nat → Nat → Bool) → World → Prop) (X rel : Nat → Nat → Bool) (fv : Value) (y : Dfs) (le ld rd ri : Nat → Int) (mv : Nat → Nat → Int) (b : Nat) (most : Int) (w : World) (nr nl : Nat → Nat) (e : Ending) (w' : World) : Prop :=
 ∃ (Y : Nat → Nat → Bool) (v : Int) (ri' : Nat → Int) (mv' : Nat → Nat → Int) (nr' nl' : Nat → Nat), e = .returned (.int .i64 v) ∧ DfIn y fv w' le ri' mv' ld rd nr' nl' ∧ (I Y w' ∧ Sub X Y) ∧ Kept (Qk P B) w w' ∧ NKeep y.x.n y.x.m ld rd (rd b) (rd b) nr nl nr' nl' ∧ 0 ≤ v ∧ v ≤ most ∧
  BackCaseT y.x.n y.x.m rel Y ld rd ri mv nr nl b v ri' mv' nr' nl'
def MovePostT (B : Nat) (P : Nat → Prop) (I : (Nat → Nat → Bool) → World → Prop) (X rel : Nat → Nat → Bool) (fv : Value) (y : Dfs) (le ld rd ri : Nat → Int) (mv : Nat → Nat → Int) (a : Nat) (most : Int) (w : World) (nr nl : Nat → Nat) (e : Ending) (w' : World) : Prop :=
 ∃ (Y : Nat → Nat → Bool) (v : Int) (ri' : Nat → Int) (mv' : Nat → Nat → Int) (nr' nl' : Nat → Nat), e = .returned (.int .i64 v) ∧ DfIn y fv w' le ri' mv' ld rd nr' nl' ∧ (I Y w' ∧ Sub X Y) ∧ Kept (Qk P B) w w' ∧ NKeep y.x.n y.x.m ld rd (ld a) (ld a + 1) nr nl nr' nl' ∧ 0 ≤ v ∧ v ≤ most ∧
  MoveCaseT y.x.n y.x.m rel Y ld rd ri mv nr nl a v ri' mv' nr' nl'
def MoveOkT (d : Nat) (B : Nat) (P : Nat → Prop) (I : (Nat → Nat → Bool) → World → Prop) (X0 rel : Nat → Nat → Bool) (fv : Value) (y : Dfs) (le ld rd ri : Nat → Int) (mv : Nat → Nat → Int) (K : Int) : Prop :=
 ∀ (X : Nat → Nat → Bool) (a : Nat) (most : Int) (w : World) (nr nl : Nat → Nat), Sub X0 X → a < y.x.n → K - ld a < d → 0 < most → most ≤ 1152921504606846976 → I X w → DfIn y fv w le ri mv ld rd nr nl → (∀ i, i < y.x.n → nr i ≤ y.x.m) → (∀ b, b < y.x.m → nl b ≤ y.x.n) →
  Calls Tryz.prog 165 #[.int .i64 (a : Int), .int .i64 most, .pointer (some ⟨y.q2, 0, none⟩), .pointer (some ⟨y.pb, 0, none⟩), .pointer (some ⟨y.q5, 0, none⟩)] w (MovePostT B P I X rel fv y le ld rd ri mv a most w nr nl)
def BackOkT (d : Nat) (B : Nat) (P : Nat → Prop) (I : (Nat → Nat → Bool) → World → Prop) (X0 rel : Nat → Nat → Bool) (fv : Value) (y : Dfs) (le ld rd ri : Nat → Int) (mv : Nat → Nat → Int) (K : Int) : Prop :=
 ∀ (X : Nat → Nat → Bool) (b : Nat) (most : Int) (w : World) (nr nl : Nat → Nat), Sub X0 X → b < y.x.m → K - rd b < d → 0 < most → most ≤ 1152921504606846976 → I X w → DfIn y fv w le ri mv ld rd nr nl → (∀ i, i < y.x.n → nr i ≤ y.x.m) → (∀ b, b < y.x.m → nl b ≤ y.x.n) →
  Calls Tryz.prog 164 #[.int .i64 (b : Int), .int .i64 most, .pointer (some ⟨y.q3, 0, none⟩), .pointer (some ⟨y.pb, 0, none⟩), .pointer (some ⟨y.q4, 0, none⟩)] w (BackPostT B P I X rel fv y le ld rd ri mv b most w nr nl)
end Go.Proofs.YtcekilcgpgjooaaGreatDoor
namespace Go.Proofs.YtcekilcgpgjooaaGreatDoor
open Go Go.RowKit
open Go.Lib (hid)
theorem back_anyT {B base : Nat} {P : Nat → Prop} {I : (Nat → Nat → Bool) → World → Prop} {X0 : Nat → Nat → Bool} {rel : Nat → Nat → Bool} {g : Nat} {lbv : Array Value} {y : Dfs} {ld rd : Nat → Int} {K : Int} (E : DEnvT B base P I rel g lbv y ld rd K) {le ri : Nat → Int} {mv : Nat → Nat → Int}
    (hS : DSt y.x.n y.x.m X0 ri mv) {d : Nat} (hM : MoveOkT d B P I X0 rel (.func (.func g) #[] lbv) y le ld rd ri mv K) : BackOkT d B P I X0 rel (.func (.func g) #[] lbv) y le ld rd ri mv K := by
 intro X b most w nr nl hX hb hK hm0 hm1 hI hd hnr hnl
 have HE := hid E
 have HS := hid hS
 have HM := hid hM
 have HD := hid hd
 have HI := hid hI
 have HX := hid hX
 have HK0 := hid (NKeep.mk (n := y.x.n) (m := y.x.m) (ld := ld) (rd := rd) (t := rd b) (t' := rd b) (nr := nr) (nl := nl) (fun _ _ _ => rfl) (fun _ _ _ => rfl) hnr hnl)
 have hn1 := E.hn
 have hm2 := E.hm
 have hrb := E.rdK b hb
 obtain ⟨⟨lb, rb, vb, n, m⟩, db, eb, pb, q2, q3, q4, q5, nrb, nlb⟩ := y
 simp only at hb hn1 hm2
 clear E hS hM hd hI hnr hnl hX
 go_enter Tryz.func164, Tryz.ntmps164
 go_wp2_with fail
 go_loopg [8] (n - nl b) (fun gg _ wr => ∃ Y nr' nl', n - nl' b ≤ gg ∧ DfIn ⟨⟨lb, rb, vb, n, m⟩, db, eb, pb, q2, q3, q4, q5, nrb, nlb⟩ (.func (.func g) #[] lbv) wr le ri mv ld rd nr' nl' ∧ (I Y wr ∧ Sub X Y) ∧ Kept (Qk P B) w wr ∧ NKeep n m ld rd (rd b) (rd b) nr nl nr' nl' ∧ (Dead n m rel ld rd ri mv nr nl → Dead n m rel ld rd ri mv nr' nl'))
 case atStart => exact ⟨X, nr, nl, Nat.le_refl _, HD.out, ⟨HI.out, Sub.refl _⟩, Kept.refl _ _, HK0.out, fun h => h⟩
 case round =>
  obtain ⟨Y1, nr1, nl1, hgg, hd1, hI1, hk1, hnk1, hdd1⟩ := hrel
  have HD1 := hid hd1
  have HI1 := hid hI1
  have HK1 := hid hk1
  have HN1 := hid hnk1
  have HDD := hid hdd1
  have hcm := hnk1.lb b hb
  clear hd1 hI1 hk1 hnk1 hdd1 HD HI HK0
  obtain ⟨c, hc⟩ : ∃ c, c = nl1 b := ⟨_, rfl⟩
  have k0 := cell_of1 HD1.out.bp
  have k3 := cell_of1 HD1.out.b3
  have k4 := cell_of1 HD1.out.b4
  obtain ⟨c0, c1, c2, c3, c4, c5⟩ := cells6 HD1.out.d.m.st
  have e0 := HD1.out.ln.cell hb
  have e1 := HD1.out.d.r.cell hb
  have e2 := HD1.out.d.m.moved.cell hb
  have e3 := HD1.out.ln.frozen b
  simp only at k0 k3 k4 c0 c1 c2 c3 c4 c5 e0 e1 e2 e3
  rw [← hc] at e0 hgg hcm
  have HC := hid hc
  clear hc
  by_cases hcn : c < n
  ·have e4 := HD1.out.d.l.cell hcn
   have e5 := (HD1.out.d.m.cols b hb).cell hcn
   simp only at e4 e5
   obtain ⟨lc, hlc⟩ : ∃ lc, lc = ld c := ⟨_, rfl⟩
   obtain ⟨rdb, hrdb⟩ : ∃ rdb, rdb = rd b := ⟨_, rfl⟩
   obtain ⟨mc, hmc⟩ : ∃ mc, mc = mv c b := ⟨_, rfl⟩
   rw [← hlc] at e4
   rw [← hrdb] at e1
   rw [← hmc] at e5
   have HLC := hid hlc
   have HRB := hid hrdb
   have HMC := hid hmc
   clear hlc hrdb hmc
   go_wp2_with fail
   go_quiet (fail)
   go_wp2_with fail
   have hoke := HE.out.ok
   have o1 := hoke.nl
   have o2 := hoke.ne
   have o3 := hoke.l1
   have o4 := hoke.l3
   have o5 := hoke.o.o.l
   have o6 := hoke.o.o.lv
   have o7 := hoke.o.d
   have o8 := hoke.o.dt
   simp only at o1 o2 o3 o4 o5 o6 o7 o8
   clear hoke
   by_cases hlr : lc = rdb
   rotate_left
   ·go_quiet (fail)
    go_wp2_with fail
    go_roundg (n - (c + 1))
    case measure => omega
    case rel => exact ⟨Y1, nr1, updN nl1 b (nl1 b + 1), by rw [updN_same, ← HC.out]; omega, (HD1.out.drewN _).setNl HE.out.ok b _ (by rw [← HC.out]; omega), ⟨HE.out.asks.set (HE.out.asks.drewN HI1.out.1) (by simp; omega) _, HI1.out.2⟩, HK1.out.drewN.set (Or.inl (Or.inr (by simp; omega))) _, HN1.out.left (Int.le_refl _) (by rw [← HC.out]; omega), fun h => (HDD.out h).left (fun h1 _ => by rw [← HC.out, ← HLC.out, ← HRB.out] at h1; exact absurd h1 hlr)⟩
   by_cases hmz : mc = 0
   ·subst hmz
    subst hlr
    go_quiet (fail)
    go_wp2_with fail
    go_roundg (n - (c + 1))
    case measure => omega
    case rel => exact ⟨Y1, nr1, updN nl1 b (nl1 b + 1), by rw [updN_same, ← HC.out]; omega, (HD1.out.drewN _).setNl HE.out.ok b _ (by rw [← HC.out]; omega), ⟨HE.out.asks.set (HE.out.asks.drewN HI1.out.1) (by simp; omega) _, HI1.out.2⟩, HK1.out.drewN.set (Or.inl (Or.inr (by simp; omega))) _, HN1.out.left (Int.le_refl _) (by rw [← HC.out]; omega), fun h => (HDD.out h).left (fun _ h2 => by rw [← HC.out, ← HMC.out] at h2; omega)⟩
   subst hlr
   go_quiet (fail)
   go_wp2_with fail
   generalize hwz : wr.drewN _ = wz
   have HDZ := hid (show DfIn ⟨⟨lb, rb, vb, n, m⟩, db, eb, pb, q2, q3, q4, q5, nrb, nlb⟩ (.func (.func g) #[] lbv) wz le ri mv ld rd nr1 nl1 by rw [← hwz]; exact HD1.out.drewN _)
   have HIZ := hid (show I Y1 wz by rw [← hwz]; exact HE.out.asks.drewN HI1.out.1)
   have HX1 := hid HI1.out.2
   have HKZ := hid (show Kept (Qk P B) w wz by rw [← hwz]; exact HK1.out.drewN)
   have hmc1 := HS.out.mv1 hcn hb
   rw [← HMC.out] at hmc1
   have hmcp : 0 < mc := by omega
   have HCK := hid (show K - ld c < d by have := HLC.out; have := HRB.out; omega)
   have HQL := hid (show rd b < ld c + 1 by have := HLC.out; have := HRB.out; omega)
   have HMc := hid (fun x mo (h1 : 0 < mo) (h2 : mo ≤ 1152921504606846976) (hd : DfIn ⟨⟨lb, rb, vb, n, m⟩, db, eb, pb, q2, q3, q4, q5, nrb, nlb⟩ (.func (.func g) #[] lbv) x le ri mv ld rd nr1 nl1) (hi : I Y1 x) => HM.out Y1 c mo x nr1 nl1 (HX.out.trans HX1.out) hcn HCK.out h1 h2 hi hd HN1.out.rb HN1.out.lb)
   clear hwz hmz k0 k3 k4 c0 c1 c2 c3 c4 c5 e0 e1 e2 e3 e4 e5 HD1 HI1 HK1
   have k0 := cell_of1 HDZ.out.bp
   have k4 := cell_of1 HDZ.out.b4
   obtain ⟨c0, c1, c2, c3, c4, c5⟩ := cells6 HDZ.out.d.m.st
   have e2 := HDZ.out.d.m.moved.cell hb
   have e5 := (HDZ.out.d.m.cols b hb).cell hcn
   simp only at k0 k4 c0 c1 c2 c3 c4 c5 e2 e5
   rw [← HMC.out] at e5
   rcases Int.lt_or_le mc most with hmn | hmn
   all_goals (
    go_region_held3 (fun x : World => x.cell? ⟨q4, 0, none⟩ = some (Dfs.fnM ⟨⟨lb, rb, vb, n, m⟩, db, eb, pb, q2, q3, q4, q5, nrb, nlb⟩) ∧ x.cell? ⟨pb, 0, none⟩ = some (.pointer (some ⟨vb + 1, 0, none⟩)) ∧ x.cell? ⟨vb + 1, 3, none⟩ = some (.slice (some ⟨vb, 0, none⟩) m m) ∧ x.cell? ⟨vb, b, none⟩ = some (.slice (some ⟨vb + 2 + b, 0, none⟩) n n) ∧ x.cell? ⟨vb + 2 + b, c, none⟩ = some (.int .i64 mc)) (first | exact ⟨k4, k0, c3, e2, e5⟩ | exact ⟨z4, z0, z3, z2, z5⟩) (first | (go_at_call 165; refine (HMc.out _ _ (by first | omega | (split <;> omega)) (by first | omega | (split <;> omega)) (HDZ.out.drewN _) (HE.out.asks.drewN HIZ.out)).mono ?_; rintro e w2 ⟨Y2, v, ri2, mv2, nr2, nl2, rfl, hd2, hI2, hk2, hn2, hv0, hvm, hcase⟩; have HCASE := hid hcase; clear hcase; have HQ := hid ((HCASE.out.kp hcn hb HQL.out).trans HMC.out.symm); have z4 := cell_of1 hd2.b4; have z0 := cell_of1 hd2.bp; obtain ⟨_, _, _, z3, _, _⟩ := cells6 hd2.d.m.st; have z2 := hd2.d.m.moved.cell hb; have z5 := (hd2.d.m.cols b hb).cell hcn; simp only at z4 z0 z3 z2 z5; rw [HQ.out] at z5))
    have hvb : v ≤ mc ∧ v ≤ most := by first | omega | (split at hvm <;> omega)
    have HKK := hid (HKZ.out.drewN.trans hk2)
    have HD2 := hid hd2
    have HI2 := hid hI2
    have HN2 := hid (HN1.out.trans hn2 (by have := HLC.out; have := HRB.out; omega) (by have := HLC.out; have := HRB.out; omega))
    have HNL := hid (show nl2 b = c by rw [hn2.l b hb HQL.out]; exact HC.out.symm)
    clear hvm hd2 hI2 hk2 hn2
    have z1 := cell_of1 HD2.out.b3
    have z6 := HD2.out.ln.cell hb
    have z7 := HD2.out.ln.frozen b
    have z8 := (HD2.out.d.m.cols b hb).frozen c
    simp only at z1 z6 z7 z8
    rw [HNL.out] at z6
    by_cases hv : 0 < v
    ·go_wp2_with fail
     go_ret
     rcases HCASE.out with ⟨h, _⟩ | ⟨_, hf⟩
     ·omega
     exact ⟨Y2, v, ri2, upd2 mv2 c b (mc - v), nr2, nl2, rfl, HD2.out.setMoved HE.out.ok hb c _, ⟨HE.out.asks.set HI2.out.1 (by simp; omega) _, HX1.out.trans HI2.out.2⟩, HKK.out.set (Or.inl (Or.inr (by simp; omega))) _, HN2.out, hv0, hvb.2,
      Or.inr ⟨hv, (by have h := hf.col hcn hb (by have := HLC.out; have := HRB.out; omega) hv0 (by rw [← HMC.out]; exact hvb.1); rw [HQ.out] at h; exact h)⟩⟩
    ·have hvz : v = 0 := by omega
     subst hvz
     go_wp2_with fail
     rcases HCASE.out with ⟨_, rfl, rfl, hmn, hdd⟩ | ⟨h, _⟩
     ·go_roundg (n - (c + 1))
      case measure => omega
      case rel => exact ⟨Y2, nr2, updN nl2 b (nl2 b + 1), by rw [updN_same, HNL.out]; omega, HD2.out.setNl HE.out.ok b _ (by rw [HNL.out]; omega), ⟨HE.out.asks.set HI2.out.1 (by simp; omega) _, HX1.out.trans HI2.out.2⟩, HKK.out.set (Or.inl (Or.inr (by simp; omega))) _, HN2.out.left (Int.le_refl _) (by rw [HNL.out]; omega), fun h => (hdd (HDD.out h)).left (fun _ _ => by rw [HNL.out]; exact (hdd (HDD.out h)).row hmn)⟩
     ·omega)
  ·have HNZ := hid (show n ≤ nl1 b by rw [← HC.out]; omega)
   go_wp2_with fail
   go_quiet (fail)
   go_wp2_with fail
   go_ret
   exact ⟨Y1, 0, ri, mv, nr1, nl1, rfl, HD1.out.drewN _, ⟨HE.out.asks.drewN HI1.out.1, HI1.out.2⟩, HK1.out.drewN, HN1.out, Int.le_refl _, by omega, Or.inl ⟨rfl, rfl, rfl, HNZ.out, HDD.out⟩⟩
end Go.Proofs.YtcekilcgpgjooaaGreatDoor
