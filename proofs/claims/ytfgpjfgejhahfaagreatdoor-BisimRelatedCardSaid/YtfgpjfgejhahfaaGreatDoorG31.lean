/-
  Proved here: contracts of the walk to BisimRelated: moveAlongPaths, its loop; each under the conditions that its own statement names.
-/
import Derived.Test.YtfgpjfgejhahfaaGreatDoorG30
namespace Go.Proofs.YtfgpjfgejhahfaaGreatDoor
open Go Go.RowKit

set_option maxRecDepth 100000 in
set_option maxHeartbeats 6400000 in
theorem move_any {B base : Nat} {P : Nat → Prop} {I : World → Prop} {rel : Nat → Nat → Bool} {g : Nat} {lbv : Array Value} {y : Dfs} {ld rd : Nat → Int} {K : Int} (E : DEnv B base P I rel g lbv y ld rd K) {le ri : Nat → Int} {mv : Nat → Nat → Int}
    (hS : DSt y.x.n y.x.m rel ri mv) {d : Nat} (hT : BackOk d B P I rel (.func (.func g) #[] lbv) y le ld rd ri mv K) : MoveOk (d + 1) B P I rel (.func (.func g) #[] lbv) y le ld rd ri mv K := by
  intro a most w nr nl ha hK hm0 hm1 hI hd hnr hnl
  have HE := Lib.hid E
  have HS := Lib.hid hS
  have HT := Lib.hid hT
  have HD := Lib.hid hd
  have HI := Lib.hid hI
  have HK0 := Lib.hid (NKeep.mk (n := y.x.n) (m := y.x.m) (ld := ld) (rd := rd) (t := ld a) (t' := ld a + 1) (nr := nr) (nl := nl) (fun _ _ _ => rfl) (fun _ _ _ => rfl) hnr hnl)
  have hn1 := E.hn
  have hm2 := E.hm
  have hla := E.ldK a ha
  have hkk := E.kk
  have eg := E.asks.eg
  obtain ⟨⟨lb, rb, vb, n, m⟩, db, eb, pb, q2, q3, q4, q5, nrb, nlb⟩ := y
  simp only at ha hn1 hm2
  clear E hS hT hd hI hnr hnl
  obtain ⟨la, hlaa⟩ : ∃ la, la = ld a := ⟨_, rfl⟩
  have HLA := Lib.hid hlaa
  rw [← hlaa] at hla hK
  clear hlaa
  go_enter Tryz.func170, Tryz.ntmps170
  go_wp2_with fail
  go_loopg [8] (m - nr a) (fun gg _ wr => ∃ nr' nl', m - nr' a ≤ gg ∧ DfIn ⟨⟨lb, rb, vb, n, m⟩, db, eb, pb, q2, q3, q4, q5, nrb, nlb⟩ (.func (.func g) #[] lbv) wr le ri mv ld rd nr' nl' ∧ I wr ∧ Kept (Qk P B) w wr ∧ NKeep n m ld rd (ld a) (ld a + 1) nr nl nr' nl' ∧ (Dead n m rel ld rd ri mv nr nl → Dead n m rel ld rd ri mv nr' nl'))
  case atStart => exact ⟨nr, nl, Nat.le_refl _, HD.out, HI.out, Kept.refl _ _, HK0.out, fun h => h⟩
  case round =>
    obtain ⟨nr1, nl1, hgg, hd1, hI1, hk1, hnk1, hdd1⟩ := hrel
    have HD1 := Lib.hid hd1
    have HI1 := Lib.hid hI1
    have HK1 := Lib.hid hk1
    have HN1 := Lib.hid hnk1
    have HDD := Lib.hid hdd1
    have hbm := hnk1.rb a ha
    clear hd1 hI1 hk1 hnk1 hdd1 HD HI HK0
    obtain ⟨b, hc⟩ : ∃ b, b = nr1 a := ⟨_, rfl⟩
    have k0 := cell_of1 HD1.out.bp
    have k2 := cell_of1 HD1.out.b2
    obtain ⟨c0, c1, c2, c3, c4, c5⟩ := cells6 HD1.out.d.m.st
    have e0 := HD1.out.rn.cell ha
    have e1 := HD1.out.d.l.cell ha
    have e3 := HD1.out.rn.frozen a
    simp only at k0 k2 c0 c1 c2 c3 c4 c5 e0 e1 e3
    rw [← hc] at e0 hgg hbm
    rw [← HLA.out] at e1
    have HC := Lib.hid hc
    clear hc
    have hoke := HE.out.ok
    have o1 := hoke.nr
    have o2 := hoke.ne
    have o3 := hoke.r1
    have o4 := hoke.r2
    have o5 := hoke.o.o.l
    have o6 := hoke.o.o.lv
    have o7 := hoke.o.d
    have o8 := hoke.o.dt
    have o9 := hoke.o.o.r
    have o10 := hoke.o.o.rv
    have o11 := hoke.p
    have o12 := hoke.q5
    simp only at o1 o2 o3 o4 o5 o6 o7 o8 o9 o10 o11 o12
    clear hoke
    by_cases hbl : b < m
    rotate_left
    · have HNZ := Lib.hid (show m ≤ nr1 a by rw [← HC.out]; omega)
      go_wp2_with fail
      go_quiet (fail)
      go_wp2_with fail
      go_ret
      exact ⟨0, ri, mv, nr1, nl1, rfl, HD1.out.drewN _, HE.out.asks.drewN HI1.out, HK1.out.drewN, HN1.out, Int.le_refl _, by omega, Or.inl ⟨rfl, rfl, rfl, HNZ.out, HDD.out⟩⟩
    have e4 := HD1.out.d.r.cell hbl
    have hrdb := HE.out.rdK b hbl
    simp only at e4 hrdb
    obtain ⟨rdb, hrb⟩ : ∃ rdb, rdb = rd b := ⟨_, rfl⟩
    rw [← hrb] at e4 hrdb
    have HRB := Lib.hid hrb
    clear hrb
    go_wp2_with fail
    go_quiet (fail)
    go_wp2_with fail
    by_cases hlr : rdb = la + 1
    rotate_left
    · have hwr : IntKind.i64.wrap (la + 1) = la + 1 := IntWalk.i64_in _ ⟨by omega, by omega⟩
      have hnb : (rdb != la + 1) = true := by simpa using hlr
      go_quiet (fail)
      go_wp2_with fail
      go_roundg (m - (b + 1))
      case measure => omega
      case rel => exact ⟨updN nr1 a (nr1 a + 1), nl1, by rw [updN_same, ← HC.out]; omega, (HD1.out.drewN _).setNr HE.out.ok a _ (by rw [← HC.out]; omega), HE.out.asks.set (HE.out.asks.drewN HI1.out) (by simp; omega) _, HK1.out.drewN.set (Or.inl (Or.inr (by simp; omega))) _, HN1.out.right (Int.le_refl _) (by rw [← HC.out]; omega), fun h => (HDD.out h).right (fun h1 _ => by rw [← HC.out, ← HLA.out, ← HRB.out] at h1; exact absurd h1 hlr)⟩
    subst hlr
    generalize hwz : wr.drewN _ = wz
    have HDZ := Lib.hid (show DfIn ⟨⟨lb, rb, vb, n, m⟩, db, eb, pb, q2, q3, q4, q5, nrb, nlb⟩ (.func (.func g) #[] lbv) wz le ri mv ld rd nr1 nl1 by rw [← hwz]; exact HD1.out.drewN _)
    have HIZ := Lib.hid (show I wz by rw [← hwz]; exact HE.out.asks.drewN HI1.out)
    have HKZ := Lib.hid (show Kept (Qk P B) w wz by rw [← hwz]; exact HK1.out.drewN)
    clear hwz k0 k2 c0 c1 c2 c3 c4 c5 e0 e1 e3 e4 HD1 HI1 HK1
    have k0 := cell_of1 HDZ.out.bp
    obtain ⟨c0, c1, c2, c3, c4, c5⟩ := cells6 HDZ.out.d.m.st
    have e1 := HDZ.out.d.l.cell ha
    have e4 := HDZ.out.d.r.cell hbl
    simp only at k0 c0 c1 c2 c3 c4 c5 e1 e4
    rw [← HLA.out] at e1
    rw [← HRB.out] at e4
    have HCL := Lib.hid (fun x (hi : I x) => HE.out.asks.call a b x ha hbl hi)
    have hwr : IntKind.i64.wrap (la + 1) = la + 1 := IntWalk.i64_in _ ⟨by omega, by omega⟩
    cases hrel : rel a b
    · have HREL := Lib.hid hrel
      rw [hrel] at HCL
      clear hrel
      go_region_held3 (fun x : World => x.cell? ⟨pb, 0, none⟩ = some (.pointer (some ⟨vb + 1, 0, none⟩)) ∧ x.cell? ⟨vb + 1, 0, none⟩ = some (.func (.func g) #[] lbv) ∧ x.cell? ⟨vb + 1, 4, none⟩ = some (.slice (some ⟨db, 0, none⟩) n n) ∧ x.cell? ⟨vb + 1, 5, none⟩ = some (.slice (some ⟨eb, 0, none⟩) m m) ∧ x.cell? ⟨db, a, none⟩ = some (.int .i64 la) ∧ x.cell? ⟨eb, b, none⟩ = some (.int .i64 (la + 1))) (first | exact ⟨k0, c0, c4, c5, e1, e4⟩ | exact ⟨z0, y0, y4, y5, z1, z4⟩) (first | (go_at_fn g; refine (HCL.out _ (HE.out.asks.drewN HIZ.out)).mono ?_; rintro e w2 ⟨rfl, hI2, hk2⟩; have hd2 := (HDZ.out.drewN _).kept HE.out.ok HE.out.asks.pb hk2; have HD2 := Lib.hid hd2; have HI2 := Lib.hid hI2; have HK2 := Lib.hid (HKZ.out.drewN.trans (hk2.mono (fun _ _ h => Or.inl h))); clear hd2 hI2 hk2; have z0 := cell_of1 HD2.out.bp; obtain ⟨y0, y1, y2, y3, y4, y5⟩ := cells6 HD2.out.d.m.st; have z1 := HD2.out.d.l.cell ha; have z4 := HD2.out.d.r.cell hbl; simp only at z0 y0 y1 y2 y3 y4 y5 z1 z4; rw [← HLA.out] at z1; rw [← HRB.out] at z4))
      have z2 := cell_of1 HD2.out.b2
      have z3 := HD2.out.rn.cell ha
      have z5 := HD2.out.rn.frozen a
      simp only at z2 z3 z5
      rw [← HC.out] at z3
      go_wp2_with fail
      go_roundg (m - (b + 1))
      case measure => omega
      case rel => exact ⟨updN nr1 a (nr1 a + 1), nl1, by rw [updN_same, ← HC.out]; omega, HD2.out.setNr HE.out.ok a _ (by rw [← HC.out]; omega), HE.out.asks.set HI2.out (by simp; omega) _, HK2.out.set (Or.inl (Or.inr (by simp; omega))) _, HN1.out.right (Int.le_refl _) (by rw [← HC.out]; omega), fun h => (HDD.out h).right (fun _ h2 => by rw [← HC.out, HREL.out] at h2; cases h2)⟩
    · have HREL := Lib.hid hrel
      rw [hrel] at HCL
      clear hrel
      go_region_held3 (fun x : World => x.cell? ⟨pb, 0, none⟩ = some (.pointer (some ⟨vb + 1, 0, none⟩)) ∧ x.cell? ⟨vb + 1, 0, none⟩ = some (.func (.func g) #[] lbv) ∧ x.cell? ⟨vb + 1, 4, none⟩ = some (.slice (some ⟨db, 0, none⟩) n n) ∧ x.cell? ⟨vb + 1, 5, none⟩ = some (.slice (some ⟨eb, 0, none⟩) m m) ∧ x.cell? ⟨db, a, none⟩ = some (.int .i64 la) ∧ x.cell? ⟨eb, b, none⟩ = some (.int .i64 (la + 1))) (first | exact ⟨k0, c0, c4, c5, e1, e4⟩ | exact ⟨z0, y0, y4, y5, z1, z4⟩) (first | (go_at_fn g; refine (HCL.out _ (HE.out.asks.drewN HIZ.out)).mono ?_; rintro e w2 ⟨rfl, hI2, hk2⟩; have hd2 := (HDZ.out.drewN _).kept HE.out.ok HE.out.asks.pb hk2; have HD2 := Lib.hid hd2; have HI2 := Lib.hid hI2; have HK2 := Lib.hid (HKZ.out.drewN.trans (hk2.mono (fun _ _ h => Or.inl h))); clear hd2 hI2 hk2; have z0 := cell_of1 HD2.out.bp; obtain ⟨y0, y1, y2, y3, y4, y5⟩ := cells6 HD2.out.d.m.st; have z1 := HD2.out.d.l.cell ha; have z4 := HD2.out.d.r.cell hbl; simp only at z0 y0 y1 y2 y3 y4 y5 z1 z4; rw [← HLA.out] at z1; rw [← HRB.out] at z4))
      have z6 := HD2.out.d.m.right.cell hbl
      have z7 := HD2.out.d.m.right.frozen b
      have z8 := HD2.out.d.m.moved.cell hbl
      have z9 := (HD2.out.d.m.cols b hbl).cell ha
      have z10 := (HD2.out.d.m.cols b hbl).frozen a
      have z11 := cell_of1 HD2.out.b5
      simp only at z6 z7 z8 z9 z10 z11
      obtain ⟨rv, hrv⟩ : ∃ rv, rv = ri b := ⟨_, rfl⟩
      obtain ⟨mva, hmva⟩ : ∃ mva, mva = mv a b := ⟨_, rfl⟩
      have hrvb := HS.out.ri0 b hbl
      have hmvb := HS.out.mv1 ha hbl
      rw [← hrv] at z6 hrvb
      rw [← hmva] at z9 hmvb
      have HRV := Lib.hid hrv
      have HMV := Lib.hid hmva
      have HKB := Lib.hid (show K - rd b < d by have := HRB.out; omega)
      have HLB := Lib.hid (show ld a + 1 ≤ rd b by have := HRB.out; have := HLA.out; omega)
      clear hrv hmva
      by_cases hr0 : rv = 0
      · subst hr0
        have HD3 := Lib.hid (show DfIn ⟨⟨lb, rb, vb, n, m⟩, db, eb, pb, q2, q3, q4, q5, nrb, nlb⟩ (.func (.func g) #[] lbv) (w2.setCell ⟨rb, b, none⟩ (.int .i64 0)) le ri mv ld rd nr1 nl1 by
          have h := HD2.out.setRight HE.out.ok b 0
          rwa [show upd ri b 0 = ri from funext (fun j => by
            by_cases e : j = b
            · rw [e, upd_same]; exact HRV.out
            · rw [upd_other e])] at h)
        have HI3 := Lib.hid (show I (w2.setCell ⟨rb, b, none⟩ (.int .i64 0)) from HE.out.asks.set HI2.out (by simp; omega) _)
        have HK3 := Lib.hid (show Kept (Qk P B) w (w2.setCell ⟨rb, b, none⟩ (.int .i64 0)) from HK2.out.set (Or.inl (Or.inr (by simp; omega))) _)
        go_wp2_with fail
        refine (HT.out b most _ nr1 nl1 hbl HKB.out hm0 hm1 HI3.out HD3.out HN1.out.rb HN1.out.lb).mono ?_
        rintro e w4 ⟨v, ri2, mv2, nr2, nl2, rfl, hd4, hI4, hk4, hn4, hv0, hvm, hcase⟩
        have HD4 := Lib.hid hd4
        have HI4 := Lib.hid hI4
        have HK4 := Lib.hid (HK3.out.trans hk4)
        have HN4 := Lib.hid (HN1.out.trans hn4 (by have := HLB.out; omega) HLB.out)
        have HNR := Lib.hid (show nr2 a = b by rw [hn4.r a ha (by have := HLB.out; omega)]; exact HC.out.symm)
        have HCASE := Lib.hid hcase
        clear hd4 hI4 hk4 hn4 hcase k0 c0 c1 c2 c3 c4 c5 e1 e4 z0 y0 y1 y2 y3 y4 y5 z1 z4 z6 z7 z8 z9 z10 z11
        have z0 := cell_of1 HD4.out.bp
        obtain ⟨y0, y1, y2, y3, y4, y5⟩ := cells6 HD4.out.d.m.st
        have z2 := cell_of1 HD4.out.b2
        have z3 := HD4.out.rn.cell ha
        have z5 := HD4.out.rn.frozen a
        have z8 := HD4.out.d.m.moved.cell hbl
        have z9 := (HD4.out.d.m.cols b hbl).cell ha
        have z10 := (HD4.out.d.m.cols b hbl).frozen a
        simp only at z0 y0 y1 y2 y3 y4 y5 z2 z3 z5 z8 z9 z10
        rw [HNR.out] at z3
        by_cases hv : 0 < v
        · rcases HCASE.out with ⟨h, _⟩ | ⟨_, hf⟩
          · omega
          obtain ⟨mv4, hmv4⟩ : ∃ mv4, mv4 = mv2 a b := ⟨_, rfl⟩
          have hmv4b : 0 ≤ mv4 ∧ mv4 ≤ 1152921504606846976 := by
            rw [hmv4]
            have h1 : sumN (fun b => mv2 a b) m = sumN (fun b => mv a b) m + 0 := hf.rows a ha
            have h2 : sumN (fun b => mv a b) m ≤ 1152921504606846976 := HS.out.rows a ha
            have h3 : mv2 a b ≤ sumN (fun b => mv2 a b) m := sumN_elem (f := fun b => mv2 a b) (fun b hb => hf.mv0 a b ha hb) hbl
            have h4 := hf.mv0 a b ha hbl
            omega
          rw [← hmv4] at z9
          have HF4 := Lib.hid hf
          have HM4 := Lib.hid hmv4
          clear hf hmv4
          go_wp2_with fail
          go_ret
          exact ⟨v, ri2, upd2 mv2 a b (mv4 + v), nr2, nl2, rfl, HD4.out.setMoved HE.out.ok hbl a _, HE.out.asks.set HI4.out (by simp; omega) _, HK4.out.set (Or.inl (Or.inr (by simp; omega))) _, HN4.out, hv0, hvm, Or.inr ⟨hv, by rw [HM4.out]; exact HF4.out.row ha hbl HREL.out hv0 HLB.out⟩⟩
        · have hvz : v = 0 := by omega
          subst hvz
          go_wp2_with fail
          rcases HCASE.out with ⟨_, rfl, rfl, hnl, hdd⟩ | ⟨h, _⟩
          · go_roundg (m - (b + 1))
            case measure => omega
            case rel => exact ⟨updN nr2 a (nr2 a + 1), nl2, by rw [updN_same, HNR.out]; omega, HD4.out.setNr HE.out.ok a _ (by rw [HNR.out]; omega), HE.out.asks.set HI4.out (by simp; omega) _, HK4.out.set (Or.inl (Or.inr (by simp; omega))) _, HN4.out.right (Int.le_refl _) (by rw [HNR.out]; omega), fun h => (hdd (HDD.out h)).right (fun _ _ => by rw [HNR.out]; exact (hdd (HDD.out h)).col hnl (by rw [← HRV.out]; exact Int.le_refl _))⟩
          · omega
      have hrp : 0 < rv := by omega
      clear hr0
      by_cases hmn : rv < most
      · go_wp2_with fail
        go_ret
        have hf := FStep.direct (rd := rd) (t := ld a + 1) (ri := ri) (mv := mv) (w := rv) HS.out.mv0 HS.out.mvr (fun j hj => (HS.out.ri0 j hj).1) ha hbl HREL.out (by omega) (by rw [← HRV.out]; omega) HLB.out
        rw [← HRV.out, ← HMV.out] at hf
        exact ⟨rv, upd ri b _, upd2 mv a b _, nr1, nl1, rfl, (HD2.out.setRight HE.out.ok b _).setMoved HE.out.ok hbl a _, HE.out.asks.set (HE.out.asks.set HI2.out (by simp; omega) _) (by simp; omega) _, (HK2.out.set (Or.inl (Or.inr (by simp; omega))) _).set (Or.inl (Or.inr (by simp; omega))) _, HN1.out, by omega, by omega, Or.inr ⟨by omega, by first | exact hf | (simp only [Int.sub_self] at hf; exact hf)⟩⟩
      · go_wp2_with fail
        go_ret
        have hf := FStep.direct (rd := rd) (t := ld a + 1) (ri := ri) (mv := mv) (w := most) HS.out.mv0 HS.out.mvr (fun j hj => (HS.out.ri0 j hj).1) ha hbl HREL.out (by omega) (by rw [← HRV.out]; omega) HLB.out
        rw [← HRV.out, ← HMV.out] at hf
        exact ⟨most, upd ri b _, upd2 mv a b _, nr1, nl1, rfl, (HD2.out.setRight HE.out.ok b _).setMoved HE.out.ok hbl a _, HE.out.asks.set (HE.out.asks.set HI2.out (by simp; omega) _) (by simp; omega) _, (HK2.out.set (Or.inl (Or.inr (by simp; omega))) _).set (Or.inl (Or.inr (by simp; omega))) _, HN1.out, by omega, by omega, Or.inr ⟨by omega, by first | exact hf | (simp only [Int.sub_self] at hf; exact hf)⟩⟩

end Go.Proofs.YtfgpjfgejhahfaaGreatDoor
