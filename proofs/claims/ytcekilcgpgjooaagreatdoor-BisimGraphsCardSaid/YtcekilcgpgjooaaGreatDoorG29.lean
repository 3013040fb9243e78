/- Proved here: contracts of the walk to BisimGraphs: moveAlongPaths; each under the conditions that its own statement names. -/
import Derived.Test.YtcekilcgpgjooaaGreatDoorG24
import Derived.Test.YtcekilcgpgjooaaGreatDoorG28
import Derived.StillTail
set_option maxRecDepth 100000
set_option maxHeartbeats 6400000
namespace Go.Proofs.YtcekilcgpgjooaaGreatDoor
open Go
/-! The law of planned regions, where what is kept may grow with the operations that have come up. -/
def StepOkL (P : Program) (S : (Nat → Bool) → World → Prop) (aF : Act) (l : List Oper) (plan : List (Option Value)) (i : Nat) (o : Oper) : Option Value → Prop
 | some v => guardSays l plan o = true ∧ ∀ (K : Act → World → Prop) (L : Nat → Bool) (w : World), L i = false → S L w → (∀ w', S (lset L i) w' → K (aF.put o.dst v) w') → o.wp P aF w K (fun _ _ _ => False)
 | none => guardSays l plan o = false ∧ ∀ (L : Nat → Bool) (w : World), S L w → S (lset L i) w
inductive StepsL (P : Program) (S : (Nat → Bool) → World → Prop) (aF : Act) (l : List Oper) (plan : List (Option Value)) : Nat → List Oper → List (Option Value) → Prop
 | nil {i} : StepsL P S aF l plan i [] []
 | cons {i o r v s} : StepOkL P S aF l plan i o v → StepsL P S aF l plan (i + 1) r s → StepsL P S aF l plan i (o :: r) (v :: s)
theorem StepsL.get {P : Program} {S : (Nat → Bool) → World → Prop} {aF : Act} {l : List Oper} {plan : List (Option Value)} : ∀ {k : Nat} {r : List Oper} {s : List (Option Value)}, StepsL P S aF l plan k r s → ∀ (i : Nat) (o : Oper), r[i]? = some o → ∃ v, s[i]? = some v ∧ StepOkL P S aF l plan (k + i) o v
 | _, _, _, .nil, i, o, h => by simp at h
 | _, _, _, .cons (v := v) h1 h2, 0, o, h => by
  simp only [List.getElem?_cons_zero, Option.some.injEq] at h
  subst h
  exact ⟨v, by simp, h1⟩
 | k, _, _, .cons h1 h2, i + 1, o, h => by
  have := StepsL.get h2 i o (by simpa using h)
  rw [show k + 1 + i = k + (i + 1) by omega] at this
  simpa using this
theorem StepsL.len {P : Program} {S : (Nat → Bool) → World → Prop} {aF : Act} {l : List Oper} {plan : List (Option Value)} : ∀ {k : Nat} {r : List Oper} {s : List (Option Value)}, StepsL P S aF l plan k r s → r.length = s.length
 | _, _, _, .nil => rfl
 | _, _, _, .cons _ h2 => by simp [h2.len]
theorem wp_region_planL {P : Program} {id : Nat} {ops : Array Oper} {Q : Exit → Act → World → Prop} {a0 : Act} {w : World} (hm : P.follows .mixedOrders = true)
    (S : (Nat → Bool) → World → Prop) (plan : List (Option Value)) (aF : Act) (haF : aF = layAll ops.toList plan a0) (n : Nat) (hn : a0.tmps.size = n) (hp : planned n ops.toList = true)
    (h0 : S (fun _ => false) w.drew) (hall : StepsL P S aF ops.toList plan 0 ops.toList plan) (hend : ∀ L w, (∀ i, i < ops.toList.length → L i = true) → S L w → Q .normal aF w) : (Code.region id ops true).wp P Q a0 w := by
 obtain ⟨l, hlo⟩ : ∃ l, l = ops.toList := ⟨_, rfl⟩
 have hops : ops = l.toArray := by rw [hlo]
 subst hops
 clear hlo
 simp only at haF hp hall hend
 have hap : dstsApart l = true := by
  simp only [planned, Bool.and_eq_true] at hp; exact hp.1
 have hlen : l.length = plan.length := hall.len
 have hlt : ∀ (i : Nat) (o : Oper) (d : Nat), l[i]? = some o → o.dst = some d → d < a0.tmps.size := fun i o d hi hd => by
  have := planned_get hp hi
  simp only [opPlanned, Bool.and_eq_true, hd, decide_eq_true_eq] at this
  rw [hn]; exact this.1.1.2
 have hF : Laid l plan a0 (fun _ => true) aF := by
  rw [haF]
  exact laid_all hap hlt l plan 0 a0 (fun i => by rw [Nat.zero_add]) (fun i => by rw [Nat.zero_add]) hlen (by simp) ((Laid.start l plan a0).congr fun i _ => by simp)
 have key : ∀ (fuel : Nat) (listed : Array Bool) (a : Act) (w : World), listed.size = l.length → Laid l plan a0 (fun i => listed.getD i false) a → S (fun i => listed.getD i false) w →
     (listed.toList.countP (· = false)) ≤ fuel → wpAny P .any l.toArray Q fuel listed a w := by
  intro fuel
  have done : ∀ (listed : Array Bool) (a : Act) (w : World), listed.size = l.length → Laid l plan a0 (fun i => listed.getD i false) a → S (fun i => listed.getD i false) w → Region.ready .any l.toArray listed = [] → Q .normal a w := by
   intro listed a w hsz hI hS hr
   have hal : ∀ i, i < l.length → listed.getD i false = true := by
    intro i hi
    induction i using Nat.strongRecOn with
    | _ i ih =>
     cases hli : listed.getD i true with
     | true =>
      have : i < listed.size := by omega
      simpa [this] using hli
     | false =>
      have hmem : i ∈ Region.ready .any l.toArray listed := by
       refine mem_ready.2 ⟨hli, l[i], by simp [hi], fun e he hb => ?_⟩
       have hpl := planned_get hp (i := i) (o := l[i]) (by simp [hi])
       simp only [opPlanned, Bool.and_eq_true, List.all_eq_true, Bool.or_eq_true, Bool.not_eq_true', decide_eq_true_eq] at hpl
       have hlt := (hpl.1.1.1.1 e (by simpa using he)).resolve_left (by simp [hb])
       exact ih e.on (by omega) (by omega)
      rw [hr] at hmem
      cases hmem
   have : a = aF := (hI.congr fun i hi => by simp only [hal i hi]).unique hF
   rw [this]
   exact hend _ w hal hS
  induction fuel with
  | zero =>
   intro listed a w hsz hI hS hc
   have hr : Region.ready .any l.toArray listed = [] := by
    cases hr : Region.ready .any l.toArray listed with
    | nil => rfl
    | cons x xs =>
     have hx : x ∈ Region.ready .any l.toArray listed := by rw [hr]; exact List.mem_cons_self ..
     obtain ⟨h1, o, ho, _⟩ := mem_ready.1 hx
     have hlt : x < listed.size := by
      have := (Array.getElem?_eq_some_iff.1 ho).1
      simp at this; omega
     have hxf : listed[x] = false := by simpa [hlt] using h1
     have : listed[x] ∈ listed.toList := by simp
     have h2 := List.countP_pos_iff (p := fun b => decide (b = false)) |>.2 ⟨listed[x], this, by simp [hxf]⟩
     omega
   exact ⟨hr, done listed a w hsz hI hS hr⟩
  | succ fuel ihf =>
   intro listed a w hsz hI hS hc
   refine ⟨fun hr => done listed a w hsz hI hS hr, fun i hi => ?_⟩
   obtain ⟨h1, o, ho, hall'⟩ := mem_ready.1 hi
   have hil : i < l.length := by
    have := (Array.getElem?_eq_some_iff.1 ho).1
    simpa using this
   have hlo : l[i]? = some o := by simpa using ho
   have hpl := planned_get hp hlo
   simp only [opPlanned, Bool.and_eq_true] at hpl
   obtain ⟨v, hv, hst⟩ := hall.get i o hlo
   rw [Nat.zero_add] at hst
   have hvd : plan.getD i none = v := by simp [List.getD, hv]
   have hunl : (fun j => listed.getD j false) i = false := getD_both h1
   have hLeq : (fun j => (listed.setIfInBounds i true).getD j false) = lset (fun j => listed.getD j false) i := by
    funext j
    unfold lset
    by_cases hj : j = i
    ·subst hj
     have : j < listed.size := by omega
     simp [this]
    ·rw [if_neg hj]
     simp [Array.getElem?_setIfInBounds_ne (Ne.symm hj)]
   have hmono : ∀ w', S (lset (fun j => listed.getD j false) i) w' → wpAny P .any l.toArray Q fuel (listed.setIfInBounds i true) (a.put o.dst (v.getD undef)) w' := by
    intro w' hS'
    refine ihf _ _ w' (by simpa using hsz) ?_ (by rw [hLeq]; exact hS') ?_
    ·have hq := hI.put hap hlo (fun d hd => hlt i o d hlo hd)
     rw [hvd] at hq
     refine hq.congr fun j _ => ?_
     unfold lset
     by_cases hj : j = i
     ·subst hj
      have : j < listed.size := by omega
      simp [this]
     ·rw [if_neg hj]
      simp [Array.getElem?_setIfInBounds_ne (Ne.symm hj)]
    ·have hi' : i < listed.size := by omega
     have hcnt : (listed.setIfInBounds i true).toList.countP (fun b => decide (b = false)) + 1 = listed.toList.countP (fun b => decide (b = false)) := by
      have hxf : listed.toList[i]'(by simpa using hi') = false := by
       have : listed[i] = false := by simpa [hi'] using h1
       simpa using this
      have hset : (listed.setIfInBounds i true).toList = listed.toList.set i true := by simp
      rw [hset, List.countP_set (by simpa using hi')]
      have hpos := List.countP_pos_iff (p := fun b => decide (b = false)) |>.2 ⟨_, List.getElem_mem (l := listed.toList) (n := i) (by simpa using hi'), by simp [hxf]⟩
      rw [if_pos (by simp [hxf]), if_neg (by simp)]
      omega
     omega
   -- the guard
   have hgd : Region.wanted o (yielded l.toArray a.tmps) = guardSays l plan o := by
    unfold Region.wanted guardSays
    cases hg : o.guard with
    | none => rfl
    | some gw =>
     obtain ⟨g, want⟩ := gw
     have hgl : listed.getD g false = true := by
      have := hpl.1.1.1.2
      rw [hg] at this
      simp only [List.any_eq_true, Bool.and_eq_true, beq_iff_eq] at this
      obtain ⟨e, he, hb, heq⟩ := this
      rw [← heq]
      exact hall' e (by simpa using he) hb
     simp only [yielded, List.getElem?_toArray]
     cases hlg : l[g]? with
     | none => simp
     | some og =>
      cases hdg : og.dst with
      | none => simp [hdg]
      | some d =>
       have hdl := hlt g og d hlg hdg
       have hval := hI.at_ g og d hlg hdg hgl
       have hsz' : d < a.tmps.size := by rw [hI.size]; exact hdl
       have hgt : a.tmps[d]? = some ((plan.getD g none).getD undef) := by
        rw [← hval]
        simp [hsz']
       simp only [Option.bind_some, hdg, hgt]
       cases plan.getD g none with
       | none => simp [undef]
       | some u =>
        cases u <;> simp
   -- what it reads
   have hex : ∀ a', Laid l plan a0 (fun i => listed.getD i false) a' → execOp a'.eval o = execOp aF.eval o := by
    intro a' hI'
    refine execOp_congr o ?_ ?_
    ·intro cs b he
     have := hpl.2
     rw [he] at this
     cases this
    ·intro x hx
     have := hpl.1.2
     simp only [List.all_eq_true] at this
     have hx' := this x (by simpa using hx)
     cases x with
     | tmp t =>
      simp only [List.all_eq_true, List.mem_range, Bool.or_eq_true, List.any_eq_true, Bool.and_eq_true, beq_iff_eq] at hx'
      show a'.tmps.getD t undef = aF.tmps.getD t undef
      by_cases ht : ∃ (j : Nat) (q : Oper), l[j]? = some q ∧ q.dst = some t
      ·obtain ⟨j, q, hj, hd⟩ := ht
       have hjl := (List.getElem?_eq_some_iff.1 hj).1
       have hw := hx' j hjl
       rw [hj] at hw
       simp only [hd, bne_self_eq_false, Bool.false_eq_true, false_or] at hw
       obtain ⟨e, he, hb, heq⟩ := hw
       have hLj : listed.getD j false = true := by rw [← heq]; exact hall' e (by simpa using he) hb
       rw [hI'.at_ j q t hj hd hLj, hF.at_ j q t hj hd rfl]
      ·have hno : ∀ (j : Nat) (q : Oper), l[j]? = some q → q.dst ≠ some t := fun j q hj hd => ht ⟨j, q, hj, hd⟩
       rw [hI'.old t fun j q hj hd => absurd hd (hno j q hj), hF.old t fun j q hj hd => absurd hd (hno j q hj)]
     | _ => rfl
   unfold wpOp
   simp only [ho]
   rw [hgd]
   cases v with
   | none =>
    have : guardSays l plan o = false := hst.1
    rw [if_neg (by simp [this])]
    exact hmono w (hst.2 _ w hS)
   | some v =>
    obtain ⟨hy, hrun⟩ := hst
    rw [if_pos hy]
    refine Or.inl ?_
    have hw := hrun (fun a' w' => a' = aF.put o.dst v ∧ S (lset (fun j => listed.getD j false) i) w') _ w hunl hS (fun w' h => ⟨rfl, h⟩)
    have hsame : ∀ u, aF.put o.dst u = aF.put o.dst v → a.put o.dst u = a.put o.dst v := by
     intro u hu
     cases hd : o.dst with
     | none => rfl
     | some d =>
      rw [hd] at hu
      have hdl := hlt i o d hlo hd
      have h2 := congrArg (fun b : Act => b.tmps.getD d undef) hu
      simp only [getD_put] at h2
      rw [if_pos ⟨trivial, by rw [hF.size]; exact hdl⟩, if_pos ⟨trivial, by rw [hF.size]; exact hdl⟩] at h2
      rw [h2]
    unfold Oper.wp at hw ⊢
    rw [hex a hI]
    generalize (execOp aF.eval o).run P w = r at hw
    cases r with
    | ok nx w' =>
     cases nx <;> simp only [Oper.upon] at hw ⊢
     case value u => rw [hsame u hw.1]; exact hmono _ hw.2
     case skip => rw [hsame _ hw.1]; exact hmono _ hw.2
     case defer d =>
      exfalso
      have := congrArg (fun b : Act => b.defers.length) hw.1
      have e : ∀ (b : Act) (x : Option Tmp) (u : Value), (b.put x u).defers = b.defers := fun b x u => by cases x <;> rfl
      simp only [e, List.length_cons] at this
      omega
     case enter f args =>
      refine Calls.mono hw fun e w'' he => ?_
      cases e with
      | returned u => simp only at he ⊢; rw [hsame u he.1]; exact hmono _ he.2
      | panicked c => exact he.elim
      | outgrown => obtain ⟨_, _, he⟩ := he; exact he.elim
     case row row args => exact Rows.mono hw fun u w'' he => by rw [hsame u he.1]; exact hmono _ he.2
    | halt x w' =>
     cases x <;> simp only [Oper.upon] at hw ⊢ <;> first | exact hw.elim | exact hw | (obtain ⟨_, _, hw⟩ := hw; exact hw.elim)
 refine wp_region_any hm (key _ _ _ _ (by simp) ?_ (by rw [show (fun i => (Array.replicate l.toArray.size false).getD i false) = fun _ => false from funext fun i => getD_replicate_false _ _]; exact h0) ?_)
 ·refine (Laid.start l plan a0).congr fun i hi => ?_
  simp [hi]
 ·have := List.countP_le_length (p := fun b => decide (b = false)) (l := (Array.replicate l.toArray.size false).toList)
  simpa using this
end Go.Proofs.YtcekilcgpgjooaaGreatDoor
namespace Go.Proofs.YtcekilcgpgjooaaGreatDoor
open Go Go.RowKit
open Go.Lib (hid)
theorem move_anyT {B base : Nat} {P : Nat → Prop} {I : (Nat → Nat → Bool) → World → Prop} {X0 : Nat → Nat → Bool} {rel : Nat → Nat → Bool} {g : Nat} {lbv : Array Value} {y : Dfs} {ld rd : Nat → Int} {K : Int} (E : DEnvT B base P I rel g lbv y ld rd K) {le ri : Nat → Int} {mv : Nat → Nat → Int}
    (hS : DSt y.x.n y.x.m X0 ri mv) {d : Nat} (hT : BackOkT d B P I X0 rel (.func (.func g) #[] lbv) y le ld rd ri mv K) : MoveOkT (d + 1) B P I X0 rel (.func (.func g) #[] lbv) y le ld rd ri mv K := by
 intro X a most w nr nl hX ha hK hm0 hm1 hI hd hnr hnl
 have HE := hid E
 have HS := hid hS
 have HT := hid hT
 have HD := hid hd
 have HI := hid hI
 have HX := hid hX
 have HK0 := hid (NKeep.mk (n := y.x.n) (m := y.x.m) (ld := ld) (rd := rd) (t := ld a) (t' := ld a + 1) (nr := nr) (nl := nl) (fun _ _ _ => rfl) (fun _ _ _ => rfl) hnr hnl)
 have hn1 := E.hn
 have hm2 := E.hm
 have hla := E.ldK a ha
 have hkk := E.kk
 have eg := E.asks.eg
 obtain ⟨⟨lb, rb, vb, n, m⟩, db, eb, pb, q2, q3, q4, q5, nrb, nlb⟩ := y
 simp only at ha hn1 hm2
 clear E hS hT hd hI hnr hnl hX
 obtain ⟨la, hlaa⟩ : ∃ la, la = ld a := ⟨_, rfl⟩
 have HLA := hid hlaa
 rw [← hlaa] at hla hK
 clear hlaa
 go_enter Tryz.func165, Tryz.ntmps165
 go_wp2_with fail
 go_loopg [8] (m - nr a) (fun gg _ wr => ∃ Y nr' nl', m - nr' a ≤ gg ∧ DfIn ⟨⟨lb, rb, vb, n, m⟩, db, eb, pb, q2, q3, q4, q5, nrb, nlb⟩ (.func (.func g) #[] lbv) wr le ri mv ld rd nr' nl' ∧ (I Y wr ∧ Sub X Y) ∧ Kept (Qk P B) w wr ∧ NKeep n m ld rd (ld a) (ld a + 1) nr nl nr' nl' ∧ (Dead n m rel ld rd ri mv nr nl → Dead n m rel ld rd ri mv nr' nl'))
 case atStart => exact ⟨X, nr, nl, Nat.le_refl _, HD.out, ⟨HI.out, Sub.refl _⟩, Kept.refl _ _, HK0.out, fun h => h⟩
 case round =>
  obtain ⟨Y1, nr1, nl1, hgg, hd1, hI1, hk1, hnk1, hdd1⟩ := hrel
  have HD1 := hid hd1
  have HI1 := hid hI1
  have HK1 := hid hk1
  have HN1 := hid hnk1
  have HDD := hid hdd1
  have hbm := hnk1.rb a ha
  clear hd1 hI1 hk1 hnk1 hdd1 HD HI HK0
  obtain ⟨b, hc⟩ : ∃ b, b = nr1 a := ⟨_, rfl⟩
  have k0 := cell_of1 HD1.out.bp
  have k2 := cell_of1 HD1.out.b2
  obtain ⟨c0, c1, c2, c3, c4, c5⟩ := cells6 HD1.out.d.m.st
  have e0 := HD1.out.rn.cell ha
  have e1 := HD1.out.d.l.cell ha
  have e3 := HD1.out.rn.frozen a
  simp only at k0 k2 c0 c1 c2 c3 c4 c5 e0 e1 e3
  rw [← hc] at e0 hgg hbm
  rw [← HLA.out] at e1
  have HC := hid hc
  clear hc
  have hoke := HE.out.ok
  have o1 := hoke.nr
  have o2 := hoke.ne
  have o3 := hoke.r1
  have o4 := hoke.r2
  have o5 := hoke.o.o.l
  have o6 := hoke.o.o.lv
  have o7 := hoke.o.d
  have o8 := hoke.o.dt
  have o9 := hoke.o.o.r
  have o10 := hoke.o.o.rv
  have o11 := hoke.p
  have o12 := hoke.q5
  simp only at o1 o2 o3 o4 o5 o6 o7 o8 o9 o10 o11 o12
  clear hoke
  by_cases hbl : b < m
  rotate_left
  ·have HNZ := hid (show m ≤ nr1 a by rw [← HC.out]; omega)
   go_wp2_with fail
   go_quiet (fail)
   go_wp2_with fail
   go_ret
   exact ⟨Y1, 0, ri, mv, nr1, nl1, rfl, HD1.out.drewN _, ⟨HE.out.asks.drewN HI1.out.1, HI1.out.2⟩, HK1.out.drewN, HN1.out, Int.le_refl _, by omega, Or.inl ⟨rfl, rfl, rfl, HNZ.out, HDD.out⟩⟩
  have e4 := HD1.out.d.r.cell hbl
  have hrdb := HE.out.rdK b hbl
  simp only at e4 hrdb
  obtain ⟨rdb, hrb⟩ : ∃ rdb, rdb = rd b := ⟨_, rfl⟩
  rw [← hrb] at e4 hrdb
  have HRB := hid hrb
  clear hrb
  go_wp2_with fail
  go_quiet (fail)
  go_wp2_with fail
  by_cases hlr : rdb = la + 1
  rotate_left
  ·have hwr : IntKind.i64.wrap (la + 1) = la + 1 := IntWalk.i64_in _ ⟨by omega, by omega⟩
   have hnb : (rdb != la + 1) = true := by simpa using hlr
   go_quiet (fail)
   go_wp2_with fail
   go_roundg (m - (b + 1))
   case measure => omega
   case rel => exact ⟨Y1, updN nr1 a (nr1 a + 1), nl1, by rw [updN_same, ← HC.out]; omega, (HD1.out.drewN _).setNr HE.out.ok a _ (by rw [← HC.out]; omega), ⟨HE.out.asks.set (HE.out.asks.drewN HI1.out.1) (by simp; omega) _, HI1.out.2⟩, HK1.out.drewN.set (Or.inl (Or.inr (by simp; omega))) _, HN1.out.right (Int.le_refl _) (by rw [← HC.out]; omega), fun h => (HDD.out h).right (fun h1 _ => by rw [← HC.out, ← HLA.out, ← HRB.out] at h1; exact absurd h1 hlr)⟩
  subst hlr
  generalize hwz : wr.drewN _ = wz
  have HDZ := hid (show DfIn ⟨⟨lb, rb, vb, n, m⟩, db, eb, pb, q2, q3, q4, q5, nrb, nlb⟩ (.func (.func g) #[] lbv) wz le ri mv ld rd nr1 nl1 by rw [← hwz]; exact HD1.out.drewN _)
  have HIZ := hid (show I Y1 wz by rw [← hwz]; exact HE.out.asks.drewN HI1.out.1)
  have HX1 := hid HI1.out.2
  have HKZ := hid (show Kept (Qk P B) w wz by rw [← hwz]; exact HK1.out.drewN)
  clear hwz k0 k2 c0 c1 c2 c3 c4 c5 e0 e1 e3 e4 HD1 HI1 HK1
  have k0 := cell_of1 HDZ.out.bp
  obtain ⟨c0, c1, c2, c3, c4, c5⟩ := cells6 HDZ.out.d.m.st
  have e1 := HDZ.out.d.l.cell ha
  have e4 := HDZ.out.d.r.cell hbl
  simp only at k0 c0 c1 c2 c3 c4 c5 e1 e4
  rw [← HLA.out] at e1
  rw [← HRB.out] at e4
  have HCL := hid (fun x (hi : I Y1 x) => HE.out.asks.call Y1 a b x ha hbl hi)
  have hwr : IntKind.i64.wrap (la + 1) = la + 1 := IntWalk.i64_in _ ⟨by omega, by omega⟩
  cases hrel : rel a b
  ·have HREL := hid hrel
   rw [hrel] at HCL
   clear hrel
   go_region_held3 (fun x : World => x.cell? ⟨pb, 0, none⟩ = some (.pointer (some ⟨vb + 1, 0, none⟩)) ∧ x.cell? ⟨vb + 1, 0, none⟩ = some (.func (.func g) #[] lbv) ∧ x.cell? ⟨vb + 1, 4, none⟩ = some (.slice (some ⟨db, 0, none⟩) n n) ∧ x.cell? ⟨vb + 1, 5, none⟩ = some (.slice (some ⟨eb, 0, none⟩) m m) ∧ x.cell? ⟨db, a, none⟩ = some (.int .i64 la) ∧ x.cell? ⟨eb, b, none⟩ = some (.int .i64 (la + 1))) (first | exact ⟨k0, c0, c4, c5, e1, e4⟩ | exact ⟨z0, y0, y4, y5, z1, z4⟩) (first | (go_at_fn g; refine (HCL.out _ (HE.out.asks.drewN HIZ.out)).mono ?_; rintro e w2 ⟨rfl, ⟨Y2, hs2, ht2, hI2⟩, hk2⟩; have hd2 := (HDZ.out.drewN _).kept HE.out.ok HE.out.asks.pb hk2; have HD2 := hid hd2; have HI2 := hid (And.intro hI2 (HX1.out.trans hs2)); have HK2 := hid (HKZ.out.drewN.trans (hk2.mono (fun _ _ h => Or.inl h))); clear hd2 hI2 hk2 hs2 ht2; have z0 := cell_of1 HD2.out.bp; obtain ⟨y0, y1, y2, y3, y4, y5⟩ := cells6 HD2.out.d.m.st; have z1 := HD2.out.d.l.cell ha; have z4 := HD2.out.d.r.cell hbl; simp only at z0 y0 y1 y2 y3 y4 y5 z1 z4; rw [← HLA.out] at z1; rw [← HRB.out] at z4))
   have z2 := cell_of1 HD2.out.b2
   have z3 := HD2.out.rn.cell ha
   have z5 := HD2.out.rn.frozen a
   simp only at z2 z3 z5
   rw [← HC.out] at z3
   go_wp2_with fail
   go_roundg (m - (b + 1))
   case measure => omega
   case rel => exact ⟨Y2, updN nr1 a (nr1 a + 1), nl1, by rw [updN_same, ← HC.out]; omega, HD2.out.setNr HE.out.ok a _ (by rw [← HC.out]; omega), ⟨HE.out.asks.set HI2.out.1 (by simp; omega) _, HI2.out.2⟩, HK2.out.set (Or.inl (Or.inr (by simp; omega))) _, HN1.out.right (Int.le_refl _) (by rw [← HC.out]; omega), fun h => (HDD.out h).right (fun _ h2 => by rw [← HC.out, HREL.out] at h2; cases h2)⟩
  ·have HREL := hid hrel
   rw [hrel] at HCL
   clear hrel
   go_region_held3 (fun x : World => x.cell? ⟨pb, 0, none⟩ = some (.pointer (some ⟨vb + 1, 0, none⟩)) ∧ x.cell? ⟨vb + 1, 0, none⟩ = some (.func (.func g) #[] lbv) ∧ x.cell? ⟨vb + 1, 4, none⟩ = some (.slice (some ⟨db, 0, none⟩) n n) ∧ x.cell? ⟨vb + 1, 5, none⟩ = some (.slice (some ⟨eb, 0, none⟩) m m) ∧ x.cell? ⟨db, a, none⟩ = some (.int .i64 la) ∧ x.cell? ⟨eb, b, none⟩ = some (.int .i64 (la + 1))) (first | exact ⟨k0, c0, c4, c5, e1, e4⟩ | exact ⟨z0, y0, y4, y5, z1, z4⟩) (first | (go_at_fn g; refine (HCL.out _ (HE.out.asks.drewN HIZ.out)).mono ?_; rintro e w2 ⟨rfl, ⟨Y2, hs2, ht2, hI2⟩, hk2⟩; have hd2 := (HDZ.out.drewN _).kept HE.out.ok HE.out.asks.pb hk2; have HD2 := hid hd2; have HI2 := hid (And.intro hI2 (HX1.out.trans hs2)); have HS2 := hid hs2; have HT2 := hid (show Y2 a b = true from ht2 (by first | rfl | trivial)); have HK2 := hid (HKZ.out.drewN.trans (hk2.mono (fun _ _ h => Or.inl h))); clear hd2 hI2 hk2 hs2 ht2; have z0 := cell_of1 HD2.out.bp; obtain ⟨y0, y1, y2, y3, y4, y5⟩ := cells6 HD2.out.d.m.st; have z1 := HD2.out.d.l.cell ha; have z4 := HD2.out.d.r.cell hbl; simp only at z0 y0 y1 y2 y3 y4 y5 z1 z4; rw [← HLA.out] at z1; rw [← HRB.out] at z4))
   have z6 := HD2.out.d.m.right.cell hbl
   have z7 := HD2.out.d.m.right.frozen b
   have z8 := HD2.out.d.m.moved.cell hbl
   have z9 := (HD2.out.d.m.cols b hbl).cell ha
   have z10 := (HD2.out.d.m.cols b hbl).frozen a
   have z11 := cell_of1 HD2.out.b5
   simp only at z6 z7 z8 z9 z10 z11
   obtain ⟨rv, hrv⟩ : ∃ rv, rv = ri b := ⟨_, rfl⟩
   obtain ⟨mva, hmva⟩ : ∃ mva, mva = mv a b := ⟨_, rfl⟩
   have hrvb := HS.out.ri0 b hbl
   have hmvb := HS.out.mv1 ha hbl
   rw [← hrv] at z6 hrvb
   rw [← hmva] at z9 hmvb
   have HRV := hid hrv
   have HMV := hid hmva
   have HKB := hid (show K - rd b < d by have := HRB.out; omega)
   have HLB := hid (show ld a + 1 ≤ rd b by have := HRB.out; have := HLA.out; omega)
   clear hrv hmva
   by_cases hr0 : rv = 0
   ·subst hr0
    have HD3 := hid (show DfIn ⟨⟨lb, rb, vb, n, m⟩, db, eb, pb, q2, q3, q4, q5, nrb, nlb⟩ (.func (.func g) #[] lbv) (w2.setCell ⟨rb, b, none⟩ (.int .i64 0)) le ri mv ld rd nr1 nl1 by
     have h := HD2.out.setRight HE.out.ok b 0
     rwa [show upd ri b 0 = ri from funext (fun j => by
      by_cases e : j = b
      ·rw [e, upd_same]; exact HRV.out
      ·rw [upd_other e])] at h)
    have HI3 := hid (show I Y2 (w2.setCell ⟨rb, b, none⟩ (.int .i64 0)) from HE.out.asks.set HI2.out.1 (by simp; omega) _)
    have HK3 := hid (show Kept (Qk P B) w (w2.setCell ⟨rb, b, none⟩ (.int .i64 0)) from HK2.out.set (Or.inl (Or.inr (by simp; omega))) _)
    go_wp2_with fail
    refine (HT.out Y2 b most _ nr1 nl1 (HX.out.trans HI2.out.2) hbl HKB.out hm0 hm1 HI3.out HD3.out HN1.out.rb HN1.out.lb).mono ?_
    rintro e w4 ⟨Y4, v, ri2, mv2, nr2, nl2, rfl, hd4, hI4, hk4, hn4, hv0, hvm, hcase⟩
    have HD4 := hid hd4
    have HI4 := hid hI4
    have HK4 := hid (HK3.out.trans hk4)
    have HN4 := hid (HN1.out.trans hn4 (by have := HLB.out; omega) HLB.out)
    have HNR := hid (show nr2 a = b by rw [hn4.r a ha (by have := HLB.out; omega)]; exact HC.out.symm)
    have HCASE := hid hcase
    clear hd4 hI4 hk4 hn4 hcase k0 c0 c1 c2 c3 c4 c5 e1 e4 z0 y0 y1 y2 y3 y4 y5 z1 z4 z6 z7 z8 z9 z10 z11
    have z0 := cell_of1 HD4.out.bp
    obtain ⟨y0, y1, y2, y3, y4, y5⟩ := cells6 HD4.out.d.m.st
    have z2 := cell_of1 HD4.out.b2
    have z3 := HD4.out.rn.cell ha
    have z5 := HD4.out.rn.frozen a
    have z8 := HD4.out.d.m.moved.cell hbl
    have z9 := (HD4.out.d.m.cols b hbl).cell ha
    have z10 := (HD4.out.d.m.cols b hbl).frozen a
    simp only at z0 y0 y1 y2 y3 y4 y5 z2 z3 z5 z8 z9 z10
    rw [HNR.out] at z3
    by_cases hv : 0 < v
    ·rcases HCASE.out with ⟨h, _⟩ | ⟨_, hf⟩
     ·omega
     obtain ⟨mv4, hmv4⟩ : ∃ mv4, mv4 = mv2 a b := ⟨_, rfl⟩
     have hmv4b : 0 ≤ mv4 ∧ mv4 ≤ 1152921504606846976 := by
      rw [hmv4]
      have h1 : sumN (fun b => mv2 a b) m = sumN (fun b => mv a b) m + 0 := hf.rows a ha
      have h2 : sumN (fun b => mv a b) m ≤ 1152921504606846976 := HS.out.rows a ha
      have h3 : mv2 a b ≤ sumN (fun b => mv2 a b) m := sumN_elem (f := fun b => mv2 a b) (fun b hb => hf.mv0 a b ha hb) hbl
      have h4 := hf.mv0 a b ha hbl
      omega
     rw [← hmv4] at z9
     have HF4 := hid hf
     have HM4 := hid hmv4
     clear hf hmv4
     go_wp2_with fail
     go_ret
     exact ⟨Y4, v, ri2, upd2 mv2 a b (mv4 + v), nr2, nl2, rfl, HD4.out.setMoved HE.out.ok hbl a _, ⟨HE.out.asks.set HI4.out.1 (by simp; omega) _, HI2.out.2.trans HI4.out.2⟩, HK4.out.set (Or.inl (Or.inr (by simp; omega))) _, HN4.out, hv0, hvm, Or.inr ⟨hv, by rw [HM4.out]; exact HF4.out.row ha hbl (HI4.out.2 a b HT2.out) hv0 HLB.out⟩⟩
    ·have hvz : v = 0 := by omega
     subst hvz
     go_wp2_with fail
     rcases HCASE.out with ⟨_, rfl, rfl, hnl, hdd⟩ | ⟨h, _⟩
     ·go_roundg (m - (b + 1))
      case measure => omega
      case rel => exact ⟨Y4, updN nr2 a (nr2 a + 1), nl2, by rw [updN_same, HNR.out]; omega, HD4.out.setNr HE.out.ok a _ (by rw [HNR.out]; omega), ⟨HE.out.asks.set HI4.out.1 (by simp; omega) _, HI2.out.2.trans HI4.out.2⟩, HK4.out.set (Or.inl (Or.inr (by simp; omega))) _, HN4.out.right (Int.le_refl _) (by rw [HNR.out]; omega), fun h => (hdd (HDD.out h)).right (fun _ _ => by rw [HNR.out]; exact (hdd (HDD.out h)).col hnl (by rw [← HRV.out]; exact Int.le_refl _))⟩
     ·omega
   have hrp : 0 < rv := by omega
   clear hr0
   by_cases hmn : rv < most
   ·go_wp2_with fail
    go_ret
    have hf := FStep.direct (rd := rd) (t := ld a + 1) (ri := ri) (mv := mv) (w := rv) HS.out.mv0 (HS.out.weak (HX.out.trans HI2.out.2)).mvr (fun j hj => (HS.out.ri0 j hj).1) ha hbl HT2.out (by omega) (by rw [← HRV.out]; omega) HLB.out
    rw [← HRV.out, ← HMV.out] at hf
    exact ⟨Y2, rv, upd ri b _, upd2 mv a b _, nr1, nl1, rfl, (HD2.out.setRight HE.out.ok b _).setMoved HE.out.ok hbl a _, ⟨HE.out.asks.set (HE.out.asks.set HI2.out.1 (by simp; omega) _) (by simp; omega) _, HI2.out.2⟩, (HK2.out.set (Or.inl (Or.inr (by simp; omega))) _).set (Or.inl (Or.inr (by simp; omega))) _, HN1.out, by omega, by omega, Or.inr ⟨by omega, by first | exact hf | (simp only [Int.sub_self] at hf; exact hf)⟩⟩
   ·go_wp2_with fail
    go_ret
    have hf := FStep.direct (rd := rd) (t := ld a + 1) (ri := ri) (mv := mv) (w := most) HS.out.mv0 (HS.out.weak (HX.out.trans HI2.out.2)).mvr (fun j hj => (HS.out.ri0 j hj).1) ha hbl HT2.out (by omega) (by rw [← HRV.out]; omega) HLB.out
    rw [← HRV.out, ← HMV.out] at hf
    exact ⟨Y2, most, upd ri b _, upd2 mv a b _, nr1, nl1, rfl, (HD2.out.setRight HE.out.ok b _).setMoved HE.out.ok hbl a _, ⟨HE.out.asks.set (HE.out.asks.set HI2.out.1 (by simp; omega) _) (by simp; omega) _, HI2.out.2⟩, (HK2.out.set (Or.inl (Or.inr (by simp; omega))) _).set (Or.inl (Or.inr (by simp; omega))) _, HN1.out, by omega, by omega, Or.inr ⟨by omega, by first | exact hf | (simp only [Int.sub_self] at hf; exact hf)⟩⟩
end Go.Proofs.YtcekilcgpgjooaaGreatDoor
