/- Proved here: contracts of the walk to BisimGraphs: laws of regions whose operations are known ahead, sets of numbers as bits, and kept; each under the conditions that its own statement names. -/
import Derived.Test.YtcekilcgpgjooaaGreatDoorG05
import Derived.WalkKit
import Derived.Deep.QuietTactic
import Derived.StillTail
namespace Go.Proofs.YtcekilcgpgjooaaGreatDoor
open Go
def layAll : List Oper → List (Option Value) → Act → Act
 | o :: r, v :: s, a => layAll r s (a.put o.dst (v.getD undef))
 | _, _, a => a
def dstsApart : List Oper → Bool
 | [] => true
 | o :: r => (match o.dst with | some d => r.all fun q => q.dst != some d | none => true) && dstsApart r
def opPlanned (n : Nat) (l : List Oper) (i : Nat) (o : Oper) : Bool :=
 o.after.toList.all (fun e => !Region.binds .any e || decide (e.on < i)) &&
 (match o.guard with | some (g, _) => o.after.toList.any fun e => Region.binds .any e && e.on == g | none => true) &&
 (match o.dst with | some d => decide (d < n) | none => true) &&
 (o.op.operands.toList.all fun x => match x with
  | .tmp t => (List.range l.length).all fun j => (match l[j]? with | some q => q.dst != some t | none => true) || o.after.toList.any fun e => Region.binds .any e && e.on == j
  | _ => true) &&
 (match o.op with | .select _ _ => false | _ => true)
def planned (n : Nat) (l : List Oper) : Bool :=
 dstsApart l && (List.range l.length).all fun i => match l[i]? with | some o => opPlanned n l i o | none => true
def guardSays (l : List Oper) (plan : List (Option Value)) (o : Oper) : Bool :=
 match o.guard with
 | none => true
 | some (g, want) => match (l[g]?).bind (·.dst), plan.getD g none with
  | some _, some (.bool b) => b == want
  | _, _ => false
def StepOk (P : Program) (S : World → Prop) (aF : Act) (l : List Oper) (plan : List (Option Value)) (o : Oper) : Option Value → Prop
 | some v => guardSays l plan o = true ∧ ∀ (K : Act → World → Prop) (w : World), S w → (∀ w', S w' → K (aF.put o.dst v) w') → o.wp P aF w K (fun _ _ _ => False)
 | none => guardSays l plan o = false
inductive Steps (P : Program) (S : World → Prop) (aF : Act) (l : List Oper) (plan : List (Option Value)) : List Oper → List (Option Value) → Prop
 | nil : Steps P S aF l plan [] []
 | cons {o r v s} : StepOk P S aF l plan o v → Steps P S aF l plan r s → Steps P S aF l plan (o :: r) (v :: s)
theorem Steps.get {P : Program} {S : World → Prop} {aF : Act} {l : List Oper} {plan : List (Option Value)} : ∀ {r : List Oper} {s : List (Option Value)}, Steps P S aF l plan r s → ∀ (i : Nat) (o : Oper), r[i]? = some o → ∃ v, s[i]? = some v ∧ StepOk P S aF l plan o v
 | _, _, .nil, i, o, h => by simp at h
 | _, _, .cons (v := v) h1 h2, 0, o, h => by
  simp only [List.getElem?_cons_zero, Option.some.injEq] at h
  subst h
  exact ⟨v, by simp, h1⟩
 | _, _, .cons h1 h2, i + 1, o, h => by
  have := Steps.get h2 i o (by simpa using h)
  simpa using this
theorem Steps.len {P : Program} {S : World → Prop} {aF : Act} {l : List Oper} {plan : List (Option Value)} : ∀ {r : List Oper} {s : List (Option Value)}, Steps P S aF l plan r s → r.length = s.length
 | _, _, .nil => rfl
 | _, _, .cons _ h2 => by simp [h2.len]
theorem dstsApart_get : ∀ (l : List Oper), dstsApart l = true → ∀ (i j : Nat) (o q : Oper) (d : Nat), i < j → l[i]? = some o → l[j]? = some q → o.dst = some d → q.dst ≠ some d
 | [], _, i, j, o, q, d, _, h1, _, _ => by simp at h1
 | p :: r, hp, 0, j + 1, o, q, d, _, h1, h2, hd => by
  simp only [List.getElem?_cons_zero, Option.some.injEq] at h1
  subst h1
  simp only [dstsApart, hd, Bool.and_eq_true, List.all_eq_true] at hp
  have := hp.1 q (List.mem_of_getElem? (by simpa using h2))
  simpa using this
 | p :: r, hp, i + 1, j + 1, o, q, d, hij, h1, h2, hd => by
  simp only [dstsApart, Bool.and_eq_true] at hp
  exact dstsApart_get r hp.2 i j o q d (by omega) (by simpa using h1) (by simpa using h2) hd
 | _ :: _, _, _ + 1, 0, _, _, _, h, _, _, _ => by omega
 | _ :: _, _, 0, 0, _, _, _, h, _, _, _ => by omega
theorem dstsApart_ne {l : List Oper} (h : dstsApart l = true) {i j : Nat} {o q : Oper} {d : Nat} (hij : i ≠ j) (hi : l[i]? = some o) (hj : l[j]? = some q) (hd : o.dst = some d) : q.dst ≠ some d := by
 rcases Nat.lt_or_gt_of_ne hij with h1 | h1
 ·exact dstsApart_get l h i j o q d h1 hi hj hd
 ·intro hq
  exact dstsApart_get l h j i q o d h1 hj hi hq hd
def lset (L : Nat → Bool) (i : Nat) : Nat → Bool := fun j => if j = i then true else L j
structure Laid (l : List Oper) (plan : List (Option Value)) (a0 : Act) (L : Nat → Bool) (a : Act) : Prop where
 defers : a.defers = a0.defers
 size : a.tmps.size = a0.tmps.size
 at_ : ∀ (j : Nat) (o : Oper) (d : Nat), l[j]? = some o → o.dst = some d → L j = true → a.tmps.getD d undef = (plan.getD j none).getD undef
 old : ∀ t, (∀ (j : Nat) (o : Oper), l[j]? = some o → o.dst = some t → L j = false) → a.tmps.getD t undef = a0.tmps.getD t undef
theorem getD_put (a : Act) (x : Option Tmp) (v : Value) (t : Nat) : (a.put x v).tmps.getD t undef = if x = some t ∧ t < a.tmps.size then v else a.tmps.getD t undef := by
 cases x with
 | none => simp [Act.put]
 | some d =>
  by_cases hd : d = t
  ·subst hd
   by_cases hlt : d < a.tmps.size
   ·simp [Act.put, hlt]
   ·simp [Act.put, hlt]
  ·have : ¬ (some d = some t ∧ t < a.tmps.size) := by simp [hd]
   rw [if_neg this]
   simp [Act.put, Array.getElem?_setIfInBounds_ne hd]
theorem Laid.put {l : List Oper} {plan : List (Option Value)} {a0 a : Act} {L : Nat → Bool} (h : Laid l plan a0 L a) (hap : dstsApart l = true) {i : Nat} {o : Oper} (hi : l[i]? = some o) (hlt : ∀ d, o.dst = some d → d < a0.tmps.size) :
    Laid l plan a0 (lset L i) (a.put o.dst ((plan.getD i none).getD undef)) := by
 refine ⟨?_, ?_, ?_, ?_⟩
 ·rw [← h.defers]; cases o.dst <;> rfl
 ·rw [← h.size]; cases o.dst <;> simp [Act.put]
 ·intro j q d hj hd hL
  rw [getD_put]
  by_cases hji : j = i
  ·subst hji
   have : q = o := Option.some.inj (hj.symm.trans hi)
   subst this
   rw [if_pos ⟨hd, by rw [h.size]; exact hlt d hd⟩]
  ·have hne : o.dst ≠ some d := fun he => dstsApart_ne hap hji hj hi hd he
   rw [if_neg (fun hc => hne hc.1)]
   unfold lset at hL
   rw [if_neg hji] at hL
   exact h.at_ j q d hj hd hL
 ·intro t ht
  rw [getD_put]
  have hne : o.dst ≠ some t := fun he => by
   have := ht i o hi he
   simp [lset] at this
  rw [if_neg (fun hc => hne hc.1)]
  refine h.old t fun j q hj hd => ?_
  have := ht j q hj hd
  unfold lset at this
  by_cases hji : j = i
  ·rw [if_pos hji] at this; cases this
  ·rwa [if_neg hji] at this
theorem Laid.congr {l : List Oper} {plan : List (Option Value)} {a0 a : Act} {L L' : Nat → Bool} (h : Laid l plan a0 L a) (e : ∀ i, i < l.length → L' i = L i) : Laid l plan a0 L' a := by
 refine ⟨h.defers, h.size, fun j o d hj hd hL => h.at_ j o d hj hd ?_, fun t ht => h.old t fun j o hj hd => ?_⟩
 ·rw [← e j (List.getElem?_eq_some_iff.1 hj).1]; exact hL
 ·rw [← e j (List.getElem?_eq_some_iff.1 hj).1]; exact ht j o hj hd
theorem Laid.start (l : List Oper) (plan : List (Option Value)) (a0 : Act) : Laid l plan a0 (fun _ => false) a0 :=
 ⟨rfl, rfl, fun _ _ _ _ _ h => Bool.noConfusion h, fun _ _ => rfl⟩
theorem Act.ext' {a b : Act} (h1 : a.defers = b.defers) (h2 : a.tmps.size = b.tmps.size) (h3 : ∀ t, a.tmps.getD t undef = b.tmps.getD t undef) : a = b := by
 obtain ⟨x, d⟩ := a
 obtain ⟨y, e⟩ := b
 simp only at h1 h2 h3
 subst h1
 have : x = y := by
  refine Array.ext h2 fun i hi hj => ?_
  have := h3 i
  simpa [hi, hj] using this
 rw [this]
theorem Laid.unique {l : List Oper} {plan : List (Option Value)} {a0 a b : Act} {L : Nat → Bool} (h : Laid l plan a0 L a) (h' : Laid l plan a0 L b) : a = b := by
 refine Act.ext' (h.defers.trans h'.defers.symm) (h.size.trans h'.size.symm) fun t => ?_
 by_cases ht : ∃ (j : Nat) (o : Oper), l[j]? = some o ∧ o.dst = some t ∧ L j = true
 ·obtain ⟨j, o, hj, hd, hL⟩ := ht
  rw [h.at_ j o t hj hd hL, h'.at_ j o t hj hd hL]
 ·have : ∀ j o, l[j]? = some o → o.dst = some t → L j = false := fun j o hj hd => by
   cases hL : L j
   ·rfl
   ·exact absurd ⟨j, o, hj, hd, hL⟩ ht
  rw [h.old t this, h'.old t this]
theorem laid_all {l : List Oper} {plan : List (Option Value)} {a0 : Act} (hap : dstsApart l = true) (hlt : ∀ (i : Nat) (o : Oper) (d : Nat), l[i]? = some o → o.dst = some d → d < a0.tmps.size) :
    ∀ (r : List Oper) (s : List (Option Value)) (k : Nat) (a : Act), (∀ i : Nat, r[i]? = l[k + i]?) → (∀ i : Nat, s[i]? = plan[k + i]?) → r.length = s.length → k + r.length = l.length → Laid l plan a0 (fun i => decide (i < k)) a → Laid l plan a0 (fun _ => true) (layAll r s a)
 | [], [], k, a, _, _, _, hk, h => by
  refine Laid.congr h fun i hi => ?_
  simp at hk
  simp; omega
 | o :: r, v :: s, k, a, hr, hs, hl, hk, h => by
  have h0 : l[k]? = some o := by simpa using (hr 0).symm
  have v0 : plan[k]? = some v := by simpa using (hs 0).symm
  refine laid_all hap hlt r s (k + 1) _ (fun i => ?_) (fun i => ?_) (by simpa using hl) (by simp at hk; omega) ?_
  ·have := hr (i + 1)
   rw [List.getElem?_cons_succ] at this
   rw [this, show k + (i + 1) = k + 1 + i by omega]
  ·have := hs (i + 1)
   rw [List.getElem?_cons_succ] at this
   rw [this, show k + (i + 1) = k + 1 + i by omega]
  ·have hp := h.put hap h0 (fun d hd => hlt k o d h0 hd)
   have e : plan.getD k none = v := by simp [List.getD, v0]
   rw [e] at hp
   refine Laid.congr hp fun i _ => ?_
   unfold lset
   by_cases hi : i = k
   ·subst hi; simp
   ·rw [if_neg hi]
    have : (i < k + 1) = (i < k) := by apply propext; omega
    simp only [this]
theorem planned_get {n : Nat} {l : List Oper} (h : planned n l = true) {i : Nat} {o : Oper} (hi : l[i]? = some o) : opPlanned n l i o = true := by
 simp only [planned, Bool.and_eq_true, List.all_eq_true, List.mem_range] at h
 have := h.2 i (List.getElem?_eq_some_iff.1 hi).1
 rwa [hi] at this
theorem wp_region_plan {P : Program} {id : Nat} {ops : Array Oper} {Q : Exit → Act → World → Prop} {a0 : Act} {w : World} (hm : P.follows .mixedOrders = true)
    (S : World → Prop) (plan : List (Option Value)) (aF : Act) (haF : aF = layAll ops.toList plan a0) (n : Nat) (hn : a0.tmps.size = n) (hp : planned n ops.toList = true)
    (h0 : S w.drew) (hall : Steps P S aF ops.toList plan ops.toList plan) (hend : ∀ w, S w → Q .normal aF w) : (Code.region id ops true).wp P Q a0 w := by
 obtain ⟨l, hlo⟩ : ∃ l, l = ops.toList := ⟨_, rfl⟩
 have hops : ops = l.toArray := by rw [hlo]
 subst hops
 clear hlo
 simp only at haF hp hall
 have hap : dstsApart l = true := by
  simp only [planned, Bool.and_eq_true] at hp; exact hp.1
 have hlen : l.length = plan.length := hall.len
 have hlt : ∀ (i : Nat) (o : Oper) (d : Nat), l[i]? = some o → o.dst = some d → d < a0.tmps.size := fun i o d hi hd => by
  have := planned_get hp hi
  simp only [opPlanned, Bool.and_eq_true, hd, decide_eq_true_eq] at this
  rw [hn]; exact this.1.1.2
 have hF : Laid l plan a0 (fun _ => true) aF := by
  rw [haF]
  exact laid_all hap hlt l plan 0 a0 (fun i => by rw [Nat.zero_add]) (fun i => by rw [Nat.zero_add]) hlen (by simp) ((Laid.start l plan a0).congr fun i _ => by simp)
 have key : ∀ (fuel : Nat) (listed : Array Bool) (a : Act) (w : World), listed.size = l.length → Laid l plan a0 (fun i => listed.getD i false) a → S w →
     (listed.toList.countP (· = false)) ≤ fuel → wpAny P .any l.toArray Q fuel listed a w := by
  intro fuel
  have done : ∀ (listed : Array Bool) (a : Act) (w : World), listed.size = l.length → Laid l plan a0 (fun i => listed.getD i false) a → S w → Region.ready .any l.toArray listed = [] → Q .normal a w := by
   intro listed a w hsz hI hS hr
   have hal : ∀ i, i < l.length → listed.getD i false = true := by
    intro i hi
    induction i using Nat.strongRecOn with
    | _ i ih =>
     cases hli : listed.getD i true with
     | true =>
      have : i < listed.size := by omega
      simpa [this] using hli
     | false =>
      have hmem : i ∈ Region.ready .any l.toArray listed := by
       refine mem_ready.2 ⟨hli, l[i], by simp [hi], fun e he hb => ?_⟩
       have hpl := planned_get hp (i := i) (o := l[i]) (by simp [hi])
       simp only [opPlanned, Bool.and_eq_true, List.all_eq_true, Bool.or_eq_true, Bool.not_eq_true', decide_eq_true_eq] at hpl
       have hlt := (hpl.1.1.1.1 e (by simpa using he)).resolve_left (by simp [hb])
       exact ih e.on (by omega) (by omega)
      rw [hr] at hmem
      cases hmem
   have : a = aF := (hI.congr fun i hi => by simp only [hal i hi]).unique hF
   rw [this]
   exact hend w hS
  induction fuel with
  | zero =>
   intro listed a w hsz hI hS hc
   have hr : Region.ready .any l.toArray listed = [] := by
    cases hr : Region.ready .any l.toArray listed with
    | nil => rfl
    | cons x xs =>
     have hx : x ∈ Region.ready .any l.toArray listed := by rw [hr]; exact List.mem_cons_self ..
     obtain ⟨h1, o, ho, _⟩ := mem_ready.1 hx
     have hlt : x < listed.size := by
      have := (Array.getElem?_eq_some_iff.1 ho).1
      simp at this; omega
     have hxf : listed[x] = false := by simpa [hlt] using h1
     have : listed[x] ∈ listed.toList := by simp
     have h2 := List.countP_pos_iff (p := fun b => decide (b = false)) |>.2 ⟨listed[x], this, by simp [hxf]⟩
     omega
   exact ⟨hr, done listed a w hsz hI hS hr⟩
  | succ fuel ihf =>
   intro listed a w hsz hI hS hc
   refine ⟨fun hr => done listed a w hsz hI hS hr, fun i hi => ?_⟩
   obtain ⟨h1, o, ho, hall'⟩ := mem_ready.1 hi
   have hil : i < l.length := by
    have := (Array.getElem?_eq_some_iff.1 ho).1
    simpa using this
   have hlo : l[i]? = some o := by simpa using ho
   have hpl := planned_get hp hlo
   simp only [opPlanned, Bool.and_eq_true] at hpl
   obtain ⟨v, hv, hst⟩ := hall.get i o hlo
   have hvd : plan.getD i none = v := by simp [List.getD, hv]
   have hmono : ∀ w', S w' → wpAny P .any l.toArray Q fuel (listed.setIfInBounds i true) (a.put o.dst (v.getD undef)) w' := by
    intro w' hS'
    refine ihf _ _ w' (by simpa using hsz) ?_ hS' ?_
    ·have hq := hI.put hap hlo (fun d hd => hlt i o d hlo hd)
     rw [hvd] at hq
     refine hq.congr fun j _ => ?_
     unfold lset
     by_cases hj : j = i
     ·subst hj
      have : j < listed.size := by omega
      simp [this]
     ·rw [if_neg hj]
      simp [Array.getElem?_setIfInBounds_ne (Ne.symm hj)]
    ·have hi' : i < listed.size := by omega
     have hcnt : (listed.setIfInBounds i true).toList.countP (fun b => decide (b = false)) + 1 = listed.toList.countP (fun b => decide (b = false)) := by
      have hxf : listed.toList[i]'(by simpa using hi') = false := by
       have : listed[i] = false := by simpa [hi'] using h1
       simpa using this
      have hset : (listed.setIfInBounds i true).toList = listed.toList.set i true := by simp
      rw [hset, List.countP_set (by simpa using hi')]
      have hpos := List.countP_pos_iff (p := fun b => decide (b = false)) |>.2 ⟨_, List.getElem_mem (l := listed.toList) (n := i) (by simpa using hi'), by simp [hxf]⟩
      rw [if_pos (by simp [hxf]), if_neg (by simp)]
      omega
     omega
   -- the guard
   have hgd : Region.wanted o (yielded l.toArray a.tmps) = guardSays l plan o := by
    unfold Region.wanted guardSays
    cases hg : o.guard with
    | none => rfl
    | some gw =>
     obtain ⟨g, want⟩ := gw
     have hgl : listed.getD g false = true := by
      have := hpl.1.1.1.2
      rw [hg] at this
      simp only [List.any_eq_true, Bool.and_eq_true, beq_iff_eq] at this
      obtain ⟨e, he, hb, heq⟩ := this
      rw [← heq]
      exact hall' e (by simpa using he) hb
     simp only [yielded, List.getElem?_toArray]
     cases hlg : l[g]? with
     | none => simp
     | some og =>
      cases hdg : og.dst with
      | none => simp [hdg]
      | some d =>
       have hdl := hlt g og d hlg hdg
       have hval := hI.at_ g og d hlg hdg hgl
       have hsz' : d < a.tmps.size := by rw [hI.size]; exact hdl
       have hgt : a.tmps[d]? = some ((plan.getD g none).getD undef) := by
        rw [← hval]
        simp [hsz']
       simp only [Option.bind_some, hdg, hgt]
       cases plan.getD g none with
       | none => simp [undef]
       | some u =>
        cases u <;> simp
   -- what it reads
   have hex : ∀ a', Laid l plan a0 (fun i => listed.getD i false) a' → execOp a'.eval o = execOp aF.eval o := by
    intro a' hI'
    refine execOp_congr o ?_ ?_
    ·intro cs b he
     have := hpl.2
     rw [he] at this
     cases this
    ·intro x hx
     have := hpl.1.2
     simp only [List.all_eq_true] at this
     have hx' := this x (by simpa using hx)
     cases x with
     | tmp t =>
      simp only [List.all_eq_true, List.mem_range, Bool.or_eq_true, List.any_eq_true, Bool.and_eq_true, beq_iff_eq] at hx'
      show a'.tmps.getD t undef = aF.tmps.getD t undef
      by_cases ht : ∃ (j : Nat) (q : Oper), l[j]? = some q ∧ q.dst = some t
      ·obtain ⟨j, q, hj, hd⟩ := ht
       have hjl := (List.getElem?_eq_some_iff.1 hj).1
       have hw := hx' j hjl
       rw [hj] at hw
       simp only [hd, bne_self_eq_false, Bool.false_eq_true, false_or] at hw
       obtain ⟨e, he, hb, heq⟩ := hw
       have hLj : listed.getD j false = true := by rw [← heq]; exact hall' e (by simpa using he) hb
       rw [hI'.at_ j q t hj hd hLj, hF.at_ j q t hj hd rfl]
      ·have hno : ∀ (j : Nat) (q : Oper), l[j]? = some q → q.dst ≠ some t := fun j q hj hd => ht ⟨j, q, hj, hd⟩
       rw [hI'.old t fun j q hj hd => absurd hd (hno j q hj), hF.old t fun j q hj hd => absurd hd (hno j q hj)]
     | _ => rfl
   unfold wpOp
   simp only [ho]
   rw [hgd]
   cases v with
   | none =>
    have : guardSays l plan o = false := hst
    rw [if_neg (by simp [this])]
    exact hmono w hS
   | some v =>
    obtain ⟨hy, hrun⟩ := hst
    rw [if_pos hy]
    refine Or.inl ?_
    have hw := hrun (fun a' w' => a' = aF.put o.dst v ∧ S w') w hS (fun w' h => ⟨rfl, h⟩)
    have hsame : ∀ u, aF.put o.dst u = aF.put o.dst v → a.put o.dst u = a.put o.dst v := by
     intro u hu
     cases hd : o.dst with
     | none => rfl
     | some d =>
      rw [hd] at hu
      have hdl := hlt i o d hlo hd
      have h2 := congrArg (fun b : Act => b.tmps.getD d undef) hu
      simp only [getD_put] at h2
      rw [if_pos ⟨trivial, by rw [hF.size]; exact hdl⟩, if_pos ⟨trivial, by rw [hF.size]; exact hdl⟩] at h2
      rw [h2]
    unfold Oper.wp at hw ⊢
    rw [hex a hI]
    generalize (execOp aF.eval o).run P w = r at hw
    cases r with
    | ok nx w' =>
     cases nx <;> simp only [Oper.upon] at hw ⊢
     case value u => rw [hsame u hw.1]; exact hmono _ hw.2
     case skip => rw [hsame _ hw.1]; exact hmono _ hw.2
     case defer d =>
      exfalso
      have := congrArg (fun b : Act => b.defers.length) hw.1
      have e : ∀ (b : Act) (x : Option Tmp) (u : Value), (b.put x u).defers = b.defers := fun b x u => by cases x <;> rfl
      simp only [e, List.length_cons] at this
      omega
     case enter f args =>
      refine Calls.mono hw fun e w'' he => ?_
      cases e with
      | returned u => simp only at he ⊢; rw [hsame u he.1]; exact hmono _ he.2
      | panicked c => exact he.elim
      | outgrown => obtain ⟨_, _, he⟩ := he; exact he.elim
     case row row args => exact Rows.mono hw fun u w'' he => by rw [hsame u he.1]; exact hmono _ he.2
    | halt x w' =>
     cases x <;> simp only [Oper.upon] at hw ⊢ <;> first | exact hw.elim | exact hw | (obtain ⟨_, _, hw⟩ := hw; exact hw.elim)
 refine wp_region_any hm (key _ _ _ _ (by simp) ?_ h0 ?_)
 ·refine (Laid.start l plan a0).congr fun i hi => ?_
  simp [hi]
 ·have := List.countP_le_length (p := fun b => decide (b = false)) (l := (Array.replicate l.toArray.size false).toList)
  simpa using this
/-! A drawn region whose operations are reads that may come whenever they like, but for some (the tail) that come one behind the other, the last of them behind everything. -/
def tOp (nt : Nat) (l : List Oper) (tl : List Nat) (i : Nat) (o : Oper) : Bool :=
 o.guard.isNone &&
 (match o.op with | .select _ _ => false | _ => true) &&
 (match o.dst with | some d => decide (d < nt) | none => true) &&
 (o.after.toList.all fun e => !Region.binds .any e || (decide (e.on < i) && (tl.contains i || !tl.contains e.on))) &&
 (o.op.operands.toList.all fun x => match x with
  | .tmp t => (List.range l.length).all fun j => (match l[j]? with | some q => q.dst != some t | none => true) || Region.waitsFor .any l.toArray i j || (tl.contains i && tl.contains j && decide (j < i))
  | _ => true)
def tChain (l : List Oper) : List Nat → Bool
 | [] => true
 | a :: r => (match r with | [] => true | b :: _ => decide (a < b) && Region.waitsFor .any l.toArray b a) && tChain l r
def tailed (nt : Nat) (l : List Oper) (tl : List Nat) : Bool :=
 dstsApart l && tChain l tl && (tl.getLast? == some (l.length - 1)) && decide (0 < l.length) &&
 Region.sinkB .any l.toArray (l.length - 1) && Region.chainB .any l.toArray (l.length - 1) &&
 (List.range l.length).all fun i => match l[i]? with | some o => tOp nt l tl i o | none => true
def wpTail (P : Program) (S : World → Prop) (Q : Exit → Act → World → Prop) : List Oper → Act → World → Prop
 | [], a, w => Q .normal a w
 | o :: r, a, w => S w ∧ o.wp P a w (wpTail P S Q r) (fun _ _ _ => False)
inductive HSteps (P : Program) (S : World → Prop) (aF : Act) (tl : List Nat) : Nat → List Oper → List (Option Value) → Prop
 | nil {i} : HSteps P S aF tl i [] []
 | read {i o r v s} : tl.contains i = false → (∀ (K : Act → World → Prop) (w : World), S w → K (aF.put o.dst v) w → o.wp P aF w K (fun _ _ _ => False)) → HSteps P S aF tl (i + 1) r s → HSteps P S aF tl i (o :: r) (some v :: s)
 | skip {i o r s} : tl.contains i = true → HSteps P S aF tl (i + 1) r s → HSteps P S aF tl i (o :: r) (none :: s)
theorem HSteps.len {P : Program} {S : World → Prop} {aF : Act} {tl : List Nat} : ∀ {i : Nat} {r : List Oper} {s : List (Option Value)}, HSteps P S aF tl i r s → r.length = s.length
 | _, _, _, .nil => rfl
 | _, _, _, .read _ _ h => by simp [h.len]
 | _, _, _, .skip _ h => by simp [h.len]
theorem HSteps.get {P : Program} {S : World → Prop} {aF : Act} {tl : List Nat} : ∀ {i : Nat} {r : List Oper} {s : List (Option Value)}, HSteps P S aF tl i r s → ∀ (j : Nat) (o : Oper), r[j]? = some o → tl.contains (i + j) = false →
    ∃ v, s[j]? = some (some v) ∧ ∀ (K : Act → World → Prop) (w : World), S w → K (aF.put o.dst v) w → o.wp P aF w K (fun _ _ _ => False)
 | _, _, _, .nil, j, o, h, _ => by simp at h
 | _, _, _, .read (v := v) h1 h2 h3, 0, o, h, _ => by
  simp only [List.getElem?_cons_zero, Option.some.injEq] at h
  subst h
  exact ⟨v, by simp, h2⟩
 | _, _, _, .skip h1 h2, 0, o, h, hc => by
  rw [Nat.add_zero, h1] at hc; cases hc
 | i, _, _, .read h1 h2 h3, j + 1, o, h, hc => by
  have := HSteps.get h3 j o (by simpa using h) (by rw [show i + 1 + j = i + (j + 1) by omega]; exact hc)
  simpa using this
 | i, _, _, .skip h1 h2, j + 1, o, h, hc => by
  have := HSteps.get h2 j o (by simpa using h) (by rw [show i + 1 + j = i + (j + 1) by omega]; exact hc)
  simpa using this
theorem tailed_get {nt : Nat} {l : List Oper} {tl : List Nat} (h : tailed nt l tl = true) {i : Nat} {o : Oper} (hi : l[i]? = some o) : tOp nt l tl i o = true := by
 simp only [tailed, Bool.and_eq_true, List.all_eq_true, List.mem_range] at h
 have := h.2 i (List.getElem?_eq_some_iff.1 hi).1
 rwa [hi] at this
theorem tChain_lt {l : List Oper} : ∀ {a : Nat} {r : List Nat}, tChain l (a :: r) = true → ∀ b ∈ r, a < b
 | a, [], _, b, hb => by cases hb
 | a, c :: r, h, b, hb => by
  simp only [tChain, Bool.and_eq_true, decide_eq_true_eq] at h
  rcases List.mem_cons.1 hb with e | e
  ·rw [e]; exact h.1.1
  ·exact Nat.lt_trans h.1.1 (tChain_lt (l := l) (a := c) (r := r) (by simp only [tChain, Bool.and_eq_true]; exact h.2) b e)
theorem tChain_cons {l : List Oper} {a : Nat} {r : List Nat} (h : tChain l (a :: r) = true) : tChain l r = true := by
 unfold tChain at h
 rw [Bool.and_eq_true] at h
 exact h.2
theorem tChain_front {l : List Oper} : ∀ {r : List Nat} {a : Nat}, tChain l (a :: r) = true → ∀ b ∈ r, ∃ c, (c = a ∨ c ∈ r) ∧ c < b ∧ Region.waitsFor .any l.toArray b c = true
 | [], _, _, b, hb => by cases hb
 | c :: r, a, h, b, hb => by
  have h' := h
  simp only [tChain, Bool.and_eq_true, decide_eq_true_eq] at h
  rcases List.mem_cons.1 hb with e | e
  ·subst e; exact ⟨a, .inl rfl, h.1.1, h.1.2⟩
  ·obtain ⟨d, hd, h1, h2⟩ := tChain_front (tChain_cons h') b e
   exact ⟨d, .inr (by rcases hd with e | e; · rw [e]; exact List.mem_cons_self ..
                      ·exact List.mem_cons_of_mem _ e), h1, h2⟩
structure TlI (l : List Oper) (tl : List Nat) (nt : Nat) (aF0 : Act) (listed : Array Bool) (done rest : List Nat) (a aF : Act) : Prop where
 size : listed.size = l.length
 closed : ∀ (j : Nat) (o : Oper), l[j]? = some o → listed.getD j false = true → ∀ e ∈ o.after, Region.binds .any e = true → listed.getD e.on false = true
 split : tl = done ++ rest
 did : ∀ j ∈ done, listed.getD j false = true
 will : ∀ j ∈ rest, listed.getD j false = false
 last : rest = [] → ∀ j, j < l.length → listed.getD j false = true
 defers : a.defers = aF.defers
 sz : a.tmps.size = nt
 szF : aF.tmps.size = nt
 rel : ∀ t, (∀ (j : Nat) (o : Oper), l[j]? = some o → o.dst = some t → listed.getD j false = true) → a.tmps.getD t undef = aF.tmps.getD t undef
 same : ∀ t, (∀ (j : Nat) (o : Oper), tl.contains j = true → l[j]? = some o → o.dst ≠ some t) → aF.tmps.getD t undef = aF0.tmps.getD t undef
theorem wp_region_tail {P : Program} {id : Nat} {ops : Array Oper} {Q : Exit → Act → World → Prop} {a0 : Act} {w : World} (hm : P.follows .mixedOrders = true)
    (S : World → Prop) (tl : List Nat) (plan : List (Option Value)) (aF : Act) (haF : aF = layAll ops.toList plan a0) (n : Nat) (hn : a0.tmps.size = n) (hp : tailed n ops.toList tl = true)
    (tops : List Oper) (htops : tl.filterMap (fun i => ops.toList[i]?) = tops)
    (h0 : S w.drew) (hall : HSteps P S aF tl 0 ops.toList plan) (hend : wpTail P S Q tops aF w.drew) : (Code.region id ops true).wp P Q a0 w := by
 obtain ⟨l, hlo⟩ : ∃ l, l = ops.toList := ⟨_, rfl⟩
 have hops : ops = l.toArray := by rw [hlo]
 subst hops
 clear hlo
 simp only at haF hp hall htops
 have hp' := hp
 simp only [tailed, Bool.and_eq_true, beq_iff_eq, decide_eq_true_eq] at hp'
 obtain ⟨⟨⟨⟨⟨⟨hap, hch⟩, hlast⟩, hpos⟩, hsink⟩, hchB⟩, _⟩ := hp'
 have hlen : l.length = plan.length := hall.len
 have hltn : ∀ (i : Nat) (o : Oper) (d : Nat), l[i]? = some o → o.dst = some d → d < n := fun i o d hi hd => by
  have := tailed_get hp hi
  simp only [tOp, Bool.and_eq_true, hd, decide_eq_true_eq] at this
  exact this.1.1.2
 have hlt : ∀ (i : Nat) (o : Oper) (d : Nat), l[i]? = some o → o.dst = some d → d < a0.tmps.size := fun i o d hi hd => by rw [hn]; exact hltn i o d hi hd
 have hF : Laid l plan a0 (fun _ => true) aF := by
  rw [haF]
  exact laid_all hap hlt l plan 0 a0 (fun i => by rw [Nat.zero_add]) (fun i => by rw [Nat.zero_add]) hlen (by simp) ((Laid.start l plan a0).congr fun i _ => by simp)
 have hinb : ∀ j ∈ tl, j < l.length := by
  intro j hj
  obtain ⟨z, hz⟩ : ∃ z, tl.getLast? = some z := ⟨_, hlast⟩
  have hsorted : ∀ (r : List Nat), tChain l r = true → ∀ z, r.getLast? = some z → ∀ j ∈ r, j ≤ z := by
   intro r
   induction r with
   | nil => intro _ _ _ j hj; cases hj
   | cons a r ih =>
    intro hc z hz j hj
    cases r with
    | nil =>
     simp at hz
     rw [← hz]
     simp at hj
     omega
    | cons b r =>
     rw [List.getLast?_cons_cons] at hz
     rcases List.mem_cons.1 hj with e | e
     ·have h1 := tChain_lt hc b (List.mem_cons_self ..)
      have h2 := ih (tChain_cons hc) z hz b (List.mem_cons_self ..)
      omega
     ·exact ih (tChain_cons hc) z hz j e
  have := hsorted tl hch _ hlast j hj
  omega
 have key : ∀ (fuel : Nat) (listed : Array Bool) (done rest : List Nat) (ro : List Oper) (a aG : Act) (w : World), TlI l tl n aF listed done rest a aG → (rest ≠ [] → S w) → rest.filterMap (fun i => l[i]?) = ro → wpTail P S Q ro aG w →
     (listed.toList.countP (· = false)) ≤ fuel → wpAny P .any l.toArray Q fuel listed a w := by
  intro fuel
  have fin : ∀ (listed : Array Bool) (done rest : List Nat) (ro : List Oper) (a aG : Act) (w : World), TlI l tl n aF listed done rest a aG → rest.filterMap (fun i => l[i]?) = ro → wpTail P S Q ro aG w → Region.ready .any l.toArray listed = [] → Q .normal a w := by
   intro listed done rest ro a aG w hI hro hW hr
   have hal : ∀ i, i < l.length → listed.getD i false = true := by
    intro i hi
    induction i using Nat.strongRecOn with
    | _ i ih =>
     cases hli : listed.getD i true with
     | true =>
      have : i < listed.size := by rw [hI.size]; exact hi
      simpa [this] using hli
     | false =>
      have hmem : i ∈ Region.ready .any l.toArray listed := by
       refine mem_ready.2 ⟨hli, l[i], by simp [hi], fun e he hb => ?_⟩
       have hpl := tailed_get hp (i := i) (o := l[i]) (by simp [hi])
       simp only [tOp, Bool.and_eq_true, List.all_eq_true, Bool.or_eq_true, Bool.not_eq_true', decide_eq_true_eq] at hpl
       have hlt := (hpl.1.2 e (by simpa using he)).resolve_left (by simp [hb])
       exact ih e.on hlt.1 (by omega)
      rw [hr] at hmem
      cases hmem
   have hre : rest = [] := by
    cases hr' : rest with
    | nil => rfl
    | cons j r =>
     have h1 := hI.will j (by rw [hr']; exact List.mem_cons_self ..)
     have h2 := hal j (hinb j (by rw [hI.split, hr']; simp))
     rw [h1] at h2; cases h2
   have hro' : ro = [] := by rw [← hro, hre]; rfl
   rw [hro'] at hW
   have : a = aG := Act.ext' hI.defers (hI.sz.trans hI.szF.symm) fun t => hI.rel t fun j o hj hd => hal j (List.getElem?_eq_some_iff.1 hj).1
   rw [this]
   exact hW
  induction fuel with
  | zero =>
   intro listed done rest ro a aG w hI hS hro hW hc
   have hr : Region.ready .any l.toArray listed = [] := by
    cases hr : Region.ready .any l.toArray listed with
    | nil => rfl
    | cons x xs =>
     have hx : x ∈ Region.ready .any l.toArray listed := by rw [hr]; exact List.mem_cons_self ..
     obtain ⟨h1, o, ho, _⟩ := mem_ready.1 hx
     have hlt : x < listed.size := by
      have := (Array.getElem?_eq_some_iff.1 ho).1
      have h3 := hI.size
      simp at this; omega
     have hxf : listed[x] = false := by simpa [hlt] using h1
     have : listed[x] ∈ listed.toList := by simp
     have h2 := List.countP_pos_iff (p := fun b => decide (b = false)) |>.2 ⟨listed[x], this, by simp [hxf]⟩
     omega
   exact ⟨hr, fin listed done rest ro a aG w hI hro hW hr⟩
  | succ fuel ihf =>
   intro listed done rest ro a aG w hI hS hro hW hc
   refine ⟨fun hr => fin listed done rest ro a aG w hI hro hW hr, fun i hi => ?_⟩
   obtain ⟨h1, o, ho, hall'⟩ := mem_ready.1 hi
   have hil : i < l.length := by
    have := (Array.getElem?_eq_some_iff.1 ho).1
    simpa using this
   have hlo : l[i]? = some o := by simpa using ho
   have hpl := tailed_get hp hlo
   simp only [tOp, Bool.and_eq_true, Option.isNone_iff_eq_none] at hpl
   obtain ⟨⟨⟨⟨hg, hsel⟩, _⟩, haft⟩, hopd⟩ := hpl
   have hi' : i < listed.size := by rw [hI.size]; exact hil
   have hcount : (listed.setIfInBounds i true).toList.countP (fun b => decide (b = false)) ≤ fuel := by
    have hxf : listed.toList[i]'(by simpa using hi') = false := by
     have : listed[i] = false := by simpa [hi'] using h1
     simpa using this
    have hset : (listed.setIfInBounds i true).toList = listed.toList.set i true := by simp
    rw [hset, List.countP_set (by simpa using hi')]
    have hpos := List.countP_pos_iff (p := fun b => decide (b = false)) |>.2 ⟨_, List.getElem_mem (l := listed.toList) (n := i) (by simpa using hi'), by simp [hxf]⟩
    rw [if_pos (by simp [hxf]), if_neg (by simp)]
    omega
   have hunl : listed.getD i false = false := getD_both h1
   have hset_i : (listed.setIfInBounds i true).getD i false = true := by simp [hi']
   have hclosed' : ∀ (j : Nat) (q : Oper), l[j]? = some q → (listed.setIfInBounds i true).getD j false = true → ∀ e ∈ q.after, Region.binds .any e = true → (listed.setIfInBounds i true).getD e.on false = true := by
    intro j q hj hl e he hb
    by_cases hij : i = j
    ·subst hij
     have : q = o := Option.some.inj (hj.symm.trans hlo)
     subst this
     exact getD_set_true (hall' e he hb)
    ·rw [getD_set_ne false hij] at hl
     exact getD_set_true (hI.closed j q hj hl e he hb)
   have hwait : ∀ j, Region.waitsFor .any l.toArray i j = true → listed.getD j false = true := by
    intro j hj
    obtain ⟨q, hq, e, he, hb, hon⟩ := Region.waitsFor_spec hj
    have : q = o := Option.some.inj (hq.symm.trans ho)
    subst this
    rw [← hon]
    exact hall' e he hb
   have hwt : Region.wanted o (yielded l.toArray a.tmps) = true := by unfold Region.wanted; rw [hg]
   have hselne : ∀ cs b, o.op ≠ .select cs b := fun cs b he => by rw [he] at hsel; cases hsel
   unfold wpOp
   simp only [ho]
   rw [if_pos hwt]
   refine Or.inl ?_
   by_cases hti : tl.contains i = true
   ·-- one of the tail
    have hmem : i ∈ tl := by simpa using hti
    have hnd : i ∉ done := fun h => by have := hI.did i h; rw [hunl] at this; cases this
    have hir : i ∈ rest := by
     rw [hI.split, List.mem_append] at hmem
     exact hmem.resolve_left hnd
    obtain ⟨c, r, hrest⟩ : ∃ c r, rest = c :: r := by
     cases hr' : rest with
     | nil => rw [hr'] at hir; cases hir
     | cons c r => exact ⟨c, r, rfl⟩
    have hchr : tChain l rest = true := by
     have : ∀ (x y : List Nat), tChain l (x ++ y) = true → tChain l y = true := by
      intro x
      induction x with
      | nil => intro y h; exact h
      | cons b x ih => intro y h; exact ih y (tChain_cons (by simpa using h))
     exact this done rest (by rw [← hI.split]; exact hch)
    have hic : i = c := by
     rw [hrest] at hir hchr
     rcases List.mem_cons.1 hir with e | e
     ·exact e
     ·obtain ⟨d, hd, _, hw⟩ := tChain_front hchr i e
      have h2 := hwait d hw
      have h3 := hI.will d (by rw [hrest]; rcases hd with e | e; · rw [e]; exact List.mem_cons_self ..
                               ·exact List.mem_cons_of_mem _ e)
      rw [h3] at h2; cases h2
    subst hic
    obtain ⟨ro', hro'⟩ : ∃ ro', ro = o :: ro' ∧ r.filterMap (fun i => l[i]?) = ro' := by
     refine ⟨_, ?_, rfl⟩
     rw [← hro, hrest]
     simp [hlo]
    obtain ⟨hro1, hro2⟩ := hro'
    rw [hro1] at hW
    have hrun := hW.2
    have hex : execOp a.eval o = execOp aG.eval o := by
     refine execOp_congr o hselne ?_
     intro x hx
     simp only [List.all_eq_true] at hopd
     have hx' := hopd x (by simpa using hx)
     cases x with
     | tmp t =>
      simp only [List.all_eq_true, List.mem_range, Bool.or_eq_true, Bool.and_eq_true, decide_eq_true_eq] at hx'
      show a.tmps.getD t undef = aG.tmps.getD t undef
      refine hI.rel t fun j q hj hd => ?_
      have hjl := (List.getElem?_eq_some_iff.1 hj).1
      have hw := hx' j hjl
      rw [hj] at hw
      simp only [hd, bne_self_eq_false, Bool.false_eq_true, false_or] at hw
      rcases hw with hw | hw
      ·exact hwait j hw
      ·have hjm : j ∈ tl := by simpa using hw.1.2
       rw [hI.split, List.mem_append] at hjm
       rcases hjm with h | h
       ·exact hI.did j h
       ·exfalso
        rw [hrest] at h hchr
        rcases List.mem_cons.1 h with e | e
        ·omega
        ·have := tChain_lt hchr j e
         omega
     | _ => rfl
    have hnext : ∀ (ds : List Deferred) (u : Value) (w' : World), wpTail P S Q ro' (({ aG with defers := ds ++ aG.defers } : Act).put o.dst u) w' → wpAny P .any l.toArray Q fuel (listed.setIfInBounds i true) (({ a with defers := ds ++ a.defers } : Act).put o.dst u) w' := by
     intro ds u w' hW'
     have hne : ∀ j ∈ r, j ≠ i := fun j hj e => by
      rw [hrest] at hchr
      have := tChain_lt hchr j hj
      omega
     refine ihf _ (done ++ [i]) r ro' _ (({ aG with defers := ds ++ aG.defers } : Act).put o.dst u) w' ⟨by simpa using hI.size, hclosed', by rw [hI.split, hrest]; simp, ?_, ?_, ?_, ?_, ?_, ?_, ?_, ?_⟩ ?_ hro2 hW' hcount
     ·intro j hj
      rcases List.mem_append.1 hj with h | h
      ·exact getD_set_true (hI.did j h)
      ·simp at h; rw [h]; exact hset_i
     ·intro j hj
      rw [getD_set_ne false (Ne.symm (hne j hj))]
      exact hI.will j (by rw [hrest]; exact List.mem_cons_of_mem _ hj)
     ·intro hr0 j hj
      by_cases hij : i = j
      ·subst hij; exact hset_i
      ·rw [getD_set_ne false hij]
       cases hlj : listed.getD j false with
       | true => rfl
       | false =>
        exfalso
        have hiz : i = l.length - 1 := by
         rw [hI.split, hrest, hr0] at hlast
         simp at hlast
         exact hlast
        have hjs : j < listed.size := by rw [hI.size]; exact hj
        refine tail_waits (md := .any) (ops := l.toArray) hsink hchB (by simp; omega) ⟨by simpa using hI.size, fun j oj hj => hI.closed j oj (by simpa using hj), fun t ht htl => ?_⟩ _ j rfl (by omega) (getD_in hjs hlj) i (by omega) hi
        have : t = i := by simp at htl; omega
        rw [this]; exact h1
     ·cases hd : o.dst <;> (simp only [Act.put]; rw [hI.defers])
     ·rw [← hI.sz]; cases o.dst <;> simp [Act.put]
     ·rw [← hI.szF]; cases o.dst <;> simp [Act.put]
     ·intro t ht
      rw [getD_put, getD_put]
      simp only [hI.sz, hI.szF]
      by_cases hd : o.dst = some t ∧ t < n
      ·rw [if_pos hd, if_pos hd]
      ·rw [if_neg hd, if_neg hd]
       refine hI.rel t fun j q hj hq => ?_
       have h2 := ht j q hj hq
       by_cases hij : i = j
       ·subst hij
        have : q = o := Option.some.inj (hj.symm.trans hlo)
        subst this
        exact absurd ⟨hq, hltn _ _ _ hj hq⟩ hd
       ·rwa [getD_set_ne false hij] at h2
     ·intro t ht
      rw [getD_put, if_neg (fun h => ht i o hti hlo h.1)]
      exact hI.same t ht
     ·intro hr0
      have : ∃ o2 r2, ro' = o2 :: r2 := by
       cases hr' : r with
       | nil => exact absurd hr' hr0
       | cons j r2 =>
        have hjl := hinb j (by rw [hI.split, hrest, hr']; simp)
        rw [← hro2, hr']
        exact ⟨l[j], r2.filterMap (fun i => l[i]?), by simp [hjl]⟩
      obtain ⟨o2, r2, e⟩ := this
      rw [e] at hW'
      exact hW'.1
    unfold Oper.wp at hrun ⊢
    rw [hex]
    generalize (execOp aG.eval o).run P w = rr at hrun
    cases rr with
    | ok nx w' =>
     cases nx <;> simp only [Oper.upon] at hrun ⊢
     case value u => exact hnext [] u w' hrun
     case skip => exact hnext [] _ w' hrun
     case defer d => exact hnext [d] _ w' hrun
     case enter f args =>
      refine Calls.mono hrun fun e w'' he => ?_
      cases e with
      | returned u => exact hnext [] u w'' he
      | panicked c => exact he.elim
      | outgrown => obtain ⟨_, _, he⟩ := he; exact he.elim
     case row row args => exact Rows.mono hrun fun u w'' he => hnext [] u w'' he
    | halt x w' =>
     cases x <;> simp only [Oper.upon] at hrun ⊢ <;> first | exact hrun.elim | exact hrun | (obtain ⟨_, _, hrun⟩ := hrun; exact hrun.elim)
   ·-- a read
    have hti' : tl.contains i = false := by simpa using hti
    have hrest : rest ≠ [] := fun h => by have := hI.last h i hil; rw [hunl] at this; cases this
    have hSw := hS hrest
    obtain ⟨v, hv, hst⟩ := hall.get i o hlo (by rw [Nat.zero_add]; exact hti')
    have hvd : plan.getD i none = some v := by simp [List.getD, hv]
    have hex : execOp a.eval o = execOp aF.eval o := by
     refine execOp_congr o hselne ?_
     intro x hx
     simp only [List.all_eq_true] at hopd
     have hx' := hopd x (by simpa using hx)
     cases x with
     | tmp t =>
      simp only [List.all_eq_true, List.mem_range, Bool.or_eq_true, Bool.and_eq_true, decide_eq_true_eq] at hx'
      show a.tmps.getD t undef = aF.tmps.getD t undef
      have hws : ∀ (j : Nat) (q : Oper), l[j]? = some q → q.dst = some t → Region.waitsFor .any l.toArray i j = true := by
       intro j q hj hd
       have hjl := (List.getElem?_eq_some_iff.1 hj).1
       have hw := hx' j hjl
       rw [hj] at hw
       simp only [hd, bne_self_eq_false, Bool.false_eq_true, false_or] at hw
       rcases hw with hw | hw
       ·exact hw
       ·rw [hti'] at hw; exact absurd hw.1.1 (by simp)
      rw [hI.rel t fun j q hj hd => hwait j (hws j q hj hd)]
      refine hI.same t fun j q hjt hj hd => ?_
      obtain ⟨q', hq', e, he, hb, hon⟩ := Region.waitsFor_spec (hws j q hj hd)
      have : q' = o := Option.some.inj (hq'.symm.trans ho)
      subst this
      simp only [List.all_eq_true, Bool.or_eq_true, Bool.not_eq_true', Bool.and_eq_true, decide_eq_true_eq] at haft
      have h3 := (haft e (by simpa using he)).resolve_left (by simp [hb])
      rw [hon, hjt, hti'] at h3
      rcases h3.2 with h | h <;> cases h
     | _ => rfl
    have hnext : ∀ w', w' = w → wpAny P .any l.toArray Q fuel (listed.setIfInBounds i true) (a.put o.dst v) w' := by
     intro w' hw'
     subst hw'
     refine ihf _ done rest ro _ aG w' ⟨by simpa using hI.size, hclosed', hI.split, fun j hj => getD_set_true (hI.did j hj), fun j hj => ?_, fun h => absurd h hrest, ?_, ?_, hI.szF, ?_, hI.same⟩ hS hro hW hcount
     ·rw [getD_set_ne false (fun e => hti (by subst e; rw [hI.split]; simp [hj]))]
      exact hI.will j hj
     ·cases hd : o.dst <;> exact hI.defers
     ·rw [← hI.sz]; cases o.dst <;> simp [Act.put]
     ·intro t ht
      rw [getD_put, hI.sz]
      by_cases hd : o.dst = some t ∧ t < n
      ·rw [if_pos hd]
       have h1 := hF.at_ i o t hlo hd.1 rfl
       rw [hvd] at h1
       rw [hI.same t fun j q hjt hj hq => ?_, h1]
       ·rfl
       ·by_cases hij : j = i
        ·subst hij; exact hti hjt
        ·exact dstsApart_ne hap hij hj hlo hq hd.1
      ·rw [if_neg hd]
       refine hI.rel t fun j q hj hq => ?_
       have h2 := ht j q hj hq
       by_cases hij : i = j
       ·subst hij
        have : q = o := Option.some.inj (hj.symm.trans hlo)
        subst this
        exact absurd ⟨hq, hltn _ _ _ hj hq⟩ hd
       ·rwa [getD_set_ne false hij] at h2
    have hw := hst (fun a' w' => a' = aF.put o.dst v ∧ w' = w) w hSw ⟨rfl, rfl⟩
    have hsame : ∀ u, aF.put o.dst u = aF.put o.dst v → a.put o.dst u = a.put o.dst v := by
     intro u hu
     cases hd : o.dst with
     | none => rfl
     | some d =>
      rw [hd] at hu
      have hdl := hlt i o d hlo hd
      have h2 := congrArg (fun b : Act => b.tmps.getD d undef) hu
      simp only [getD_put] at h2
      rw [if_pos ⟨trivial, by rw [hF.size]; exact hdl⟩, if_pos ⟨trivial, by rw [hF.size]; exact hdl⟩] at h2
      rw [h2]
    unfold Oper.wp at hw ⊢
    rw [hex]
    generalize (execOp aF.eval o).run P w = r at hw
    cases r with
    | ok nx w' =>
     cases nx <;> simp only [Oper.upon] at hw ⊢
     case value u => rw [hsame u hw.1]; exact hnext _ hw.2
     case skip => rw [hsame _ hw.1]; exact hnext _ hw.2
     case defer d =>
      exfalso
      have := congrArg (fun b : Act => b.defers.length) hw.1
      have e : ∀ (b : Act) (x : Option Tmp) (u : Value), (b.put x u).defers = b.defers := fun b x u => by cases x <;> rfl
      simp only [e, List.length_cons] at this
      omega
     case enter f args =>
      refine Calls.mono hw fun e w'' he => ?_
      cases e with
      | returned u => simp only at he ⊢; rw [hsame u he.1]; exact hnext _ he.2
      | panicked c => exact he.elim
      | outgrown => obtain ⟨_, _, he⟩ := he; exact he.elim
     case row row args => exact Rows.mono hw fun u w'' he => by rw [hsame u he.1]; exact hnext _ he.2
    | halt x w' =>
     cases x <;> simp only [Oper.upon] at hw ⊢ <;> first | exact hw.elim | exact hw | (obtain ⟨_, _, hw⟩ := hw; exact hw.elim)
 refine wp_region_any hm (key _ _ [] tl tops a0 aF _ ⟨by simp, fun j o _ h => (by rw [getD_replicate_false] at h; cases h), by simp, fun j h => (by cases h), fun j _ => getD_replicate_false _ _, fun h => ?_, hF.defers.symm, hn, by rw [hF.size]; exact hn, fun t ht => ?_, fun _ _ => rfl⟩ (fun _ => h0) htops hend ?_)
 ·rw [h] at hlast; cases hlast
 ·refine (hF.old t fun j o hj hd => ?_).symm
  have := ht j o hj hd
  rw [getD_replicate_false] at this; cases this
 ·have := List.countP_le_length (p := fun b => decide (b = false)) (l := (Array.replicate l.toArray.size false).toList)
  simpa using this
end Go.Proofs.YtcekilcgpgjooaaGreatDoor
namespace Go.Proofs.YtcekilcgpgjooaaGreatDoor
open Go Go.RowKit

theorem row_below {w w' : World} {base : Nat} {e : TypeId} {size : Nat} {v : Value} {n : Nat} {xs : List Value} (h : w.ownsRow base e size v n xs) (hb : Below w.heap.size w w') : w'.ownsRow base e size v n xs := by
 refine h.kept (row := none) ⟨hb.os, hb.tape, hb.output, hb.size, fun k hk _ => hb.block k hk⟩ ?_
 cases v.ownBlock <;> simp
def keptL (r : List (Int × Int)) (M : Nat → Bool) : Nat → List (Int × Int)
 | 0 => []
 | k + 1 => keptL r M k ++ (if M k then [] else (r[k]?).toList)
theorem keptL_len (r : List (Int × Int)) (M : Nat → Bool) : ∀ k, (keptL r M k).length ≤ k
 | 0 => Nat.le_refl _
 | k + 1 => by
  have := keptL_len r M k
  unfold keptL
  rw [List.length_append]
  cases M k
  ·have : (r[k]?).toList.length ≤ 1 := by cases r[k]? <;> simp
   simp only [Bool.false_eq_true, if_false]; omega
  ·simp only [if_true, List.length_nil]; omega
theorem mem_keptL {r : List (Int × Int)} {M : Nat → Bool} {p : Int × Int} : ∀ {k}, p ∈ keptL r M k ↔ ∃ i, i < k ∧ M i = false ∧ r[i]? = some p
 | 0 => by simp [keptL]
 | k + 1 => by
  unfold keptL
  rw [List.mem_append, mem_keptL]
  constructor
  ·rintro (⟨i, h1, h2⟩ | h)
   ·exact ⟨i, by omega, h2⟩
   ·cases hM : M k
    ·rw [hM] at h
     simp only [Bool.false_eq_true, if_false, Option.mem_toList] at h
     exact ⟨k, by omega, hM, h⟩
    ·rw [hM] at h; simp at h
  ·rintro ⟨i, h1, h2, h3⟩
   by_cases hik : i = k
   ·subst hik
    right
    rw [h2]; simpa using h3
   ·exact Or.inl ⟨i, by omega, h2, h3⟩
end Go.Proofs.YtcekilcgpgjooaaGreatDoor
