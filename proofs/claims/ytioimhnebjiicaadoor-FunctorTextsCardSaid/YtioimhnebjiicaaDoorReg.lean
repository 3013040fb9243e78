/-
  Proved here: a step towards the statements of chapter 1 (functors): what one of its functions does at each input.
-/
import Derived.WalkKit
import Derived.Deep.QuietTactic
namespace Go.Proofs.YtioimhnebjiicaaDoor

def lset (L : Nat → Bool) (i : Nat) : Nat → Bool := fun j => if j = i then true else L j

/-- What one operation, whenever its turn comes, does to the invariant. -/
def OpOk (P : Program) (Q : Exit → Act → World → Prop) (I : (Nat → Bool) → Act → World → Prop) (i : Nat) (o : Oper) : Prop :=
  ∀ L a w, I L a w → L i = false → (∀ e ∈ o.after.toList, Region.binds .any e = true → L e.on = true) → o.wp P a w (I (lset L i)) Q

def AllOk (P : Program) (Q : Exit → Act → World → Prop) (I : (Nat → Bool) → Act → World → Prop) : Nat → List Oper → Prop
  | _, [] => True
  | k, o :: r => OpOk P Q I k o ∧ AllOk P Q I (k + 1) r

def plainFrom : Nat → List Oper → Bool
  | _, [] => true
  | k, o :: r => o.guard.isNone && o.after.toList.all (fun e => !Region.binds .any e || decide (e.on < k)) && plainFrom (k + 1) r

theorem plainFrom_get : ∀ (k : Nat) (l : List Oper), plainFrom k l = true → ∀ i o, l[i]? = some o → o.guard = none ∧ ∀ e ∈ o.after.toList, Region.binds .any e = true → e.on < k + i
  | _, [], _, i, o, h => by simp at h
  | k, o' :: r, hp, i, o, h => by
    simp only [plainFrom, Bool.and_eq_true, Option.isNone_iff_eq_none, List.all_eq_true, Bool.or_eq_true, Bool.not_eq_true', decide_eq_true_eq] at hp
    cases i with
    | zero => simp only [List.getElem?_cons_zero, Option.some.injEq] at h; subst h; exact ⟨hp.1.1, fun e he hb => by simpa using (hp.1.2 e he).resolve_left (by simp [hb])⟩
    | succ i =>
      have := plainFrom_get (k + 1) r hp.2 i o (by simpa using h)
      exact ⟨this.1, fun e he hb => by have := this.2 e he hb; omega⟩

theorem AllOk_get {P : Program} {Q : Exit → Act → World → Prop} {I : (Nat → Bool) → Act → World → Prop} : ∀ (k : Nat) (l : List Oper), AllOk P Q I k l → ∀ i o, l[i]? = some o → OpOk P Q I (k + i) o
  | _, [], _, i, o, h => by simp at h
  | k, o' :: r, hp, i, o, h => by
    cases i with
    | zero => simp only [List.getElem?_cons_zero, Option.some.injEq] at h; subst h; exact hp.1
    | succ i =>
      have := AllOk_get (k + 1) r hp.2 i o (by simpa using h)
      rwa [show k + 1 + i = k + (i + 1) by omega] at this

theorem wp_region_inv {P : Program} {id : Nat} {l : List Oper} {Q : Exit → Act → World → Prop} {a : Act} {w : World} (hm : P.follows .mixedOrders = true)
    (I : (Nat → Bool) → Act → World → Prop) (hp : plainFrom 0 l = true) (h0 : I (fun _ => false) a w.drew) (hall : AllOk P Q I 0 l)
    (hend : ∀ L a w, (∀ i, i < l.length → L i = true) → I L a w → Q .normal a w) : (Code.region id l.toArray true).wp P Q a w := by
  have key : ∀ (fuel : Nat) (listed : Array Bool) (a : Act) (w : World), listed.size = l.length → I (fun i => listed.getD i false) a w →
      (listed.toList.countP (· = false)) ≤ fuel → wpAny P .any l.toArray Q fuel listed a w := by
    intro fuel
    have done : ∀ (listed : Array Bool) (a : Act) (w : World), listed.size = l.length → I (fun i => listed.getD i false) a w → Region.ready .any l.toArray listed = [] → Q .normal a w := by
      intro listed a w hsz hI hr
      refine hend _ a w ?_ hI
      intro i hi
      induction i using Nat.strongRecOn with
      | _ i ih =>
        cases hli : listed.getD i true with
        | true =>
          have : i < listed.size := by omega
          simpa [this] using hli
        | false =>
          have hmem : i ∈ Region.ready .any l.toArray listed := by
            refine mem_ready.2 ⟨hli, l[i], by simp [hi], fun e he hb => ?_⟩
            have hlt := (plainFrom_get 0 l hp i l[i] (by simp [hi])).2 e (by simpa using he) hb
            exact ih e.on (by omega) (by omega)
          rw [hr] at hmem
          cases hmem
    induction fuel with
    | zero =>
      intro listed a w hsz hI hc
      have hr : Region.ready .any l.toArray listed = [] := by
        cases hr : Region.ready .any l.toArray listed with
        | nil => rfl
        | cons x xs =>
          have hx : x ∈ Region.ready .any l.toArray listed := by rw [hr]; exact List.mem_cons_self ..
          obtain ⟨h1, o, ho, _⟩ := mem_ready.1 hx
          have hlt : x < listed.size := by
            have := (Array.getElem?_eq_some_iff.1 ho).1
            simp at this; omega
          have hxf : listed[x] = false := by simpa [hlt] using h1
          have : listed[x] ∈ listed.toList := by simp
          have h2 := List.countP_pos_iff (p := fun b => decide (b = false)) |>.2 ⟨listed[x], this, by simp [hxf]⟩
          omega
      exact ⟨hr, done listed a w hsz hI hr⟩
    | succ fuel ihf =>
      intro listed a w hsz hI hc
      refine ⟨fun hr => done listed a w hsz hI hr, fun i hi => ?_⟩
      obtain ⟨h1, o, ho, hall'⟩ := mem_ready.1 hi
      have hlt : i < l.length := by
        have := (Array.getElem?_eq_some_iff.1 ho).1
        simpa using this
      have hlo : l[i]? = some o := by simpa using ho
      have hg := (plainFrom_get 0 l hp i o hlo).1
      have hop := AllOk_get 0 l hall i o hlo
      rw [Nat.zero_add] at hop
      have hlf : listed.getD i false = false := by
        have : i < listed.size := by omega
        simpa [this] using h1
      have hw := hop _ a w hI hlf (fun e he hb => hall' e (by simpa using he) hb)
      unfold wpOp
      simp only [ho]
      have hwant : Region.wanted o (yielded l.toArray a.tmps) = true := by simp [Region.wanted, hg]
      rw [if_pos hwant]
      refine Or.inl ?_
      have hmono : ∀ a' w', I (lset (fun j => listed.getD j false) i) a' w' → wpAny P .any l.toArray Q fuel (listed.setIfInBounds i true) a' w' := by
        intro a' w' hI'
        refine ihf _ a' w' (by simpa using hsz) ?_ ?_
        · have e : (fun j => (listed.setIfInBounds i true).getD j false) = lset (fun j => listed.getD j false) i := by
            funext j
            unfold lset
            by_cases hj : j = i
            · subst hj
              have : j < listed.size := by omega
              simp [this]
            · rw [if_neg hj]
              simp [Array.getElem?_setIfInBounds_ne (Ne.symm hj)]
          rw [e]; exact hI'
        · have hi' : i < listed.size := by omega
          have hcnt : (listed.setIfInBounds i true).toList.countP (fun b => decide (b = false)) + 1 = listed.toList.countP (fun b => decide (b = false)) := by
            have hxf : listed.toList[i]'(by simpa using hi') = false := by
              have : listed[i] = false := by simpa [hi'] using h1
              simpa using this
            have hset : (listed.setIfInBounds i true).toList = listed.toList.set i true := by simp
            rw [hset, List.countP_set (by simpa using hi')]
            have hpos := List.countP_pos_iff (p := fun b => decide (b = false)) |>.2 ⟨_, List.getElem_mem (l := listed.toList) (n := i) (by simpa using hi'), by simp [hxf]⟩
            rw [if_pos (by simp [hxf]), if_neg (by simp)]
            omega
          omega
      unfold Oper.wp at hw ⊢
      generalize (execOp a.eval o).run P w = r at hw
      cases r with
      | ok n w' =>
        cases n <;> simp only [Oper.upon] at hw ⊢
        case value u => exact hmono _ _ hw
        case skip => exact hmono _ _ hw
        case defer d => exact hmono _ _ hw
        case enter f args =>
          refine Calls.mono hw fun e w'' he => ?_
          cases e with
          | returned u => exact hmono _ _ he
          | panicked c => exact he
          | outgrown => exact he
        case row row args => exact Rows.mono hw fun u w'' he => hmono _ _ he
      | halt x w' =>
        cases x <;> simp only [Oper.upon] at hw ⊢
        case panic u => exact hw
  refine wp_region_any hm (key _ _ _ _ (by simp) ?_ ?_)
  · have e : (fun i => (Array.replicate l.toArray.size false).getD i false) = fun _ => false := by
      funext i
      by_cases hi : i < l.length
      · simp [hi]
      · simp [hi]
    rw [e]
    exact h0
  · have := List.countP_le_length (p := fun b => decide (b = false)) (l := (Array.replicate l.toArray.size false).toList)
    simpa using this

/-- The last operation waits for all others, itself or by one that it waits for. -/
def waitsAll (l : List Oper) (o : Oper) : Bool := (List.range l.length).all fun j => o.after.toList.any fun e => Region.binds .any e && (e.on == j || (match l[e.on]? with | some o' => o'.after.toList.any fun e' => Region.binds .any e' && e'.on == j | none => false))

def Closed (l : List Oper) (L : Nat → Bool) : Prop := ∀ j o, l[j]? = some o → L j = true → ∀ e ∈ o.after.toList, Region.binds .any e = true → L e.on = true

theorem Closed.set {l : List Oper} {L : Nat → Bool} (h : Closed l L) {i : Nat} {o : Oper} (ho : l[i]? = some o) (he : ∀ e ∈ o.after.toList, Region.binds .any e = true → L e.on = true) : Closed l (lset L i) := by
  intro j o' hj hL e hm hb
  unfold lset at hL ⊢
  by_cases hji : j = i
  · subst hji
    have : o' = o := Option.some.inj (hj.symm.trans ho)
    subst this
    split
    · rfl
    · exact he e hm hb
  · rw [if_neg hji] at hL
    split
    · rfl
    · exact h j o' hj hL e hm hb

theorem AllOk_append {P : Program} {Q : Exit → Act → World → Prop} {I : (Nat → Bool) → Act → World → Prop} : ∀ (k : Nat) (l : List Oper) (o : Oper), AllOk P Q I k l → OpOk P Q I (k + l.length) o → AllOk P Q I k (l ++ [o])
  | k, [], o, _, h => ⟨by simpa using h, trivial⟩
  | k, x :: r, o, h, h' => ⟨h.1, AllOk_append (k + 1) r o h.2 (by rwa [List.length_cons, show k + (r.length + 1) = k + 1 + r.length by omega] at h')⟩

theorem Oper.wp_mono' {P : Program} {o : Oper} {a : Act} {w : World} {K K' : Act → World → Prop} {Q : Exit → Act → World → Prop} (hm : ∀ a w, K a w → K' a w) (h : o.wp P a w K Q) : o.wp P a w K' Q := by
  unfold Oper.wp at h ⊢
  generalize (execOp a.eval o).run P w = r at h
  cases r with
  | ok n w' =>
    cases n <;> simp only [Oper.upon] at h ⊢
    case value u => exact hm _ _ h
    case skip => exact hm _ _ h
    case defer d => exact hm _ _ h
    case enter f args =>
      refine Calls.mono h fun e w'' he => ?_
      cases e with
      | returned u => exact hm _ _ he
      | panicked c => exact he
      | outgrown => exact he
    case row row args => exact Rows.mono h fun u w'' he => hm _ _ he
  | halt x w' =>
    cases x <;> simp only [Oper.upon] at h ⊢
    case panic u => exact h

theorem AllOk_imp {P : Program} {Q : Exit → Act → World → Prop} {I I' : (Nat → Bool) → Act → World → Prop} (l0 : List Oper) (h : ∀ i o, l0[i]? = some o → OpOk P Q I i o → OpOk P Q I' i o) : ∀ (k : Nat) (l : List Oper), (∀ j, l[j]? = l0[k + j]?) → AllOk P Q I k l → AllOk P Q I' k l
  | _, [], _, _ => trivial
  | k, o :: r, hk, hh => by
    refine ⟨h k o (by simpa using (hk 0).symm) hh.1, AllOk_imp l0 h (k + 1) r (fun j => ?_) hh.2⟩
    have := hk (j + 1)
    rw [List.getElem?_cons_succ] at this
    rw [this, show k + (j + 1) = k + 1 + j by omega]

theorem wp_region_last {P : Program} {id : Nat} {ops : Array Oper} (l : List Oper) (o : Oper) {Q : Exit → Act → World → Prop} {a : Act} {w : World} (hops : ops = (l ++ [o]).toArray) (hm : P.follows .mixedOrders = true)
    (I : (Nat → Bool) → Act → World → Prop) (hp : plainFrom 0 ops.toList = true) (hw : waitsAll l o = true) (h0 : I (fun _ => false) a w.drew) (hall : AllOk P Q I 0 l)
    (hend : ∀ L a w, (∀ i, i < l.length → L i = true) → I L a w → o.wp P a w (Q .normal) Q) : (Code.region id ops true).wp P Q a w := by
  subst hops
  refine wp_region_inv hm (fun L a w => (L l.length = false ∧ Closed l L ∧ I L a w) ∨ ((∀ i, i ≤ l.length → L i = true) ∧ Q .normal a w)) (by simpa using hp) (Or.inl ⟨rfl, fun _ _ _ h => (by cases h), h0⟩) ?_ ?_
  · refine AllOk_append 0 l o ?_ ?_
    · refine AllOk_imp l ?_ 0 l (fun j => by rw [Nat.zero_add]) hall
      intro i o' hi hok L a w hI hL he
      have hil : i < l.length := by
        rcases Nat.lt_or_ge i l.length with h | h
        · exact h
        · rw [List.getElem?_eq_none h] at hi; cases hi
      rcases hI with ⟨h1, hc, h2⟩ | ⟨h1, _⟩
      · refine Oper.wp_mono' (fun a w h => Or.inl ⟨?_, hc.set hi he, h⟩) (hok L a w h2 hL he)
        unfold lset
        rw [if_neg (by omega)]
        exact h1
      · rw [h1 i (by omega)] at hL; cases hL
    · intro L a w hI hL he
      rw [Nat.zero_add] at hL
      rcases hI with ⟨h1, hc, h2⟩ | ⟨h1, _⟩
      · have hdone : ∀ i, i < l.length → L i = true := by
          intro i hi
          have := List.all_eq_true.1 hw i (List.mem_range.2 hi)
          obtain ⟨e, he1, he2⟩ := List.any_eq_true.1 this
          simp only [Bool.and_eq_true, Bool.or_eq_true, beq_iff_eq] at he2
          have hLe := he e he1 he2.1
          rcases he2.2 with h | h
          · rw [← h]; exact hLe
          · cases ho' : l[e.on]? with
            | none => rw [ho'] at h; cases h
            | some o' =>
              rw [ho'] at h
              obtain ⟨e', he1', he2'⟩ := List.any_eq_true.1 h
              simp only [Bool.and_eq_true, beq_iff_eq] at he2'
              rw [← he2'.2]
              exact hc e.on o' ho' hLe e' he1' he2'.1
        refine Oper.wp_mono' (fun a w h => Or.inr ⟨?_, h⟩) (hend L a w hdone h2)
        intro i hi
        unfold lset
        by_cases hil : i = 0 + l.length
        · rw [if_pos hil]
        · rw [if_neg hil]; exact hdone i (by omega)
      · rw [h1 l.length (by omega)] at hL; cases hL
  · intro L a w hdone hI
    rcases hI with ⟨h1, _⟩ | ⟨_, h2⟩
    · rw [hdone l.length (by simp)] at h1; cases h1
    · exact h2
end Go.Proofs.YtioimhnebjiicaaDoor
