/-
  Proved here: what the code's parser makes of a text is what is read of the text's tokens.
-/
import Derived.Test.YtioimhnebjiicaaDoorTxtA
namespace Go.Proofs.YtioimhnebjiicaaDoor

abbrev Tok := List UInt8
abbrev marks : List UInt8 := [88, 80, 66, 68, 40, 41, 42, 43, 94]
def dB (c : UInt8) : Bool := isD (c.toNat : Int)
def hdD : List UInt8 → Bool
  | [] => false
  | c :: _ => dB c
def glue (c : UInt8) : Bool → List Tok → List Tok
  | true, t :: r => (c :: t) :: r
  | _, ts => [c] :: ts

/-- The tokens of a text, or none. -/
def tokT : List UInt8 → Option (List Tok)
  | [] => some []
  | c :: r => if c = 32 then tokT r else if dB c = true then (tokT r).map (glue c (hdD r)) else if c ∈ marks then (tokT r).map (fun ts => [c] :: ts) else none

theorem tok_cons (c : UInt8) (r : List UInt8) : tokT (c :: r) = if c = 32 then tokT r else if dB c = true then (tokT r).map (glue c (hdD r)) else if c ∈ marks then (tokT r).map (fun ts => [c] :: ts) else none := rfl

theorem tok_pk (l : List UInt8) : tokT (pk l) = tokT l := by
  induction l with
  | nil => rfl
  | cons c r ih =>
    by_cases h : c = 32
    · simp only [pk, tokT, if_pos h]; exact ih
    · simp only [pk, if_neg h]

theorem dB_32 : dB 32 = false := by decide
theorem dB_ne {c : UInt8} (h : dB c = true) : c ≠ 32 := by
  intro e; subst e; rw [dB_32] at h; cases h

theorem tok_digs (ds : List UInt8) : ∀ rest, ds ≠ [] → (∀ c ∈ ds, dB c = true) → hdD rest = false → tokT (ds ++ rest) = (tokT rest).map (fun ts => ds :: ts) := by
  induction ds with
  | nil => intro rest h; exact absurd rfl h
  | cons c ds ih =>
    intro rest _ hd hr
    have hc := hd c (by simp)
    have h32 := dB_ne hc
    cases ds with
    | nil =>
      simp only [List.singleton_append, tokT, if_neg h32, if_pos hc, hr]
      cases tokT rest <;> rfl
    | cons d ds =>
      have h1 := ih rest (by simp) (fun x hx => hd x (by simp [hx])) hr
      have hd1 := hd d (by simp)
      rw [List.cons_append, tok_cons, if_neg h32, if_pos hc, h1]
      have e : hdD (d :: ds ++ rest) = true := hd1
      rw [e]
      cases tokT rest <;> rfl

theorem dig_split (l : List UInt8) : ∀ a, dig a l = (cap17 a (l.takeWhile dB), l.dropWhile dB) := by
  induction l with
  | nil => intro a; rfl
  | cons c r ih =>
    intro a
    by_cases h : dB c = true
    · have h' : isD (c.toNat : Int) = true := h
      simp only [dig, List.takeWhile_cons, List.dropWhile_cons, h, h', if_true, cap17]
      exact ih _
    · have h' : ¬ isD (c.toNat : Int) = true := h
      simp only [dig, List.takeWhile_cons, List.dropWhile_cons, h, h', if_false, cap17, Bool.false_eq_true]

theorem hdD_drop (l : List UInt8) : hdD (l.dropWhile dB) = false := by
  induction l with
  | nil => rfl
  | cons c r ih =>
    by_cases h : dB c = true
    · simp only [List.dropWhile_cons, h, if_true]; exact ih
    · simp only [List.dropWhile_cons, h]
      simpa [hdD] using h

theorem take_all (l : List UInt8) : ∀ c ∈ l.takeWhile dB, dB c = true := by
  induction l with
  | nil => simp
  | cons c r ih =>
    by_cases h : dB c = true
    · simp only [List.takeWhile_cons, h, if_true]
      intro x hx
      rcases List.mem_cons.1 hx with rfl | hx
      · exact h
      · exact ih x hx
    · simp [List.takeWhile_cons, h]

theorem pk_nn (l : List UInt8) : pk l = [] ∨ ∃ c r, pk l = c :: r ∧ c ≠ 32 := by
  induction l with
  | nil => exact Or.inl rfl
  | cons c r ih =>
    by_cases h : c = 32
    · simp only [pk, if_pos h]; exact ih
    · simp only [pk, if_neg h]; exact Or.inr ⟨c, r, rfl, h⟩

/-- What comes next in a text. -/
theorem view (l : List UInt8) : (pk l = [] ∧ tokT l = some []) ∨
    (∃ c r ds rest, pk l = c :: r ∧ dB c = true ∧ hdD ds = true ∧ dig 0 (pk l) = (cap17 0 ds, rest) ∧ tokT l = (tokT rest).map (fun ts => ds :: ts)) ∨
    (∃ c r, pk l = c :: r ∧ dB c = false ∧ c ∈ marks ∧ tokT l = (tokT r).map (fun ts => [c] :: ts)) ∨
    (∃ c r, pk l = c :: r ∧ dB c = false ∧ c ∉ marks ∧ tokT l = none) := by
  rcases pk_nn l with h | ⟨c, r, h, h32⟩
  · refine Or.inl ⟨h, ?_⟩
    rw [← tok_pk, h]; rfl
  · by_cases hd : dB c = true
    · refine Or.inr (Or.inl ⟨c, r, (c :: r).takeWhile dB, (c :: r).dropWhile dB, h, hd, ?_, ?_, ?_⟩)
      · simp [List.takeWhile_cons, hd, hdD]
      · rw [h, dig_split]
      · rw [← tok_pk, h]
        conv => lhs; rw [← List.takeWhile_append_dropWhile (p := dB) (l := c :: r)]
        exact tok_digs _ _ (by simp [List.takeWhile_cons, hd]) (take_all _) (hdD_drop _)
    · have hd' : dB c = false := by simpa using hd
      by_cases hm : c ∈ marks
      · refine Or.inr (Or.inr (Or.inl ⟨c, r, h, hd', hm, ?_⟩))
        rw [← tok_pk, h]
        rw [tok_cons, if_neg h32, if_neg hd, if_pos hm]
      · refine Or.inr (Or.inr (Or.inr ⟨c, r, h, hd', hm, ?_⟩))
        rw [← tok_pk, h]
        rw [tok_cons, if_neg h32, if_neg hd, if_neg hm]

theorem glue_ne (c : UInt8) (b : Bool) (ts : List Tok) : glue c b ts ≠ [] := by
  cases b <;> cases ts <;> simp [glue]

theorem tok_nil {l : List UInt8} (h : tokT l = some []) : pk l = [] := by
  rcases view l with h1 | ⟨c, r, ds, rest, h1, _, _, _, h2⟩ | ⟨c, r, h1, _, _, h2⟩ | ⟨c, r, h1, _, _, h2⟩
  · exact h1.1
  · rw [h] at h2; cases h3 : tokT rest <;> rw [h3] at h2 <;> simp at h2
  · rw [h] at h2; cases h3 : tokT r <;> rw [h3] at h2 <;> simp at h2
  · rw [h] at h2; cases h2

theorem glue_len (c : UInt8) (b : Bool) (ts : List Tok) : (glue c b ts).length ≤ ts.length + 1 := by
  cases b <;> cases ts <;> simp [glue]
theorem tok_len (l : List UInt8) : ∀ ts, tokT l = some ts → ts.length ≤ l.length := by
  induction l with
  | nil => intro ts h; simp only [tokT, Option.some.injEq] at h; subst h; simp
  | cons c r ih =>
    intro ts h
    rw [tok_cons] at h
    split at h
    · have := ih ts h; simp only [List.length_cons]; omega
    split at h
    · cases h1 : tokT r with
      | none => rw [h1] at h; cases h
      | some us =>
        rw [h1] at h
        simp only [Option.map_some, Option.some.injEq] at h
        have := ih us h1
        have := glue_len c (hdD r) us
        rw [h] at this
        simp only [List.length_cons]; omega
    split at h
    · cases h1 : tokT r with
      | none => rw [h1] at h; cases h
      | some us =>
        rw [h1] at h
        simp only [Option.map_some, Option.some.injEq] at h
        have := ih us h1
        subst h
        simp only [List.length_cons]; omega
    · cases h

/-- A token: digits, or one byte that is none. -/
def TokOk (n : Nat) (t : Tok) : Prop := t ≠ [] ∧ t.length ≤ n ∧ (hdD t = true → ∀ c ∈ t, dB c = true)

theorem tok_ok (l : List UInt8) : ∀ n, l.length ≤ n → ∀ ts, tokT l = some ts → (hdD l = true → ∃ t r, ts = t :: r ∧ hdD t = true) ∧ ∀ t ∈ ts, TokOk n t := by
  induction l with
  | nil => intro n _ ts h; simp only [tokT, Option.some.injEq] at h; subst h; exact ⟨fun h => (by cases h), fun t ht => (by cases ht)⟩
  | cons c r ih =>
    intro n hn ts h
    simp only [List.length_cons] at hn
    rw [tok_cons] at h
    split at h
    · rename_i h32
      exact ⟨fun h => (by subst h32; cases h), (ih n (by omega) ts h).2⟩
    split at h
    · rename_i hd
      cases h1 : tokT r with
      | none => rw [h1] at h; cases h
      | some us =>
        rw [h1] at h
        simp only [Option.map_some, Option.some.injEq] at h
        have ih1 := ih (n - 1) (by omega) us h1
        have ih2 := ih n (by omega) us h1
        have one : TokOk n [c] := ⟨by simp, by simp; omega, fun _ x hx => by simp only [List.mem_singleton] at hx; subst hx; exact hd⟩
        cases hb : hdD r with
        | false =>
          rw [hb] at h
          simp only [glue] at h
          subst h
          refine ⟨fun _ => ⟨_, _, rfl, hd⟩, fun t ht => ?_⟩
          rcases List.mem_cons.1 ht with rfl | ht
          · exact one
          · exact ih2.2 t ht
        | true =>
          obtain ⟨t0, r0, rfl, ht0⟩ := ih1.1 hb
          rw [hb] at h
          simp only [glue] at h
          subst h
          refine ⟨fun _ => ⟨_, _, rfl, hd⟩, fun t ht => ?_⟩
          rcases List.mem_cons.1 ht with rfl | ht
          · have hk := ih1.2 t0 (by simp)
            refine ⟨by simp, by have := hk.2.1; simp only [List.length_cons]; omega, fun _ x hx => ?_⟩
            rcases List.mem_cons.1 hx with rfl | hx
            · exact hd
            · exact hk.2.2 ht0 x hx
          · exact ih2.2 t (by simp [ht])
    split at h
    · rename_i hd _
      cases h1 : tokT r with
      | none => rw [h1] at h; cases h
      | some us =>
        rw [h1] at h
        simp only [Option.map_some, Option.some.injEq] at h
        subst h
        refine ⟨fun h => absurd h hd, fun t ht => ?_⟩
        rcases List.mem_cons.1 ht with rfl | ht
        · exact ⟨by simp, by simp; omega, fun h => absurd h hd⟩
        · exact (ih n (by omega) us h1).2 t ht
    · cases h

def oneT (k : Int) (m : Option (F × List Tok)) : Option (F × List Tok) :=
  match m with
  | none => none
  | some (f, r) => some (⟨k, 0, f.one⟩, r)
def twoT (k : Int) (g : F) (m : Option (F × List Tok)) : Option (F × List Tok) :=
  match m with
  | none => none
  | some (f, r) => some (⟨k, 0, F.two g f⟩, r)
/-- A closing bracket is read. -/
def closeT : Option (F × List Tok) → Option (F × List Tok)
  | some (f, u :: r) => if u = [41] then some (f, r) else none
  | _ => none
def brT (J : List Tok → Option (F × List Tok)) : List Tok → Option (F × List Tok)
  | u :: r => if u = [40] then closeT (J r) else none
  | [] => none
def kindT (t : Tok) : Int := if t = [80] then 5 else if t = [66] then 6 else 7
def atomT (J : List Tok → Option (F × List Tok)) : List Tok → Option (F × List Tok)
  | [] => none
  | t :: r =>
    if t = [88] then some (⟨0, 0, .nil⟩, r)
    else if t = [80] ∨ t = [66] ∨ t = [68] then oneT (kindT t) (brT J r)
    else if t = [40] then brT J (t :: r)
    else if hdD t = true then some (⟨1, cap17 0 t, .nil⟩, r) else none
def powT (f : F) : List Tok → Option (F × List Tok)
  | v :: r => if hdD v = true then some (⟨4, cap17 0 v, f.one⟩, r) else none
  | [] => none
def hatT (f : F) : List Tok → Option (F × List Tok)
  | u :: r => if u = [94] then powT f r else some (f, u :: r)
  | [] => some (f, [])
def operandT (A : List Tok → Option (F × List Tok)) (ts : List Tok) : Option (F × List Tok) :=
  match A ts with
  | none => none
  | some (f, r) => hatT f r
def kind2T (u : Tok) : Int := if u = [42] then 2 else 3
def binT (O : List Tok → Option (F × List Tok)) (f : F) : List Tok → Option (F × List Tok)
  | u :: r => if u = [42] ∨ u = [43] then twoT (kind2T u) f (O r) else some (f, u :: r)
  | [] => some (f, [])
def functorT (O : List Tok → Option (F × List Tok)) (ts : List Tok) : Option (F × List Tok) :=
  match O ts with
  | none => none
  | some (f, r) => binT O f r
def atomN : Nat → List Tok → Option (F × List Tok)
  | 0, _ => none
  | n + 1, ts => atomT (functorT (operandT (atomN n))) ts

/-- What is read of a text is what is read of its tokens. -/
def Agr (m : Option (F × List UInt8)) (l : List UInt8) (J : List Tok → Option (F × List Tok)) : Prop :=
  match m with
  | none => ∀ ts, tokT l = some ts → J ts = none
  | some (f, r) => (tokT l = none ∧ tokT r = none) ∨ ∃ ts ts', tokT l = some ts ∧ tokT r = some ts' ∧ J ts = some (f, ts')

theorem Agr.skip {m : Option (F × List UInt8)} {l r : List UInt8} {t : Tok} {J J' : List Tok → Option (F × List Tok)} (h : Agr m r J') (hl : tokT l = (tokT r).map (fun ts => t :: ts)) (hJ : ∀ ts, J (t :: ts) = J' ts) : Agr m l J := by
  cases m with
  | none =>
    intro ts hts
    rw [hl] at hts
    cases h1 : tokT r with
    | none => rw [h1] at hts; cases hts
    | some us =>
      rw [h1] at hts
      simp only [Option.map_some, Option.some.injEq] at hts
      subst hts
      rw [hJ]; exact h us h1
  | some p =>
    rcases h with ⟨h1, h2⟩ | ⟨ts, ts', h1, h2, h3⟩
    · exact Or.inl ⟨by rw [hl, h1]; rfl, h2⟩
    · exact Or.inr ⟨t :: ts, ts', by rw [hl, h1]; rfl, h2, by rw [hJ]; exact h3⟩

theorem Agr.ext {m : Option (F × List UInt8)} {l l' : List UInt8} {J J' : List Tok → Option (F × List Tok)} (h : Agr m l J) (hl : tokT l' = tokT l) (hJ : ∀ ts, J' ts = J ts) : Agr m l' J' := by
  have : J' = J := funext hJ
  subst this
  unfold Agr at *
  rw [hl]
  exact h

theorem Agr.one {m : Option (F × List UInt8)} {l : List UInt8} {J : List Tok → Option (F × List Tok)} (h : Agr m l J) (k : Int) : Agr (oneR k m) l (fun ts => oneT k (J ts)) := by
  cases m with
  | none => intro ts hts; simp only [h ts hts, oneT]
  | some p =>
    rcases h with ⟨h1, h2⟩ | ⟨ts, ts', h1, h2, h3⟩
    · exact Or.inl ⟨h1, h2⟩
    · exact Or.inr ⟨ts, ts', h1, h2, by simp only [h3, oneT]⟩
theorem Agr.two {m : Option (F × List UInt8)} {l : List UInt8} {J : List Tok → Option (F × List Tok)} (h : Agr m l J) (k : Int) (g : F) : Agr (twoR k g m) l (fun ts => twoT k g (J ts)) := by
  cases m with
  | none => intro ts hts; simp only [h ts hts, twoT]
  | some p =>
    rcases h with ⟨h1, h2⟩ | ⟨ts, ts', h1, h2, h3⟩
    · exact Or.inl ⟨h1, h2⟩
    · exact Or.inr ⟨ts, ts', h1, h2, by simp only [h3, twoT]⟩

theorem Agr.none_of {l : List UInt8} {J : List Tok → Option (F × List Tok)} (h : tokT l = none) : Agr none l J := by
  intro ts hts; rw [h] at hts; cases hts

def bindR (m : Option (F × List UInt8)) (C : F → List UInt8 → Option (F × List UInt8)) : Option (F × List UInt8) :=
  match m with
  | none => none
  | some (f, r) => C f r
def bindT (m : Option (F × List Tok)) (C : F → List Tok → Option (F × List Tok)) : Option (F × List Tok) :=
  match m with
  | none => none
  | some (f, r) => C f r

/-- First one thing is read, then another. -/
theorem Agr.bind {m : Option (F × List UInt8)} {l : List UInt8} {J : List Tok → Option (F × List Tok)} (h : Agr m l J) {C : F → List UInt8 → Option (F × List UInt8)} {D : F → List Tok → Option (F × List Tok)}
    (hc : ∀ f r, Agr (C f r) r (D f)) : Agr (bindR m C) l (fun ts => bindT (J ts) D) := by
  cases m with
  | none => intro ts hts; simp only [h ts hts, bindT]
  | some p =>
    obtain ⟨f, r⟩ := p
    have hr := hc f r
    simp only [bindR]
    rcases h with ⟨h1, h2⟩ | ⟨ts, ts', h1, h2, h3⟩
    · cases hcc : C f r with
      | none => exact Agr.none_of h1
      | some q =>
        rw [hcc] at hr
        rcases hr with ⟨g1, g2⟩ | ⟨us, us', g1, g2, g3⟩
        · exact Or.inl ⟨h1, g2⟩
        · rw [h2] at g1; cases g1
    · cases hcc : C f r with
      | none =>
        rw [hcc] at hr
        intro us hus
        rw [h1] at hus
        obtain rfl := Option.some.inj hus
        simp only [h3, bindT]
        exact hr ts' h2
      | some q =>
        rw [hcc] at hr
        rcases hr with ⟨g1, g2⟩ | ⟨us, us', g1, g2, g3⟩
        · rw [h2] at g1; cases g1
        · rw [h2] at g1
          obtain rfl := Option.some.inj g1
          exact Or.inr ⟨ts, us', h1, g2, by simp only [h3, bindT]; exact g3⟩

theorem dB_hdc {c : UInt8} {r : List UInt8} : isD (hdc (c :: r)) = dB c := rfl
theorem byteN {c : UInt8} {n : Nat} (hn : n < 256) : ((c.toNat : Int) = (n : Int)) ↔ c = UInt8.ofNat n := by
  constructor
  · intro h
    apply UInt8.toNat_inj.1
    simp only [UInt8.toNat_ofNat']
    omega
  · intro h
    subst h
    simp only [UInt8.toNat_ofNat']
    omega

theorem agr_close (f : F) (r : List UInt8) : Agr (if hdc (pk r) = 41 then some (f, (pk r).drop 1) else none) r (fun ts => closeT (some (f, ts))) := by
  rcases view r with ⟨h1, h2⟩ | ⟨c, q, ds, rest, h1, h2, h3, h4, h5⟩ | ⟨c, q, h1, h2, h3, h4⟩ | ⟨c, q, h1, h2, h3, h4⟩
  · rw [h1]
    intro ts hts
    rw [h2] at hts
    obtain rfl := Option.some.inj hts
    rfl
  · have : hdc (pk r) ≠ 41 := by
      rw [h1]; intro h; simp only [hdc] at h
      have := (byteN (n := 41) (by omega)).1 h
      subst this; revert h2; decide
    rw [if_neg this]
    intro ts hts
    rw [h5] at hts
    cases h6 : tokT rest with
    | none => rw [h6] at hts; cases hts
    | some us =>
      rw [h6] at hts
      simp only [Option.map_some, Option.some.injEq] at hts
      subst hts
      have : ds ≠ [41] := by intro e; subst e; revert h3; decide
      simp only [closeT, if_neg this]
  · rw [h1]
    simp only [hdc, List.drop_one, List.tail_cons]
    by_cases h : (c.toNat : Int) = 41
    · rw [if_pos h]
      have hc := (byteN (n := 41) (by omega)).1 h
      have hc' : c = 41 := hc
      subst hc'
      cases h6 : tokT q with
      | none => exact Or.inl ⟨by rw [h4, h6]; rfl, h6⟩
      | some us => exact Or.inr ⟨[41] :: us, us, by rw [h4, h6]; rfl, h6, by simp [closeT]⟩
    · rw [if_neg h]
      intro ts hts
      rw [h4] at hts
      cases h6 : tokT q with
      | none => rw [h6] at hts; cases hts
      | some us =>
        rw [h6] at hts
        simp only [Option.map_some, Option.some.injEq] at hts
        subst hts
        have : ([c] : Tok) ≠ [41] := by intro e; simp only [List.cons.injEq, and_true] at e; subst e; exact h rfl
        simp only [closeT, if_neg this]
  · have : hdc (pk r) ≠ 41 := by
      rw [h1]; intro h; simp only [hdc] at h
      have := (byteN (n := 41) (by omega)).1 h
      subst this; revert h3; decide
    rw [if_neg this]
    exact Agr.none_of h4

theorem agr_inBr {I : List UInt8 → Option (F × List UInt8)} {J : List Tok → Option (F × List Tok)} (h : ∀ l, Agr (I l) l J) (l : List UInt8) : Agr (inBrM I l) l (fun ts => closeT (J ts)) := by
  have := (h l).bind (C := fun f r => if hdc (pk r) = 41 then some (f, (pk r).drop 1) else none) (D := fun f ts => closeT (some (f, ts))) agr_close
  have e : inBrM I l = bindR (I l) (fun f r => if hdc (pk r) = 41 then some (f, (pk r).drop 1) else none) := by unfold inBrM bindR; cases I l <;> rfl
  rw [e]
  refine this.ext rfl fun ts => ?_
  cases J ts <;> rfl
end Go.Proofs.YtioimhnebjiicaaDoor

namespace Go.Proofs.YtioimhnebjiicaaDoor

theorem hdc_ofNat {c : UInt8} {r : List UInt8} {n : Nat} (hn : n < 256) : (hdc (c :: r) = (n : Int)) ↔ c = UInt8.ofNat n := byteN hn

theorem agr_br {I : List UInt8 → Option (F × List UInt8)} {J : List Tok → Option (F × List Tok)} (h : ∀ l, Agr (I l) l (fun ts => closeT (J ts))) (r : List UInt8) :
    Agr (if hdc (pk r) = 40 then I ((pk r).drop 1) else none) r (brT J) := by
  rcases view r with ⟨h1, h2⟩ | ⟨c, q, ds, rest, h1, h2, h3, h4, h5⟩ | ⟨c, q, h1, h2, h3, h4⟩ | ⟨c, q, h1, h2, h3, h4⟩
  · rw [h1]
    intro ts hts
    rw [h2] at hts
    obtain rfl := Option.some.inj hts
    rfl
  · have : hdc (pk r) ≠ 40 := by
      rw [h1]; intro h
      have := (hdc_ofNat (n := 40) (by omega)).1 h
      subst this; revert h2; decide
    rw [if_neg this]
    intro ts hts
    rw [h5] at hts
    cases h6 : tokT rest with
    | none => rw [h6] at hts; cases hts
    | some us =>
      rw [h6] at hts
      simp only [Option.map_some, Option.some.injEq] at hts
      subst hts
      have : ds ≠ [40] := by intro e; subst e; revert h3; decide
      simp only [brT, if_neg this]
  · rw [h1]
    simp only [List.drop_one, List.tail_cons]
    by_cases hc : c = 40
    · subst hc
      rw [if_pos (by rfl)]
      exact (h q).skip h4 fun ts => by simp [brT]
    · have : hdc (c :: q) ≠ 40 := fun h => hc ((hdc_ofNat (n := 40) (by omega)).1 h)
      rw [if_neg this]
      intro ts hts
      rw [h4] at hts
      cases h6 : tokT q with
      | none => rw [h6] at hts; cases hts
      | some us =>
        rw [h6] at hts
        simp only [Option.map_some, Option.some.injEq] at hts
        subst hts
        have : ([c] : Tok) ≠ [40] := by intro e; simp only [List.cons.injEq, and_true] at e; exact hc e
        simp only [brT, if_neg this]
  · have : hdc (pk r) ≠ 40 := by
      rw [h1]; intro h
      have := (hdc_ofNat (n := 40) (by omega)).1 h
      subst this; revert h3; decide
    rw [if_neg this]
    exact Agr.none_of h4

/-- One token is read, and no more. -/
theorem Agr.tok {l r : List UInt8} {t : Tok} {f : F} {J : List Tok → Option (F × List Tok)} (hl : tokT l = (tokT r).map (fun ts => t :: ts)) (hJ : ∀ ts, J (t :: ts) = some (f, ts)) : Agr (some (f, r)) l J := by
  cases h6 : tokT r with
  | none => exact Or.inl ⟨by rw [hl, h6]; rfl, h6⟩
  | some us => exact Or.inr ⟨t :: us, us, by rw [hl, h6]; rfl, h6, hJ us⟩
theorem Agr.no {l r : List UInt8} {t : Tok} {J : List Tok → Option (F × List Tok)} (hl : tokT l = (tokT r).map (fun ts => t :: ts)) (hJ : ∀ ts, J (t :: ts) = none) : Agr none l J := by
  intro ts hts
  rw [hl] at hts
  cases h6 : tokT r with
  | none => rw [h6] at hts; cases hts
  | some us =>
    rw [h6] at hts
    simp only [Option.map_some, Option.some.injEq] at hts
    subst hts
    exact hJ us

theorem dig_not {ds : Tok} (h : hdD ds = true) : ds ≠ [88] ∧ ds ≠ [80] ∧ ds ≠ [66] ∧ ds ≠ [68] ∧ ds ≠ [40] ∧ ds ≠ [41] ∧ ds ≠ [42] ∧ ds ≠ [43] ∧ ds ≠ [94] := by
  refine ⟨?_, ?_, ?_, ?_, ?_, ?_, ?_, ?_, ?_⟩ <;> (intro e; subst e; revert h; decide)

theorem dB_not {c : UInt8} (h : dB c = true) : c ≠ 88 ∧ c ≠ 80 ∧ c ≠ 66 ∧ c ≠ 68 ∧ c ≠ 40 ∧ c ≠ 41 ∧ c ≠ 42 ∧ c ≠ 43 ∧ c ≠ 94 := by
  refine ⟨?_, ?_, ?_, ?_, ?_, ?_, ?_, ?_, ?_⟩ <;> (intro e; subst e; revert h; decide)

theorem num_no {l : List UInt8} {c : UInt8} {r : List UInt8} (h : pk l = c :: r) (hd : dB c = false) : num l = none := by
  unfold num
  rw [h, dB_hdc, hd]
  rfl

theorem hdc_ne {c : UInt8} {q : List UInt8} (n : Nat) (hn : n < 256) (hc : c ≠ UInt8.ofNat n) : hdc (c :: q) ≠ (n : Int) := fun hh => hc ((hdc_ofNat hn).1 hh)

theorem first_num {I : List UInt8 → Option (F × List UInt8)} {l : List UInt8} {c : UInt8} {q : List UInt8} (h1 : pk l = c :: q) (n1 : c ≠ 88) (n2 : c ≠ 80) (n3 : c ≠ 66) (n4 : c ≠ 68) (n5 : c ≠ 40) :
    firstM I l = match num l with
      | none => none
      | some (v, r) => some (⟨1, v, .nil⟩, r) := by
  have a1 : hdc (c :: q) ≠ 88 := hdc_ne 88 (by omega) n1
  have a2 : hdc (c :: q) ≠ 80 := hdc_ne 80 (by omega) n2
  have a3 : hdc (c :: q) ≠ 66 := hdc_ne 66 (by omega) n3
  have a4 : hdc (c :: q) ≠ 68 := hdc_ne 68 (by omega) n4
  have a5 : hdc (c :: q) ≠ 40 := hdc_ne 40 (by omega) n5
  unfold firstM
  rw [h1, if_neg a1, if_neg a5, if_neg (by rintro (h | h | h); exact a2 h; exact a3 h; exact a4 h)]
  cases num l <;> rfl

theorem agr_first {I : List UInt8 → Option (F × List UInt8)} {J : List Tok → Option (F × List Tok)} (h : ∀ l, Agr (I l) l (fun ts => closeT (J ts))) (l : List UInt8) : Agr (firstM I l) l (atomT J) := by
  rcases view l with ⟨h1, h2⟩ | ⟨c, q, ds, rest, h1, h2, h3, h4, h5⟩ | ⟨c, q, h1, h2, h3, h4⟩ | ⟨c, q, h1, h2, h3, h4⟩
  · have : firstM I l = none := by unfold firstM num; rw [h1]; rfl
    rw [this]
    intro ts hts
    rw [h2] at hts
    obtain rfl := Option.some.inj hts
    rfl
  · obtain ⟨n1, n2, n3, n4, n5, _⟩ := dB_not h2
    have e : firstM I l = some (⟨1, cap17 0 ds, .nil⟩, rest) := by
      rw [first_num h1 n1 n2 n3 n4 n5]
      have : num l = some (cap17 0 ds, rest) := by
        unfold num
        have hx : isD (hdc (pk l)) = true := by rw [h1]; exact h2
        rw [if_pos hx, h4]
      rw [this]
    rw [e]
    obtain ⟨m1, m2, m3, m4, m5, _⟩ := dig_not h3
    exact Agr.tok h5 fun ts => by simp only [atomT, if_neg m1, if_neg m5, m2, m3, m4, or_self, if_false, h3, if_true]
  · by_cases c1 : c = 88
    · subst c1
      have e : firstM I l = some (⟨0, 0, .nil⟩, q) := by unfold firstM; rw [h1, if_pos (by rfl)]; rfl
      rw [e]
      exact Agr.tok h4 fun ts => by simp [atomT]
    by_cases c5 : c = 40
    · subst c5
      have e : firstM I l = I q := by unfold firstM; rw [h1, if_neg (by simp [hdc]), if_pos (by rfl)]; rfl
      rw [e]
      exact (h q).skip h4 fun ts => by simp [atomT, brT]
    have key : ∀ n : Nat, n = 80 ∨ n = 66 ∨ n = 68 → c = UInt8.ofNat n → Agr (firstM I l) l (atomT J) := by
      intro n hn hc
      subst hc
      have hb := (agr_br h q).one (kindT [UInt8.ofNat n])
      have e : firstM I l = oneR (kindT [UInt8.ofNat n]) (if hdc (pk q) = 40 then I ((pk q).drop 1) else none) := by
        unfold firstM
        rw [h1]
        rcases hn with rfl | rfl | rfl
        · rw [if_neg (by simp [hdc]), if_neg (by simp [hdc]), if_pos (by simp [hdc])]
          simp only [List.drop_one, List.tail_cons]
          by_cases hh : hdc (pk q) = 40
          · rw [if_pos hh, if_pos hh]; rfl
          · rw [if_neg hh, if_neg hh]; rfl
        · rw [if_neg (by simp [hdc]), if_neg (by simp [hdc]), if_pos (by simp [hdc])]
          simp only [List.drop_one, List.tail_cons]
          by_cases hh : hdc (pk q) = 40
          · rw [if_pos hh, if_pos hh]; rfl
          · rw [if_neg hh, if_neg hh]; rfl
        · rw [if_neg (by simp [hdc]), if_neg (by simp [hdc]), if_pos (by simp [hdc])]
          simp only [List.drop_one, List.tail_cons]
          by_cases hh : hdc (pk q) = 40
          · rw [if_pos hh, if_pos hh]; rfl
          · rw [if_neg hh, if_neg hh]; rfl
      rw [e]
      refine hb.skip h4 fun ts => ?_
      rcases hn with rfl | rfl | rfl <;> rfl
    by_cases c2 : c = 80
    · exact key 80 (Or.inl rfl) c2
    by_cases c3 : c = 66
    · exact key 66 (Or.inr (Or.inl rfl)) c3
    by_cases c4 : c = 68
    · exact key 68 (Or.inr (Or.inr rfl)) c4
    have e : firstM I l = none := by
      rw [first_num h1 c1 c2 c3 c4 c5, num_no h1 h2]
    rw [e]
    refine Agr.no h4 fun ts => ?_
    simp [atomT, c1, c2, c3, c4, c5, hdD, h2]
  · have n : c ≠ 88 ∧ c ≠ 80 ∧ c ≠ 66 ∧ c ≠ 68 ∧ c ≠ 40 := by
      refine ⟨?_, ?_, ?_, ?_, ?_⟩ <;> (intro e; subst e; revert h3; decide)
    obtain ⟨c1, c2, c3, c4, c5⟩ := n
    have e : firstM I l = none := by
      rw [first_num h1 c1 c2 c3 c4 c5, num_no h1 h2]
    rw [e]
    exact Agr.none_of h4

theorem agr_num (f : F) (r : List UInt8) : Agr (powR (num r) f) r (powT f) := by
  rcases view r with ⟨h1, h2⟩ | ⟨c, q, ds, rest, h1, h2, h3, h4, h5⟩ | ⟨c, q, h1, h2, h3, h4⟩ | ⟨c, q, h1, h2, h3, h4⟩
  · have : num r = none := by unfold num; rw [h1]; rfl
    rw [this]
    intro ts hts
    rw [h2] at hts
    obtain rfl := Option.some.inj hts
    rfl
  · have : num r = some (cap17 0 ds, rest) := by
      unfold num
      have hx : isD (hdc (pk r)) = true := by rw [h1]; exact h2
      rw [if_pos hx, h4]
    rw [this]
    exact Agr.tok h5 fun ts => by simp [powT, h3]
  · rw [num_no h1 h2]
    exact Agr.no h4 fun ts => by simp [powT, hdD, h2]
  · rw [num_no h1 h2]
    exact Agr.none_of h4

theorem agr_hat (f : F) (r : List UInt8) : Agr (powM r f) r (hatT f) := by
  unfold powM
  rcases view r with ⟨h1, h2⟩ | ⟨c, q, ds, rest, h1, h2, h3, h4, h5⟩ | ⟨c, q, h1, h2, h3, h4⟩ | ⟨c, q, h1, h2, h3, h4⟩
  · rw [h1, if_neg (by decide)]
    exact Or.inr ⟨[], [], h2, rfl, rfl⟩
  · have hn : hdc (pk r) ≠ 94 := by rw [h1]; exact fun h => (dB_not h2).2.2.2.2.2.2.2.2 ((hdc_ofNat (n := 94) (by omega)).1 h)
    rw [if_neg hn]
    have m := (dig_not h3).2.2.2.2.2.2.2.2
    cases h6 : tokT rest with
    | none => exact Or.inl ⟨by rw [h5, h6]; rfl, by rw [tok_pk, h5, h6]; rfl⟩
    | some us => exact Or.inr ⟨ds :: us, ds :: us, by rw [h5, h6]; rfl, by rw [tok_pk, h5, h6]; rfl, by simp only [hatT, if_neg m]⟩
  · by_cases hc : c = 94
    · subst hc
      rw [h1, if_pos (by rfl)]
      exact (agr_num f q).skip h4 fun ts => by simp [hatT]
    · have hn : hdc (pk r) ≠ 94 := by rw [h1]; exact fun h => hc ((hdc_ofNat (n := 94) (by omega)).1 h)
      rw [if_neg hn]
      cases h6 : tokT q with
      | none => exact Or.inl ⟨by rw [h4, h6]; rfl, by rw [tok_pk, h4, h6]; rfl⟩
      | some us => exact Or.inr ⟨[c] :: us, [c] :: us, by rw [h4, h6]; rfl, by rw [tok_pk, h4, h6]; rfl, by simp [hatT, hc]⟩
  · have hn : hdc (pk r) ≠ 94 := by
      rw [h1]
      intro h
      have := (hdc_ofNat (n := 94) (by omega)).1 h
      subst this; revert h3; decide
    rw [if_neg hn]
    exact Or.inl ⟨h4, by rw [tok_pk, h4]⟩

theorem agr_operand {I : List UInt8 → Option (F × List UInt8)} {J : List Tok → Option (F × List Tok)} (h : ∀ l, Agr (I l) l J) (l : List UInt8) : Agr (operandM I l) l (operandT J) := by
  have e : operandM I l = bindR (I l) (fun f r => powM r f) := by unfold operandM bindR; cases I l <;> rfl
  rw [e]
  refine ((h l).bind (D := hatT) agr_hat).ext rfl fun ts => ?_
  unfold operandT bindT
  cases J ts <;> rfl

theorem agr_bin {O : List UInt8 → Option (F × List UInt8)} {J : List Tok → Option (F × List Tok)} (h : ∀ l, Agr (O l) l J) (f : F) (r : List UInt8) : Agr (binM O r f) r (binT J f) := by
  unfold binM
  rcases view r with ⟨h1, h2⟩ | ⟨c, q, ds, rest, h1, h2, h3, h4, h5⟩ | ⟨c, q, h1, h2, h3, h4⟩ | ⟨c, q, h1, h2, h3, h4⟩
  · rw [h1, if_neg (by decide)]
    exact Or.inr ⟨[], [], h2, rfl, rfl⟩
  · have hn : ¬ (hdc (pk r) = 42 ∨ hdc (pk r) = 43) := by
      rw [h1]
      rintro (h | h)
      · exact (dB_not h2).2.2.2.2.2.2.1 ((hdc_ofNat (n := 42) (by omega)).1 h)
      · exact (dB_not h2).2.2.2.2.2.2.2.1 ((hdc_ofNat (n := 43) (by omega)).1 h)
    rw [if_neg hn]
    obtain ⟨_, _, _, _, _, _, m1, m2, _⟩ := dig_not h3
    cases h6 : tokT rest with
    | none => exact Or.inl ⟨by rw [h5, h6]; rfl, by rw [tok_pk, h5, h6]; rfl⟩
    | some us => exact Or.inr ⟨ds :: us, ds :: us, by rw [h5, h6]; rfl, by rw [tok_pk, h5, h6]; rfl, by simp only [binT, m1, m2, or_self, if_false]⟩
  · by_cases hc : c = 42 ∨ c = 43
    · rw [h1]
      have h0 := (h q).two (kind2T [c]) f
      rcases hc with rfl | rfl
      · rw [if_pos (show hdc (42 :: q) = 42 ∨ hdc (42 :: q) = 43 from Or.inl rfl)]
        exact h0.skip h4 fun ts => by simp [binT]
      · rw [if_pos (show hdc (43 :: q) = 42 ∨ hdc (43 :: q) = 43 from Or.inr rfl)]
        exact h0.skip h4 fun ts => by simp [binT]
    · have hn : ¬ (hdc (pk r) = 42 ∨ hdc (pk r) = 43) := by
        rw [h1]
        rintro (h | h)
        · exact hc (Or.inl ((hdc_ofNat (n := 42) (by omega)).1 h))
        · exact hc (Or.inr ((hdc_ofNat (n := 43) (by omega)).1 h))
      rw [if_neg hn]
      cases h6 : tokT q with
      | none => exact Or.inl ⟨by rw [h4, h6]; rfl, by rw [tok_pk, h4, h6]; rfl⟩
      | some us => exact Or.inr ⟨[c] :: us, [c] :: us, by rw [h4, h6]; rfl, by rw [tok_pk, h4, h6]; rfl, by simp only [binT, List.cons.injEq, and_true, if_neg hc]⟩
  · have hn : ¬ (hdc (pk r) = 42 ∨ hdc (pk r) = 43) := by
      rw [h1]
      rintro (h | h)
      · have := (hdc_ofNat (n := 42) (by omega)).1 h
        subst this; revert h3; decide
      · have := (hdc_ofNat (n := 43) (by omega)).1 h
        subst this; revert h3; decide
    rw [if_neg hn]
    exact Or.inl ⟨h4, by rw [tok_pk, h4]⟩

theorem agr_expr {O : List UInt8 → Option (F × List UInt8)} {J : List Tok → Option (F × List Tok)} (h : ∀ l, Agr (O l) l J) (l : List UInt8) : Agr (exprM O l) l (functorT J) := by
  have e : exprM O l = bindR (O l) (fun f r => binM O r f) := by unfold exprM bindR; cases O l <;> rfl
  rw [e]
  refine ((h l).bind (D := binT J) (agr_bin h)).ext rfl fun ts => ?_
  unfold functorT bindT
  cases J ts <;> rfl

theorem agr_firstN (n : Nat) : ∀ l, Agr (firstN n l) l (atomN n) := by
  induction n with
  | zero => intro l ts _; rfl
  | succ n ih => intro l; exact agr_first (agr_inBr (agr_expr (agr_operand ih))) l

/-- What the reference's reader makes of tokens. -/
def readT (n : Nat) (ts : List Tok) : Option (F × List Tok) := functorT (operandT (atomN n)) ts

/-- The text's answer, said by its tokens. -/
theorem parse_tok (s : ByteArray) (h : s.size ≤ 40000) : parseOf s = match tokT s.data.toList with
    | none => (zeroF, 11)
    | some ts => match readT (s.size + 1) ts with
      | none => (zeroF, 11)
      | some (f, r) => if r = [] then (if valid f.k f.n f.t then (f, 0) else (zeroF, 10)) else (zeroF, 11) := by
  have hl : s.data.toList.length = s.size := Array.length_toList
  have := agr_expr (agr_operand (agr_firstN (s.data.toList.length + 1))) s.data.toList
  unfold parseOf
  rw [if_neg (by omega)]
  unfold exprT readT
  rw [← hl]
  cases hm : exprM (operandM (firstN (s.data.toList.length + 1))) s.data.toList with
  | none =>
    rw [hm] at this
    cases ht : tokT s.data.toList with
    | none => rfl
    | some ts =>
      have e := this ts ht
      dsimp only
      rw [e]
  | some p =>
    obtain ⟨f, r⟩ := p
    rw [hm] at this
    rcases this with ⟨h1, h2⟩ | ⟨ts, ts', h1, h2, h3⟩
    · have : pk r ≠ [] := by intro e; rw [← tok_pk, e] at h2; cases h2
      simp only [h1, if_neg this]
    · simp only [h1, h3]
      by_cases hp : pk r = []
      · rw [← tok_pk, hp] at h2
        have : ts' = [] := (Option.some.inj h2).symm
        simp only [hp, this, if_true]
      · have : ts' ≠ [] := by intro e; subst e; exact hp (tok_nil h2)
        simp only [if_neg hp, if_neg this]
end Go.Proofs.YtioimhnebjiicaaDoor
