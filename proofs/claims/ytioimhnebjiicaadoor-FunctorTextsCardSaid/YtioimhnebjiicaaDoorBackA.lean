/-
  Proved here: a plain functor's text, read by the document's rule, is that functor.
-/
import Derived.Test.YtioimhnebjiicaaDoorAwake
namespace Go.Proofs.YtioimhnebjiicaaDoor

def okRest (l : List UInt8) : Prop := l = [] ∨ ∃ c r, l = c :: r ∧ (c = 32 ∨ c = 41)

theorem firstM_pk (I : List UInt8 → Option (F × List UInt8)) (l : List UInt8) : firstM I (pk l) = firstM I l := by
  simp only [firstM, pk_pk, num_pk]
theorem firstN_pk (m : Nat) (l : List UInt8) : firstN m (pk l) = firstN m l := by
  cases m with
  | zero => rfl
  | succ m => exact firstM_pk _ l
theorem operandM_pk (m : Nat) (l : List UInt8) : operandM (firstN m) (pk l) = operandM (firstN m) l := by
  simp only [operandM, firstN_pk]
theorem operandM_blank (m : Nat) (l : List UInt8) : operandM (firstN m) (32 :: l) = operandM (firstN m) l := by
  rw [← operandM_pk m (32 :: l), ← operandM_pk m l]
  rfl

/-- A text that reads as the functor, as a whole functor, as an operand, as a first part. -/
def RdE (f : F) (s : List UInt8) : Prop := ∀ m rest, s.length < m → okRest rest → hdc (pk rest) ≠ 94 → hdc (pk rest) ≠ 42 → hdc (pk rest) ≠ 43 → ∃ r, exprM (operandM (firstN m)) (s ++ rest) = some (f, r) ∧ pk r = pk rest
def RdO (f : F) (s : List UInt8) : Prop := ∀ m rest, s.length < m → okRest rest → hdc (pk rest) ≠ 94 → ∃ r, operandM (firstN m) (s ++ rest) = some (f, r) ∧ pk r = pk rest
def RdF (f : F) (s : List UInt8) : Prop := ∀ m rest, s.length < m → okRest rest → firstN m (s ++ rest) = some (f, rest)

theorem RdF.toO {f : F} {s : List UInt8} (h : RdF f s) : RdO f s := by
  intro m rest hm hr h94
  refine ⟨pk rest, ?_, pk_pk rest⟩
  unfold operandM
  rw [h m rest hm hr]
  simp only [powM]
  rw [if_neg h94]

theorem RdO.toE {f : F} {s : List UInt8} (h : RdO f s) : RdE f s := by
  intro m rest hm hr h94 h42 h43
  obtain ⟨r, h1, h2⟩ := h m rest hm hr h94
  refine ⟨pk r, ?_, by rw [pk_pk, h2]⟩
  unfold exprM
  rw [h1]
  simp only [binM]
  rw [if_neg (by rw [h2]; exact fun e => e.elim h42 h43)]

theorem inBr_rd {f : F} {s : List UInt8} (h : RdE f s) (m : Nat) (rest : List UInt8) (hm : s.length < m) : inBrM (exprM (operandM (firstN m))) (s ++ 41 :: rest) = some (f, rest) := by
  obtain ⟨r, h1, h2⟩ := h m (41 :: rest) hm (Or.inr ⟨41, rest, rfl, Or.inr rfl⟩) (by simp [pk, hdc]) (by simp [pk, hdc]) (by simp [pk, hdc])
  have e : pk (41 :: rest) = 41 :: rest := by simp [pk]
  unfold inBrM
  rw [h1]
  simp only [h2, e]
  rw [if_pos (by rfl)]
  rfl

theorem wrap_app (s rest : List UInt8) : wrapS s ++ rest = 40 :: (s ++ 41 :: rest) := by simp [wrapS]

theorem RdE.wrap {f : F} {s : List UInt8} (h : RdE f s) : RdF f (wrapS s) := by
  intro m rest hm hr
  cases m with
  | zero => omega
  | succ m =>
    rw [wrap_len] at hm
    rw [wrap_app]
    show firstM _ _ = _
    have e : pk (40 :: (s ++ 41 :: rest)) = 40 :: (s ++ 41 :: rest) := by simp [pk]
    unfold firstM
    rw [e, if_neg (by simp [hdc]), if_pos (by simp [hdc])]
    exact inBr_rd h m rest (by omega)

theorem rd_X : RdF ⟨0, 0, .nil⟩ [88] := by
  intro m rest hm hr
  cases m with
  | zero => omega
  | succ m =>
    show firstM _ _ = _
    have e : pk ([88] ++ rest) = 88 :: rest := by simp [pk]
    unfold firstM
    rw [e, if_pos (by simp [hdc])]
    rfl

theorem dig_rest (a : Int) {rest : List UInt8} (h : okRest rest) : dig a rest = (a, rest) := by
  rcases h with rfl | ⟨c, r, rfl, hc⟩
  · rfl
  · have : isD (c.toNat : Int) = false := by rcases hc with rfl | rfl <;> decide
    simp [dig, this]

theorem dig_digs {n : Int} (h0 : 0 ≤ n) (h16 : n ≤ 16) {rest : List UInt8} (h : okRest rest) : num (digs n ++ rest) = some (n, rest) ∧ pk (digs n ++ rest) = digs n ++ rest ∧ isD (hdc (digs n ++ rest)) = true := by
  have hr := fun a => dig_rest a h
  have : n = 0 ∨ n = 1 ∨ n = 2 ∨ n = 3 ∨ n = 4 ∨ n = 5 ∨ n = 6 ∨ n = 7 ∨ n = 8 ∨ n = 9 ∨ n = 10 ∨ n = 11 ∨ n = 12 ∨ n = 13 ∨ n = 14 ∨ n = 15 ∨ n = 16 := by omega
  rcases this with rfl | rfl | rfl | rfl | rfl | rfl | rfl | rfl | rfl | rfl | rfl | rfl | rfl | rfl | rfl | rfl | rfl
  all_goals
    refine ⟨?_, ?_, ?_⟩
    · simp [num, digs, pk, hdc, isD, dig, hr] <;> omega
    · simp [digs, pk]
    · simp [digs, hdc, isD]

theorem rd_const {n : Int} (h0 : 0 ≤ n) (h16 : n ≤ 16) : RdF ⟨1, n, .nil⟩ (digs n) := by
  intro m rest hm hr
  obtain ⟨h1, h2, h3⟩ := dig_digs h0 h16 hr
  cases m with
  | zero => omega
  | succ m =>
    show firstM _ _ = _
    unfold firstM
    rw [h2]
    have hd : ∀ c : Int, isD c = false → hdc (digs n ++ rest) ≠ c := by intro c hc e; rw [e, hc] at h3; cases h3
    rw [if_neg (hd _ (by decide)), if_neg (hd _ (by decide)), if_neg (fun e => e.elim (hd _ (by decide)) (fun e => e.elim (hd _ (by decide)) (hd _ (by decide)))), h1]

theorem rd_elem {f : F} {s : List UInt8} (h : RdE f s) {k : Int} (hk : k = 5 ∨ k = 6 ∨ k = 7) : RdF ⟨k, 0, f.one⟩ (tokS k :: wrapS s) := by
  intro m rest hm hr
  cases m with
  | zero => omega
  | succ m =>
    show firstM _ _ = _
    simp only [List.length_cons, wrap_len] at hm
    have hc : (tokS k :: wrapS s) ++ rest = tokS k :: 40 :: (s ++ 41 :: rest) := by rw [List.cons_append, wrap_app]
    rw [hc]
    have hi := inBr_rd h m rest (by omega)
    have e2 : pk (40 :: (s ++ 41 :: rest)) = 40 :: (s ++ 41 :: rest) := by simp [pk]
    rcases hk with rfl | rfl | rfl
    all_goals
      unfold firstM
      simp only [tokS]
      simp only [pk, hdc]
      simp [oneR, kindOf]
      rw [e2]
      simp [hi]

theorem rd_pow {f : F} {s : List UInt8} (h : RdF f s) {n : Int} (h0 : 0 ≤ n) (h16 : n ≤ 16) : RdO ⟨4, n, f.one⟩ (s ++ [32, 94, 32] ++ digs n) := by
  intro m rest hm hr h94
  obtain ⟨h1, h2, h3⟩ := dig_digs h0 h16 hr
  refine ⟨rest, ?_, rfl⟩
  have e : s ++ [32, 94, 32] ++ digs n ++ rest = s ++ (32 :: 94 :: 32 :: (digs n ++ rest)) := by simp
  rw [e]
  unfold operandM
  simp only [List.length_append] at hm
  rw [h m _ (by omega) (Or.inr ⟨32, _, rfl, Or.inl rfl⟩)]
  have e1 : pk (32 :: 94 :: 32 :: (digs n ++ rest)) = 94 :: 32 :: (digs n ++ rest) := by simp [pk]
  simp only [powM, e1]
  rw [if_pos (by simp [hdc])]
  have e3 : (94 :: 32 :: (digs n ++ rest)).drop 1 = 32 :: (digs n ++ rest) := rfl
  rw [e3]
  have e4 : num (32 :: (digs n ++ rest)) = some (n, rest) := by
    rw [← num_pk, show pk (32 :: (digs n ++ rest)) = pk (digs n ++ rest) from by simp [pk], num_pk]; exact h1
  rw [e4]
  rfl

theorem rd_bin {f g : F} {s t : List UInt8} (hf : RdO f s) (hg : RdO g t) {k : Int} (hk : k = 2 ∨ k = 3) : RdE ⟨k, 0, F.two f g⟩ (s ++ [32, tokS k, 32] ++ t) := by
  intro m rest hm hr h94 h42 h43
  have e : s ++ [32, tokS k, 32] ++ t ++ rest = s ++ (32 :: tokS k :: 32 :: (t ++ rest)) := by simp
  rw [e]
  simp only [List.length_append] at hm
  have ht : pk (32 :: tokS k :: 32 :: (t ++ rest)) = tokS k :: 32 :: (t ++ rest) := by rcases hk with rfl | rfl <;> simp [pk, tokS]
  have hd : hdc (tokS k :: 32 :: (t ++ rest)) = if k = 2 then 42 else 43 := by rcases hk with rfl | rfl <;> simp [hdc, tokS]
  obtain ⟨r, h1, h2⟩ := hf m (32 :: tokS k :: 32 :: (t ++ rest)) (by omega) (Or.inr ⟨32, _, rfl, Or.inl rfl⟩) (by rw [ht, hd]; split <;> decide)
  rw [ht] at h2
  obtain ⟨r2, h3, h4⟩ := hg m rest (by omega) hr h94
  refine ⟨r2, ?_, h4⟩
  unfold exprM
  rw [h1]
  simp only [binM, h2, hd]
  rw [if_pos (by rcases hk with rfl | rfl <;> simp)]
  have e3 : (tokS k :: 32 :: (t ++ rest)).drop 1 = 32 :: (t ++ rest) := rfl
  rw [e3, operandM_blank, h3]
  rcases hk with rfl | rfl <;> simp [twoR, kind2Of]

/-- What holds of a functor whose fields are right. -/
structure Rd (k n : Int) (t : T) : Prop where
  e : RdE ⟨k, n, t⟩ (outF k n t)
  o : RdO ⟨k, n, t⟩ (innS (k, outF k n t))
  f : RdF ⟨k, n, t⟩ (basS (k, outF k n t))

theorem Rd.ofF {k n : Int} {t : T} (h2 : k ≠ 2) (h3 : k ≠ 3) (h4 : k ≠ 4) (h : RdF ⟨k, n, t⟩ (outF k n t)) : Rd k n t := by
  have hi : innS (k, outF k n t) = outF k n t := innS_no _ _ h2 h3
  have hb : basS (k, outF k n t) = outF k n t := by unfold basS; rw [if_neg h4, hi]
  exact ⟨h.toO.toE, by rw [hi]; exact h.toO, by rw [hb]; exact h⟩

theorem rd_all : ∀ t : T, ∀ k n : Int, fieldsOk k n t.len = true → t.allOk = true → Rd k n t := by
  refine T.ind ?_
  intro t ih k n hf ha
  rcases fields_cases hf with ⟨rfl, rfl, hl⟩ | ⟨rfl, h1, h2, hl⟩ | ⟨hk23, rfl, hl⟩ | ⟨rfl, h1, h2, hl⟩ | ⟨hk567, rfl, hl⟩
  · rw [T.len0 hl]
    exact Rd.ofF (by decide) (by decide) (by decide) rd_X
  · rw [T.len0 hl]
    exact Rd.ofF (by decide) (by decide) (by decide) (rd_const (by omega) h2)
  · obtain ⟨k1, n1, t1, k2, n2, t2, rfl⟩ := T.len2 hl
    simp only [T.allOk, Bool.and_eq_true, Bool.and_true] at ha
    have r1 := ih 0 k1 n1 t1 _ rfl k1 n1 ha.1.1 ha.1.2
    have r2 := ih 1 k2 n2 t2 .nil rfl k2 n2 ha.2.1 ha.2.2
    have ho : outF k 0 (.cons k1 n1 t1 (.cons k2 n2 t2 .nil)) = innS (k1, outF k1 n1 t1) ++ [32, tokS k, 32] ++ innS (k2, outF k2 n2 t2) := by
      rcases hk23 with rfl | rfl <;> simp [outF, outS, outs]
    have hE : RdE ⟨k, 0, .cons k1 n1 t1 (.cons k2 n2 t2 .nil)⟩ (outF k 0 (.cons k1 n1 t1 (.cons k2 n2 t2 .nil))) := by
      rw [ho]; exact rd_bin r1.o r2.o hk23
    have hi : innS (k, outF k 0 (.cons k1 n1 t1 (.cons k2 n2 t2 .nil))) = wrapS (outF k 0 (.cons k1 n1 t1 (.cons k2 n2 t2 .nil))) := innS_yes _ _ hk23
    have hb : basS (k, outF k 0 (.cons k1 n1 t1 (.cons k2 n2 t2 .nil))) = wrapS (outF k 0 (.cons k1 n1 t1 (.cons k2 n2 t2 .nil))) := by
      unfold basS; rw [if_neg (by rcases hk23 with rfl | rfl <;> simp), hi]
    exact ⟨hE, by rw [hi]; exact hE.wrap.toO, by rw [hb]; exact hE.wrap⟩
  · obtain ⟨k1, n1, t1, rfl⟩ := T.len1 hl
    simp only [T.allOk, Bool.and_eq_true, Bool.and_true] at ha
    have r1 := ih 0 k1 n1 t1 _ rfl k1 n1 ha.1 ha.2
    have ho : outF 4 n (.cons k1 n1 t1 .nil) = basS (k1, outF k1 n1 t1) ++ [32, 94, 32] ++ digs n := by simp [outF, outS, outs]
    have hO : RdO ⟨4, n, .cons k1 n1 t1 .nil⟩ (outF 4 n (.cons k1 n1 t1 .nil)) := by rw [ho]; exact rd_pow r1.f (by omega) (by omega)
    have hi : innS (4, outF 4 n (.cons k1 n1 t1 .nil)) = outF 4 n (.cons k1 n1 t1 .nil) := innS_no _ _ (by decide) (by decide)
    have hb : basS (4, outF 4 n (.cons k1 n1 t1 .nil)) = wrapS (outF 4 n (.cons k1 n1 t1 .nil)) := by unfold basS; rw [if_pos rfl]
    exact ⟨hO.toE, by rw [hi]; exact hO, by rw [hb]; exact hO.toE.wrap⟩
  · obtain ⟨k1, n1, t1, rfl⟩ := T.len1 hl
    simp only [T.allOk, Bool.and_eq_true, Bool.and_true] at ha
    have r1 := ih 0 k1 n1 t1 _ rfl k1 n1 ha.1 ha.2
    have ho : outF k 0 (.cons k1 n1 t1 .nil) = tokS k :: wrapS (outF k1 n1 t1) := by rcases hk567 with rfl | rfl | rfl <;> simp [outF, outS, outs]
    exact Rd.ofF (by omega) (by omega) (by omega) (by rw [ho]; exact rd_elem r1.e hk567)

def wrapN : Nat → List UInt8 → List UInt8
  | 0, s => s
  | n + 1, s => wrapS (wrapN n s)
theorem wrapN_len (N : Nat) (s : List UInt8) : (wrapN N s).length = s.length + 2 * N := by
  induction N with
  | zero => rfl
  | succ n ih => simp only [wrapN, wrap_len, ih]; omega
theorem wrapN_rd {f : F} {s : List UInt8} (h : RdE f s) (N : Nat) : RdE f (wrapN N s) := by
  induction N with
  | zero => exact h
  | succ n ih => exact ih.wrap.toO.toE

theorem parse_back {k n : Int} {t : T} (hv : valid k n t = true) (N : Nat) (hN : N ≤ 255) : parseOf (bs (wrapN N (outF k n t))) = (⟨k, n, t⟩, 0) := by
  obtain ⟨h1, h2, h3, h4⟩ := valid_parts hv
  have hl := outF_len k n t
  have hr := wrapN_rd (rd_all t k n h3 h4).e N
  have hwl := wrapN_len N (outF k n t)
  unfold parseOf
  have hsz : (bs (wrapN N (outF k n t))).size = (wrapN N (outF k n t)).length := by simp [ByteArray.size]
  rw [if_neg (by rw [hsz]; omega)]
  obtain ⟨r, h5, h6⟩ := hr ((wrapN N (outF k n t)).length + 1) [] (by omega) (Or.inl rfl) (by simp [pk, hdc]) (by simp [pk, hdc]) (by simp [pk, hdc])
  rw [List.append_nil] at h5
  have h7 : exprT (bs (wrapN N (outF k n t))).data.toList = some (⟨k, n, t⟩, r) := by
    simp only [exprT]; exact h5
  rw [h7]
  simp only [h6]
  rw [if_pos (show pk [] = [] from rfl), if_pos hv]
end Go.Proofs.YtioimhnebjiicaaDoor
