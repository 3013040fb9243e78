/- Proved here: contracts of the walk to BisimGraphs: graphs and kernels as relations; each under the conditions that its own statement names. -/
import Derived.Test.YtcekilcgpgjooaaGreatDoorG47
set_option maxRecDepth 100000
set_option maxHeartbeats 3200000
namespace Go.Proofs.YtcekilcgpgjooaaGreatDoor
open Go Go.RowKit
theorem weighsR_of {k : Int} {len : Nat} {ws : List Int} (h : weighs k len ws = true) (h7 : k = 7 → 0 < len) : weighsR k len ws = true := by
 unfold weighs at h
 unfold weighsR wgt
 by_cases e : k = 6 ∨ k = 7
 ·rw [if_pos e] at h
  simp only [Bool.and_eq_true, decide_eq_true_eq] at h
  rw [if_pos (by simpa using e)]
  simp only [Bool.and_eq_true, Bool.or_eq_true, decide_eq_true_eq]
  refine ⟨h.1, h.2, ?_⟩
  rcases e with e | e
  ·exact Or.inl e
  ·exact Or.inr (h7 e)
 ·rw [if_neg e] at h
  rw [if_neg (by simpa using e)]
  exact h
theorem mapE_id {m : Int} : ∀ (t : V) (f : F) (n : Int) (ws : List Int), f.good = true → okV nodeOk m f n t ws = true → mapE (fun x => x) f (n, t, ws) = (n, t, ws) := by
 refine V.ind ?_
 intro t ih f n ws hg hu
 have fu := okV_fields hu
 have hkid : t.mapL (fun x => x) (fun j => f.part n j) = t := by
  refine V.ext_el _ _ (mapL_len _ _ _) (fun i hi => ?_)
  rw [mapL_len] at hi
  rw [mapL_el _ _ _ _ hi]
  exact el_elems ih hi (f.part n i) (t.el i).1 (t.el i).2.2 (good_part hg fu hi) (ok_el hu hi)
 have hn : (if f.k = 0 then n else n) = n := by split <;> rfl
 unfold mapE
 simp only
 rw [hkid, hn]
 cases hc : coll f.k with
 | false => rw [fin_no hc]
 | true =>
  rw [fin_yes hc]
  have hno : nodeOk f t ws = true := by
   unfold okV at hu
   simp only [Bool.and_eq_true] at hu
   exact hu.2.2
  unfold nodeOk at hno
  rw [hc] at hno
  simp only [Bool.not_true, Bool.false_or, Bool.and_eq_true, Bool.or_eq_true, decide_eq_true_eq] at hno
  rw [mrg_id hno.1 (weighsR_of (okV_weighs hu) (fun h7 => by
   unfold vFields argsOf at fu
   simp only [Bool.and_eq_true, decide_eq_true_eq] at fu
   have := fu.1.2.2
   rw [h7] at this
   simp at this
   omega)) (fun h7 => hno.2.2.resolve_left (fun h => h h7))]
theorem relFrom_of {n m : Int} : ∀ (r : List (Int × Int)) (pr : Option (Int × Int)), (∀ q, pr = some q → ∀ p ∈ r, cmpP q p < 0) → r.Pairwise (fun a b => cmpP a b < 0) → (∀ p ∈ r, inPair n m p = true) → relFrom n m pr r = true
 | [], pr, _, _, _ => by cases pr <;> rfl
 | p :: r, pr, h1, h2, h3 => by
  rw [List.pairwise_cons] at h2
  have ih := relFrom_of r (some p) (fun q hq x hx => by cases hq; exact h2.1 x hx) h2.2 (fun x hx => h3 x (List.mem_cons_of_mem _ hx))
  have hp := h3 p (List.mem_cons_self ..)
  cases pr with
  | none => simp [relFrom, hp, ih]
  | some q => simp [relFrom, hp, ih, h1 q rfl p (List.mem_cons_self ..)]
theorem cmpP_first {a b c d : Int} (h : a < c) : cmpP (a, b) (c, d) < 0 := by
 unfold cmpP cmpI; simp only; rw [if_pos h]; simp
theorem cmpP_second {a b d : Int} (h : b < d) : cmpP (a, b) (a, d) < 0 := by
 unfold cmpP cmpI; simp only [Int.lt_irrefl, if_false]; rw [if_pos h]; simp
def grL (l : List Int) : Nat → List (Int × Int)
 | 0 => []
 | j + 1 => grL l j ++ [((j : Int), l.getD j 0)]
theorem grL_len (l : List Int) : ∀ j, (grL l j).length = j
 | 0 => rfl
 | j + 1 => by simp [grL, grL_len l j]
theorem mem_grL {l : List Int} {p : Int × Int} : ∀ {j : Nat}, p ∈ grL l j ↔ ∃ x : Nat, x < j ∧ p = ((x : Int), l.getD x 0)
 | 0 => by simp [grL]
 | j + 1 => by
  rw [grL, List.mem_append, mem_grL, List.mem_singleton]
  constructor
  ·rintro (⟨x, h1, h2⟩ | h)
   ·exact ⟨x, by omega, h2⟩
   ·exact ⟨j, by omega, h⟩
  ·rintro ⟨x, h1, h2⟩
   by_cases e : x = j
   ·subst e; exact Or.inr h2
   ·exact Or.inl ⟨x, by omega, h2⟩
theorem grL_pair (l : List Int) : ∀ j, (grL l j).Pairwise (fun a b => cmpP a b < 0)
 | 0 => List.Pairwise.nil
 | j + 1 => by
  rw [grL, List.pairwise_append]
  refine ⟨grL_pair l j, List.pairwise_singleton _ _, fun a ha b hb => ?_⟩
  obtain ⟨x, hx, rfl⟩ := mem_grL.1 ha
  rw [List.mem_singleton.1 hb]
  exact cmpP_first (by omega)
def kerR (l : List Int) (x : Nat) : Nat → List (Int × Int)
 | 0 => []
 | j + 1 => kerR l x j ++ (if l.getD x 0 = l.getD j 0 then [((x : Int), (j : Int))] else [])
def kerL (l : List Int) : Nat → List (Int × Int)
 | 0 => []
 | i + 1 => kerL l i ++ kerR l i l.length
theorem mem_kerR {l : List Int} {x : Nat} {p : Int × Int} : ∀ {j : Nat}, p ∈ kerR l x j ↔ ∃ y : Nat, y < j ∧ l.getD x 0 = l.getD y 0 ∧ p = ((x : Int), (y : Int))
 | 0 => by simp [kerR]
 | j + 1 => by
  rw [kerR, List.mem_append, mem_kerR]
  constructor
  ·rintro (⟨y, h1, h2⟩ | h)
   ·exact ⟨y, by omega, h2⟩
   ·split at h
    ·rename_i he; exact ⟨j, by omega, he, List.mem_singleton.1 h⟩
    ·cases h
  ·rintro ⟨y, h1, h2, h3⟩
   by_cases e : y = j
   ·subst e; rw [if_pos h2]; exact Or.inr (List.mem_singleton.2 h3)
   ·exact Or.inl ⟨y, by omega, h2, h3⟩
theorem mem_kerL {l : List Int} {p : Int × Int} : ∀ {i : Nat}, p ∈ kerL l i ↔ ∃ x y : Nat, x < i ∧ y < l.length ∧ l.getD x 0 = l.getD y 0 ∧ p = ((x : Int), (y : Int))
 | 0 => by simp [kerL]
 | i + 1 => by
  rw [kerL, List.mem_append, mem_kerL, mem_kerR]
  constructor
  ·rintro (⟨x, y, h1, h2⟩ | ⟨y, h1, h2⟩)
   ·exact ⟨x, y, by omega, h2⟩
   ·exact ⟨i, y, by omega, h1, h2⟩
  ·rintro ⟨x, y, h1, h2, h3⟩
   by_cases e : x = i
   ·subst e; exact Or.inr ⟨y, h2, h3⟩
   ·exact Or.inl ⟨x, y, by omega, h2, h3⟩
theorem kerR_len (l : List Int) (x : Nat) : ∀ j, (kerR l x j).length ≤ j
 | 0 => Nat.le_refl _
 | j + 1 => by
  have := kerR_len l x j
  rw [kerR, List.length_append]
  split <;> simp <;> omega
theorem kerL_len (l : List Int) : ∀ i, (kerL l i).length ≤ i * l.length
 | 0 => by simp [kerL]
 | i + 1 => by
  have h1 := kerL_len l i
  have h2 := kerR_len l i l.length
  rw [kerL, List.length_append, Nat.succ_mul]
  omega
theorem kerR_pair (l : List Int) (x : Nat) : ∀ j, (kerR l x j).Pairwise (fun a b => cmpP a b < 0)
 | 0 => List.Pairwise.nil
 | j + 1 => by
  rw [kerR, List.pairwise_append]
  refine ⟨kerR_pair l x j, by split <;> simp, fun a ha b hb => ?_⟩
  obtain ⟨y, hy, _, rfl⟩ := mem_kerR.1 ha
  split at hb
  ·rw [List.mem_singleton.1 hb]; exact cmpP_second (by omega)
  ·cases hb
theorem kerL_pair (l : List Int) : ∀ i, (kerL l i).Pairwise (fun a b => cmpP a b < 0)
 | 0 => List.Pairwise.nil
 | i + 1 => by
  rw [kerL, List.pairwise_append]
  refine ⟨kerL_pair l i, kerR_pair l i _, fun a ha b hb => ?_⟩
  obtain ⟨x, y, hx, _, _, rfl⟩ := mem_kerL.1 ha
  obtain ⟨y', _, _, rfl⟩ := mem_kerR.1 hb
  exact cmpP_first (by omega)
def lisB (RB : F → Int × V × List Int → Int × V × List Int → Bool) (f : F) (t : V) (g : F) (u : V) (r : List (Int × Int)) : Bool := decide (relE' f t g u r = 0) && decide ((fltL RB f t g u r).length = 0)
theorem relE'_zero {f : F} {t : V} {g : F} {u : V} {r : List (Int × Int)} (h0 : bothE f t g u = 0) (h1 : r.Pairwise (fun a b => cmpP a b < 0)) (h2 : ∀ p ∈ r, 0 ≤ p.1 ∧ p.1 < t.len ∧ 0 ≤ p.2 ∧ p.2 < u.len) : relE' f t g u r = 0 := by
 unfold relE'
 rw [if_pos h0, if_pos (relFrom_of r none (fun q h => by cases h) h1 (fun p hp => by unfold inPair; exact decide_eq_true (h2 p hp)))]
theorem lisB_iff {RB : F → Int × V × List Int → Int × V × List Int → Bool} {f : F} {t u : V} {r : List (Int × Int)} (hR : relE' f t f u r = 0) (hRB : ∀ f u v, RB f u v = true ↔ relV (tells (fun x y => decide (((x : Int), (y : Int)) ∈ r))) f u v) :
    lisB RB f t f u r = true ↔ ∀ p ∈ r, relV (tells (fun x y => decide (((x : Int), (y : Int)) ∈ r))) f (t.el p.1.toNat) (u.el p.2.toNat) := by
 unfold lisB fltL
 rw [if_pos hR, hR]
 simp only [decide_true, Bool.true_and, decide_eq_true_eq]
 constructor
 ·intro h p hp
  obtain ⟨i, hi⟩ := List.getElem?_of_mem hp
  have hil : i < r.length := (List.getElem?_eq_some_iff.1 hi).1
  cases hv : relAt RB f t u r i with
  | false =>
   have hm : p ∈ keptL r (relAt RB f t u r) r.length := mem_keptL.2 ⟨i, hil, hv, hi⟩
   rw [List.eq_nil_of_length_eq_zero h] at hm
   cases hm
  | true =>
   unfold relAt at hv
   rw [hRB] at hv
   have e : r.getD i (0, 0) = p := by simp [List.getD, hi]
   rw [e] at hv
   exact hv
 ·intro h
  cases hk : keptL r (relAt RB f t u r) r.length with
  | nil => rfl
  | cons p s =>
   have hm : p ∈ keptL r (relAt RB f t u r) r.length := by rw [hk]; exact List.mem_cons_self ..
   obtain ⟨i, hil, hv, hi⟩ := mem_keptL.1 hm
   have hp : p ∈ r := List.mem_of_getElem? hi
   have := (hRB f (t.el p.1.toNat) (u.el p.2.toNat)).2 (h p hp)
   unfold relAt at hv
   rw [show r.getD i (0, 0) = p by simp [List.getD, hi], this] at hv
   cases hv
theorem graph_iff {RB : F → Int × V × List Int → Int × V × List Int → Bool} {f : F} {t u : V} {l : List Int} (h1 : sysOk f t = true) (h2 : sysOk f u = true) (hl : l.length = t.len) (hall : l.all (fun x => decide (0 ≤ x ∧ x < u.len)) = true)
    (hRB : ∀ f u v, RB f u v = true ↔ relV (tells (fun x y => decide (((x : Int), (y : Int)) ∈ grL l l.length))) f u v) :
    relE' f t f u (grL l l.length) = 0 ∧ (lisB RB f t f u (grL l l.length) = true ↔ ∀ x, x < t.len → mapE (toH l) f (t.el x) = u.el (l.getD x 0).toNat) := by
 obtain ⟨hg, hn1, hv1⟩ := sys_parts h1
 obtain ⟨_, hn2, hv2⟩ := sys_parts h2
 have hgd : ∀ x, x < t.len → 0 ≤ l.getD x 0 ∧ l.getD x 0 < u.len := fun x hx => by
  have hxl : x < l.length := by omega
  have := all_at hall hxl
  rw [show l.getD x 0 = l[x] by simp [List.getD, List.getElem?_eq_getElem hxl]]
  exact this
 have h0 : bothE f t f u = 0 := by unfold bothE; rw [if_pos ⟨h1, h2⟩, if_pos ⟨rfl, rfl, rfl⟩]
 have hR := relE'_zero h0 (grL_pair l l.length) (fun p hp => by
  obtain ⟨x, hx, rfl⟩ := mem_grL.1 hp
  have := hgd x (by omega)
  simp only
  omega)
 refine ⟨hR, (lisB_iff hR hRB).trans ?_⟩
 have hP : ∀ x y : Int, 0 ≤ x → x < (t.len : Int) → 0 ≤ y → y < (u.len : Int) → (tells (fun x y => decide (((x : Int), (y : Int)) ∈ grL l l.length)) x y ↔ toH l x = y) := by
  intro x y hx hx2 hy hy2
  unfold tells
  rw [decide_eq_true_eq, mem_grL]
  constructor
  ·rintro ⟨x', h3, h4⟩
   simp only [Prod.mk.injEq] at h4
   have : x.toNat = x' := by omega
   show l.getD x.toNat 0 = y
   rw [this]; omega
  ·intro h
   have h' : l.getD x.toNat 0 = y := h
   exact ⟨x.toNat, by omega, by rw [h']; simp only [Prod.mk.injEq, true_and]; omega⟩
 have key : ∀ x, x < t.len → (relV (tells (fun x y => decide (((x : Int), (y : Int)) ∈ grL l l.length))) f (t.el x) (u.el (l.getD x 0).toNat) ↔ mapE (toH l) f (t.el x) = u.el (l.getD x 0).toNat) := by
  intro x hx
  have hy := hgd x hx
  have hk := hv2 (l.getD x 0).toNat (by omega)
  have := relV_map (P := tells (fun x y => decide (((x : Int), (y : Int)) ∈ grL l l.length))) (h := toH l) (g := fun y => y) hP (t.el x).2.1 f (t.el x).1 (t.el x).2.2 (u.el (l.getD x 0).toNat) hg (hv1 x hx) hk
  rw [mapE_id _ _ _ _ hg hk] at this
  exact this
 constructor
 ·intro h x hx
  have := h ((x : Int), l.getD x 0) (mem_grL.2 ⟨x, by omega, rfl⟩)
  simp only [Int.toNat_natCast] at this
  exact (key x hx).1 this
 ·intro h p hp
  obtain ⟨x, hx, rfl⟩ := mem_grL.1 hp
  simp only [Int.toNat_natCast]
  exact (key x (by omega)).2 (h x (by omega))
theorem kernel_iff {RB : F → Int × V × List Int → Int × V × List Int → Bool} {f : F} {t : V} {l : List Int} (h1 : sysOk f t = true) (hl : l.length = t.len)
    (hRB : ∀ f u v, RB f u v = true ↔ relV (tells (fun x y => decide (((x : Int), (y : Int)) ∈ kerL l l.length))) f u v) :
    lisB RB f t f t (kerL l l.length) = true ↔ quoEq f t l t.len := by
 obtain ⟨hg, hn1, hv1⟩ := sys_parts h1
 have h0 : bothE f t f t = 0 := by unfold bothE; rw [if_pos ⟨h1, h1⟩, if_pos ⟨rfl, rfl, rfl⟩]
 have hR := relE'_zero h0 (kerL_pair l l.length) (fun p hp => by
  obtain ⟨x, y, hx, hy, _, rfl⟩ := mem_kerL.1 hp
  simp only
  omega)
 refine (lisB_iff hR hRB).trans ?_
 have hP : ∀ x y : Int, 0 ≤ x → x < (t.len : Int) → 0 ≤ y → y < (t.len : Int) → (tells (fun x y => decide (((x : Int), (y : Int)) ∈ kerL l l.length)) x y ↔ toH l x = toH l y) := by
  intro x y hx hx2 hy hy2
  unfold tells
  rw [decide_eq_true_eq, mem_kerL]
  constructor
  ·rintro ⟨x', y', h3, h4, h5, h6⟩
   simp only [Prod.mk.injEq] at h6
   have e1 : x.toNat = x' := by omega
   have e2 : y.toNat = y' := by omega
   show l.getD x.toNat 0 = l.getD y.toNat 0
   rw [e1, e2]; exact h5
  ·intro h
   exact ⟨x.toNat, y.toNat, by omega, by omega, h, by rw [Int.toNat_of_nonneg hx, Int.toNat_of_nonneg hy]⟩
 have key : ∀ x y, x < t.len → y < t.len → (relV (tells (fun x y => decide (((x : Int), (y : Int)) ∈ kerL l l.length))) f (t.el x) (t.el y) ↔ mapE (toH l) f (t.el x) = mapE (toH l) f (t.el y)) := fun x y hx hy =>
  relV_map (P := tells (fun x y => decide (((x : Int), (y : Int)) ∈ kerL l l.length))) (h := toH l) (g := toH l) hP (t.el x).2.1 f (t.el x).1 (t.el x).2.2 (t.el y) hg (hv1 x hx) (hv1 y hy)
 constructor
 ·intro h x y hx hy he
  have := h ((x : Int), (y : Int)) (mem_kerL.2 ⟨x, y, by omega, by omega, he, rfl⟩)
  simp only [Int.toNat_natCast] at this
  exact (key x y hx hy).1 this
 ·intro h p hp
  obtain ⟨x, y, hx, hy, he, rfl⟩ := mem_kerL.1 hp
  simp only [Int.toNat_natCast]
  exact (key x y (by omega) (by omega)).2 (h x y (by omega) (by omega) he)
end Go.Proofs.YtcekilcgpgjooaaGreatDoor
namespace Go.Proofs.YtcekilcgpgjooaaGreatDoor
open Go Go.RowKit
open Go.Lib (hid)
theorem lis_any (S S2 : Nat → Nat → Prop) (S' S2' S3 : Nat → Prop) (f g : F) (a na a2 na2 ar : Option Addr) (cap ncap cap2 ncap2 cr : Nat) (t u : V) (r : List (Int × Int)) (w : World) (hs : Sl S w a f.t) (hv : Vl S' w na t) (hs2 : Sl S2 w a2 g.t) (hv2 : Vl S2' w na2 u) (hk : Kinds w) (hr : Prs S3 w ar r) (hN : r.length ≤ 1000000)
    (RB : F → Int × V × List Int → Int × V × List Int → Bool) (hRB : ∀ f u v, RB f u v = true ↔ relV (tells (fun x y => decide (((x : Int), (y : Int)) ∈ r))) f u v) :
    Calls Tryz.prog 12 #[Sv f a cap na t.len ncap, Sv g a2 cap2 na2 u.len ncap2, .slice ar r.length cr] w fun e w' => e = .returned (.bool (lisB RB f t g u r)) ∧ Below w.heap.size w w' := by
 obtain ⟨W, hW⟩ : ∃ W : World, W = (w.alloc (Obj.cells #[.int .i64 f.k, .int .i64 f.n, .slice a f.t.len cap, .slice na t.len ncap] 27)).alloc (Obj.cells #[.int .i64 g.k, .int .i64 g.n, .slice a2 g.t.len cap2, .slice na2 u.len ncap2] 27) := ⟨_, rfl⟩
 have hWb : Below w.heap.size w W := by rw [hW]; exact ba2 _ _ _
 have k0 : W.heap[w.heap.size]? = some (Obj.cells #[.int .i64 f.k, .int .i64 f.n, .slice a f.t.len cap, .slice na t.len ncap] 27 (0, 0)) := by rw [hW]; exact heap_old2 _ _ _
 have k1 : W.heap[w.heap.size + 1]? = some (Obj.cells #[.int .i64 g.k, .int .i64 g.n, .slice a2 g.t.len cap2, .slice na2 u.len ncap2] 27 (0, 0)) := by rw [hW]; exact heap_new2 _ _ _
 obtain ⟨bs, hbs⟩ : ∃ bs, bs = w.heap.size := ⟨_, rfl⟩
 rw [← hbs] at k0 k1
 obtain ⟨c0, c1, c2, c3⟩ := cells4 k0
 obtain ⟨d0, d1, d2, d3⟩ := cells4 k1
 have HWB := hid hWb
 have HF := hid (is_sys_any S S2 S' S2' S3 f g a na a2 na2 ar cap ncap cap2 ncap2 cr t u r W (hs.below hWb) (hv.below hWb) (hs2.below hWb) (hv2.below hWb) (hk.below hWb) (hr.below hWb) hN RB hRB)
 rw [show (decide (relE' f t g u r = 0) && decide ((fltL RB f t g u r).length = 0)) = lisB RB f t g u r from rfl] at HF
 obtain ⟨E, hE⟩ : ∃ E, E = relE' f t g u r := ⟨_, rfl⟩
 obtain ⟨b, hb⟩ : ∃ b, b = lisB RB f t g u r := ⟨_, rfl⟩
 have HEB := hid (show b = true → E = 0 by
  intro h
  rw [hb] at h
  unfold lisB at h
  simp only [Bool.and_eq_true, decide_eq_true_eq] at h
  rw [hE]; exact h.1)
 rw [← hE, ← hb] at HF
 rw [← hb]
 obtain ⟨N, hNN⟩ : ∃ N, N = r.length := ⟨_, rfl⟩
 rw [← hNN] at HF ⊢
 have hl1 := hv.1
 have hl2 := hv2.1
 clear hs hv hs2 hv2 hk hr k0 k1 hWb hE hb hNN
 go_enter Tryz.func12, Tryz.ntmps12
 go_wp2_with fail
 rw [← hW, ← hbs]
 clear hW hbs
 refine HF.out.mono ?_
 rintro e w1 ⟨rfl, hb1⟩
 have HB1 := hid (HWB.out.trans (hb1.mono HWB.out.size))
 clear hb1 c0 c1 c2 c3 d0 d1 d2 d3
 cases b with
 | true =>
  obtain rfl : E = 0 := HEB.out rfl
  go_wp2_with fail
  go_ret
  exact ⟨rfl, HB1.out⟩
 | false =>
  go_wp2_with fail
  go_ret
  exact ⟨rfl, HB1.out⟩
end Go.Proofs.YtcekilcgpgjooaaGreatDoor
