/-
  Proved here: a step towards the statements of chapter 1 (functors): what one of its functions does at each input.
-/
import Derived.Test.YtioimhnebjiicaaDoorStrA
import Derived.Lib.QuietBelow
namespace Go.Proofs.YtioimhnebjiicaaDoor
open Go.RowKit
open Go.Sort (grow)

def wrapS (s : List UInt8) : List UInt8 := 40 :: (s ++ [41])
def innS (p : Int × List UInt8) : List UInt8 := if p.1 = 2 ∨ p.1 = 3 then wrapS p.2 else p.2
def basS (p : Int × List UInt8) : List UInt8 := if p.1 = 4 then wrapS p.2 else innS p
def tokS (k : Int) : UInt8 := if k = 2 then 42 else if k = 3 then 43 else if k = 5 then 80 else if k = 6 then 66 else 68
def outS (k n : Int) (l : List (Int × List UInt8)) : List UInt8 :=
  if k = 0 then [88] else if k = 1 then digs n
  else match l with
    | [] => []
    | p :: r => if k = 2 ∨ k = 3 then innS p ++ [32, tokS k, 32] ++ (match r with | [] => [] | p2 :: _ => innS p2)
      else if k = 4 then basS p ++ [32, 94, 32] ++ digs n
      else tokS k :: wrapS p.2
/-- The strings of the trees, each with its kind. -/
def outs : T → List (Int × List UInt8)
  | .nil => []
  | .cons k n kids rest => (k, outS k n (outs kids)) :: outs rest
abbrev outF (k n : Int) (t : T) : List UInt8 := outS k n (outs t)

theorem wrap_len (s : List UInt8) : (wrapS s).length = s.length + 2 := by simp [wrapS]
theorem innS_len (p : Int × List UInt8) : (innS p).length ≤ p.2.length + 2 := by unfold innS; split <;> simp [wrap_len]
theorem basS_len (p : Int × List UInt8) : (basS p).length ≤ p.2.length + 2 := by
  unfold basS; split
  · simp [wrap_len]
  · exact innS_len p
theorem digs_len (n : Int) : (digs n).length ≤ 2 := by unfold digs; split <;> simp

def sumLen : List (Int × List UInt8) → Nat
  | [] => 0
  | p :: r => p.2.length + sumLen r
theorem outS_len (k n : Int) (l : List (Int × List UInt8)) : (outS k n l).length ≤ sumLen l + 7 := by
  have hd := digs_len n
  unfold outS
  split
  · simp
  split
  · omega
  cases l with
  | nil => simp
  | cons p r =>
    have h1 := innS_len p
    have h2 := basS_len p
    have h3 := wrap_len p.2
    simp only [sumLen]
    split
    · cases r with
      | nil => simp; omega
      | cons p2 r2 => have h4 := innS_len p2; simp [sumLen]; omega
    · split
      · simp; omega
      · simp [h3]; omega
theorem outs_len (t : T) : sumLen (outs t) ≤ 7 * t.nodes := by
  induction t with
  | nil => simp [outs, sumLen]
  | cons k n kids rest ihk ihr =>
    have := outS_len k n (outs kids)
    simp only [outs, sumLen, T.nodes]
    omega
theorem outF_len (k n : Int) (t : T) : (outF k n t).length ≤ 7 * t.nodes + 7 := by
  have := outS_len k n (outs t)
  have := outs_len t
  unfold outF
  omega

def OutOk (t : T) : Prop := ∀ (S : Nat → Nat → Prop) (k n : Int) (a : Option Addr) (cap : Nat) (w : World), Sl S w a t → Kinds w → fieldsOk k n t.len = true → t.allOk = true → t.nodes ≤ 100 →
  Calls Tryd.prog 31 #[.agg #[.int .i64 k, .int .i64 n, .slice a t.len cap]] w fun e w' => e = .returned (.string (bs (outF k n t))) ∧ Below w.heap.size w w'

theorem bs_app (l m : List UInt8) : bs l ++ bs m = bs (l ++ m) := by
  apply ByteArray.ext
  simp
theorem ret_str {a b : ByteArray} (h : a = b) : Ending.returned (.string a) = Ending.returned (.string b) := by rw [h]
theorem innS_yes (k : Int) (o : List UInt8) (h : k = 2 ∨ k = 3) : innS (k, o) = wrapS o := by unfold innS; rw [if_pos h]
theorem innS_no (k : Int) (o : List UInt8) (h2 : ¬ k = 2) (h3 : ¬ k = 3) : innS (k, o) = o := by unfold innS; rw [if_neg (fun h => h.elim h2 h3)]
theorem wrap_bs (o : List UInt8) : (⟨#[40]⟩ : ByteArray) ++ bs o ++ (⟨#[41]⟩ : ByteArray) = bs (wrapS o) := by
  rw [show (⟨#[40]⟩ : ByteArray) = bs [40] from rfl, show (⟨#[41]⟩ : ByteArray) = bs [41] from rfl, bs_app, bs_app]
  rfl

set_option maxRecDepth 100000 in
set_option maxHeartbeats 400000 in
theorem inner_of (t : T) (H : OutOk t) (S : Nat → Nat → Prop) (k n : Int) (a : Option Addr) (cap : Nat) (w : World) (hs : Sl S w a t) (hk : Kinds w) (hf : fieldsOk k n t.len = true) (ha : t.allOk = true) (hn : t.nodes ≤ 100) :
    Calls Tryd.prog 43 #[.agg #[.int .i64 k, .int .i64 n, .slice a t.len cap]] w fun e w' => e = .returned (.string (bs (innS (k, outF k n t)))) ∧ Below w.heap.size w w' := by
  have hlen := outF_len k n t
  have hb0 : Below w.heap.size w (w.alloc (.cells #[.int .i64 k, .int .i64 n, .slice a t.len cap] 24)) := (Below.refl _ _).alloc (Nat.le_refl _) _
  have HH := Lib.hid (H S k n a cap (w.alloc (.cells #[.int .i64 k, .int .i64 n, .slice a t.len cap] 24)) (hs.below hb0) (hk.below hb0) hf ha hn)
  obtain ⟨o, ho⟩ : ∃ o, o = outF k n t := ⟨_, rfl⟩
  rw [← ho] at HH hlen ⊢
  clear H ho hf ha
  have hlen2 : o.length ≤ 1000 := by omega
  by_cases h2 : k = 2
  · subst h2
    go_enter Tryd.func43, Tryd.ntmps43
    go_wp2_with fail
    refine HH.out.mono ?_
    rintro e w' ⟨rfl, hb⟩
    go_wp2_with fail
    go_ret
    exact ⟨ret_str ((wrap_bs o).trans (by rw [innS_yes _ _ (Or.inl rfl)])), hb0.trans (hb.mono (by simp))⟩
  by_cases h3 : k = 3
  · subst h3
    clear h2
    go_enter Tryd.func43, Tryd.ntmps43
    go_wp2_with fail
    refine HH.out.mono ?_
    rintro e w' ⟨rfl, hb⟩
    go_wp2_with fail
    go_ret
    exact ⟨ret_str ((wrap_bs o).trans (by rw [innS_yes _ _ (Or.inr rfl)])), hb0.trans (hb.mono (by simp))⟩
  · have h2' : (k == 2) = false := by simpa using h2
    have h3' : (k == 3) = false := by simpa using h3
    have HI := Lib.hid (innS_no k o h2 h3)
    clear h2 h3
    go_enter Tryd.func43, Tryd.ntmps43
    go_wp2_with fail
    refine HH.out.mono ?_
    rintro e w' ⟨rfl, hb⟩
    go_wp2_with fail
    go_ret
    exact ⟨ret_str (by rw [HI.out]), hb0.trans (hb.mono (by simp))⟩

set_option maxRecDepth 100000 in
set_option maxHeartbeats 400000 in
theorem base_of (t : T) (H : OutOk t) (S : Nat → Nat → Prop) (k n : Int) (a : Option Addr) (cap : Nat) (w : World) (hs : Sl S w a t) (hk : Kinds w) (hf : fieldsOk k n t.len = true) (ha : t.allOk = true) (hn : t.nodes ≤ 100) :
    Calls Tryd.prog 44 #[.agg #[.int .i64 k, .int .i64 n, .slice a t.len cap]] w fun e w' => e = .returned (.string (bs (basS (k, outF k n t)))) ∧ Below w.heap.size w w' := by
  have hlen := outF_len k n t
  have hb0 : Below w.heap.size w (w.alloc (.cells #[.int .i64 k, .int .i64 n, .slice a t.len cap] 24)) := (Below.refl _ _).alloc (Nat.le_refl _) _
  have HH := Lib.hid (H S k n a cap (w.alloc (.cells #[.int .i64 k, .int .i64 n, .slice a t.len cap] 24)) (hs.below hb0) (hk.below hb0) hf ha hn)
  have HI := Lib.hid (inner_of t H S k n a cap (w.alloc (.cells #[.int .i64 k, .int .i64 n, .slice a t.len cap] 24)) (hs.below hb0) (hk.below hb0) hf ha hn)
  obtain ⟨o, ho⟩ : ∃ o, o = outF k n t := ⟨_, rfl⟩
  rw [← ho] at HH HI hlen ⊢
  clear H ho hf ha
  have hlen2 : o.length ≤ 1000 := by omega
  by_cases h2 : k = 4
  · subst h2
    go_enter Tryd.func44, Tryd.ntmps44
    go_wp2_with fail
    refine HH.out.mono ?_
    rintro e w' ⟨rfl, hb⟩
    go_wp2_with fail
    go_ret
    exact ⟨ret_str ((wrap_bs o).trans (by unfold basS; rw [if_pos rfl])), hb0.trans (hb.mono (by simp))⟩
  · have h2' : (k == 4) = false := by simpa using h2
    have HB : RowKit.Hid (basS (k, o) = innS (k, o)) := by show _ = _; unfold basS; rw [if_neg h2]
    clear h2
    go_enter Tryd.func44, Tryd.ntmps44
    go_wp2_with fail
    refine HI.out.mono ?_
    rintro e w' ⟨rfl, hb⟩
    go_wp2_with fail
    go_ret
    exact ⟨ret_str (by rw [HB.out]), hb0.trans (hb.mono (by simp))⟩

/-- The fields of each kind. -/
theorem fields_cases {k n : Int} {l : Nat} (h : fieldsOk k n l = true) : (k = 0 ∧ n = 0 ∧ l = 0) ∨ (k = 1 ∧ 1 ≤ n ∧ n ≤ 16 ∧ l = 0) ∨ ((k = 2 ∨ k = 3) ∧ n = 0 ∧ l = 2) ∨ (k = 4 ∧ 1 ≤ n ∧ n ≤ 4 ∧ l = 1) ∨ ((k = 5 ∨ k = 6 ∨ k = 7) ∧ n = 0 ∧ l = 1) := by
  unfold fieldsOk arityOf leastOf mostOf at h
  have h := of_decide_eq_true h
  by_cases h0 : k = 0
  · subst h0; simp at h; left; omega
  by_cases h1 : k = 1
  · subst h1; simp at h; right; left; omega
  by_cases h2 : k = 2
  · subst h2; simp at h; right; right; left; omega
  by_cases h3 : k = 3
  · subst h3; simp at h; right; right; left; omega
  by_cases h4 : k = 4
  · subst h4; simp at h; right; right; right; left; omega
  by_cases h5 : k = 5
  · subst h5; simp at h; right; right; right; right; omega
  by_cases h6 : k = 6
  · subst h6; simp at h; right; right; right; right; omega
  by_cases h7 : k = 7
  · subst h7; simp at h; right; right; right; right; omega
  · simp [h0, h1, h2, h3, h4, h5, h6, h7] at h

theorem T.len0 {t : T} (h : t.len = 0) : t = .nil := by
  cases t with
  | nil => rfl
  | cons k n kids rest => simp [T.len] at h
theorem T.len1 {t : T} (h : t.len = 1) : ∃ k n kids, t = .cons k n kids .nil := by
  cases t with
  | nil => simp [T.len] at h
  | cons k n kids rest => exact ⟨k, n, kids, by rw [T.len0 (t := rest) (by simpa [T.len] using h)]⟩
theorem T.len2 {t : T} (h : t.len = 2) : ∃ k n kids k2 n2 kids2, t = .cons k n kids (.cons k2 n2 kids2 .nil) := by
  cases t with
  | nil => simp [T.len] at h
  | cons k n kids rest =>
    obtain ⟨k2, n2, kids2, h2⟩ := T.len1 (t := rest) (by simpa [T.len] using h)
    exact ⟨k, n, kids, k2, n2, kids2, by rw [h2]⟩

set_option maxRecDepth 100000 in
set_option maxHeartbeats 400000 in
theorem outer_0 (a : Option Addr) (len cap : Nat) (w : World) (hk : Kinds w) :
    Calls Tryd.prog 31 #[.agg #[.int .i64 0, .int .i64 0, .slice a len cap]] w fun e w' => e = .returned (.string (bs [88])) ∧ Below w.heap.size w w' := by
  have hb0 : Below w.heap.size w (w.alloc (.cells #[.int .i64 0, .int .i64 0, .slice a len cap] 24)) := (Below.refl _ _).alloc (Nat.le_refl _) _
  have g3 := (hk.below hb0) 3 _ rfl
  have hz : 0 < w.heap.size := lt_of_cell (hk 0 _ rfl)
  go_enter Tryd.func31, Tryd.ntmps31
  go_wp2_with fail
  go_ret
  exact ⟨rfl, hb0⟩

set_option maxRecDepth 100000 in
set_option maxHeartbeats 400000 in
theorem outer_1 (n : Int) (h0 : 0 ≤ n) (h1 : n ≤ 16) (a : Option Addr) (len cap : Nat) (w : World) (hk : Kinds w) :
    Calls Tryd.prog 31 #[.agg #[.int .i64 1, .int .i64 n, .slice a len cap]] w fun e w' => e = .returned (.string (bs (digs n))) ∧ Below w.heap.size w w' := by
  have hb0 : Below w.heap.size w (w.alloc (.cells #[.int .i64 1, .int .i64 n, .slice a len cap] 24)) := (Below.refl _ _).alloc (Nat.le_refl _) _
  have g3 := (hk.below hb0) 7 _ rfl
  have hz : 0 < w.heap.size := lt_of_cell (hk 0 _ rfl)
  go_enter Tryd.func31, Tryd.ntmps31
  go_wp2_with fail
  refine (itoa_any n h0 h1 _).mono ?_
  rintro e w' ⟨rfl, rfl⟩
  go_wp2_with fail
  go_ret
  exact ⟨rfl, hb0⟩

set_option maxRecDepth 100000 in
set_option maxHeartbeats 400000 in
theorem outer_5 (S : Nat → Nat → Prop) (k1 n1 : Int) (kids : T) (H : OutOk kids) (a : Option Addr) (cap : Nat) (w : World) (hs : Sl S w a (.cons k1 n1 kids .nil)) (hk : Kinds w) (hf : fieldsOk k1 n1 kids.len = true) (ha : kids.allOk = true) (hn : kids.nodes ≤ 100) :
    Calls Tryd.prog 31 #[.agg #[.int .i64 5, .int .i64 0, .slice a 1 cap]] w fun e w' => e = .returned (.string (bs (80 :: wrapS (outF k1 n1 kids)))) ∧ Below w.heap.size w w' := by
  obtain ⟨b, o, rfl, hat⟩ := hs.addr (i := 0) (by simp [T.len])
  obtain ⟨_, d0, d1, a1, cap1, d2, hs1⟩ := hat.get (i := 0) (by rw [T.drop_zero])
  have hlen := outF_len k1 n1 kids
  have hb0 : Below w.heap.size w (w.alloc (.cells #[.int .i64 5, .int .i64 0, .slice (some ⟨b, o, none⟩) 1 cap] 24)) := (Below.refl _ _).alloc (Nat.le_refl _) _
  have g3 := (hk.below hb0) 23 _ rfl
  have hz : 0 < w.heap.size := lt_of_cell (hk 0 _ rfl)
  replace d0 := cell_below hb0 d0
  replace d1 := cell_below hb0 d1
  replace d2 := cell_below hb0 d2
  simp only [Nat.mul_zero, Nat.add_zero] at d0 d1 d2
  have HH := Lib.hid (H S k1 n1 a1 cap1 _ (hs1.below hb0) (hk.below hb0) hf ha hn)
  obtain ⟨out, ho⟩ : ∃ o, o = outF k1 n1 kids := ⟨_, rfl⟩
  rw [← ho] at HH hlen ⊢
  clear H ho hf ha hk hs hat hs1
  have hlen2 : out.length ≤ 1000 := by omega
  go_enter Tryd.func31, Tryd.ntmps31
  go_wp2_with fail
  refine HH.out.mono ?_
  rintro e w' ⟨rfl, hb⟩
  go_wp2_with fail
  go_ret
  refine ⟨ret_str (Eq.trans (b := (bs [80] ++ bs [40] ++ bs out) ++ bs [41]) rfl ?_), hb0.trans (hb.mono (by simp))⟩
  rw [bs_app, bs_app, bs_app]
  rfl

set_option maxRecDepth 100000 in
set_option maxHeartbeats 400000 in
theorem outer_6 (S : Nat → Nat → Prop) (k1 n1 : Int) (kids : T) (H : OutOk kids) (a : Option Addr) (cap : Nat) (w : World) (hs : Sl S w a (.cons k1 n1 kids .nil)) (hk : Kinds w) (hf : fieldsOk k1 n1 kids.len = true) (ha : kids.allOk = true) (hn : kids.nodes ≤ 100) :
    Calls Tryd.prog 31 #[.agg #[.int .i64 6, .int .i64 0, .slice a 1 cap]] w fun e w' => e = .returned (.string (bs (66 :: wrapS (outF k1 n1 kids)))) ∧ Below w.heap.size w w' := by
  obtain ⟨b, o, rfl, hat⟩ := hs.addr (i := 0) (by simp [T.len])
  obtain ⟨_, d0, d1, a1, cap1, d2, hs1⟩ := hat.get (i := 0) (by rw [T.drop_zero])
  have hlen := outF_len k1 n1 kids
  have hb0 : Below w.heap.size w (w.alloc (.cells #[.int .i64 6, .int .i64 0, .slice (some ⟨b, o, none⟩) 1 cap] 24)) := (Below.refl _ _).alloc (Nat.le_refl _) _
  have g3 := (hk.below hb0) 27 _ rfl
  have hz : 0 < w.heap.size := lt_of_cell (hk 0 _ rfl)
  replace d0 := cell_below hb0 d0
  replace d1 := cell_below hb0 d1
  replace d2 := cell_below hb0 d2
  simp only [Nat.mul_zero, Nat.add_zero] at d0 d1 d2
  have HH := Lib.hid (H S k1 n1 a1 cap1 _ (hs1.below hb0) (hk.below hb0) hf ha hn)
  obtain ⟨out, ho⟩ : ∃ o, o = outF k1 n1 kids := ⟨_, rfl⟩
  rw [← ho] at HH hlen ⊢
  clear H ho hf ha hk hs hat hs1
  have hlen2 : out.length ≤ 1000 := by omega
  go_enter Tryd.func31, Tryd.ntmps31
  go_wp2_with fail
  refine HH.out.mono ?_
  rintro e w' ⟨rfl, hb⟩
  go_wp2_with fail
  go_ret
  refine ⟨ret_str (Eq.trans (b := (bs [66] ++ bs [40] ++ bs out) ++ bs [41]) rfl ?_), hb0.trans (hb.mono (by simp))⟩
  rw [bs_app, bs_app, bs_app]
  rfl

set_option maxRecDepth 100000 in
set_option maxHeartbeats 400000 in
theorem outer_7 (S : Nat → Nat → Prop) (k1 n1 : Int) (kids : T) (H : OutOk kids) (a : Option Addr) (cap : Nat) (w : World) (hs : Sl S w a (.cons k1 n1 kids .nil)) (hk : Kinds w) (hf : fieldsOk k1 n1 kids.len = true) (ha : kids.allOk = true) (hn : kids.nodes ≤ 100) :
    Calls Tryd.prog 31 #[.agg #[.int .i64 7, .int .i64 0, .slice a 1 cap]] w fun e w' => e = .returned (.string (bs (68 :: wrapS (outF k1 n1 kids)))) ∧ Below w.heap.size w w' := by
  obtain ⟨b, o, rfl, hat⟩ := hs.addr (i := 0) (by simp [T.len])
  obtain ⟨_, d0, d1, a1, cap1, d2, hs1⟩ := hat.get (i := 0) (by rw [T.drop_zero])
  have hlen := outF_len k1 n1 kids
  have hb0 : Below w.heap.size w (w.alloc (.cells #[.int .i64 7, .int .i64 0, .slice (some ⟨b, o, none⟩) 1 cap] 24)) := (Below.refl _ _).alloc (Nat.le_refl _) _
  have g3 := (hk.below hb0) 31 _ rfl
  have hz : 0 < w.heap.size := lt_of_cell (hk 0 _ rfl)
  replace d0 := cell_below hb0 d0
  replace d1 := cell_below hb0 d1
  replace d2 := cell_below hb0 d2
  simp only [Nat.mul_zero, Nat.add_zero] at d0 d1 d2
  have HH := Lib.hid (H S k1 n1 a1 cap1 _ (hs1.below hb0) (hk.below hb0) hf ha hn)
  obtain ⟨out, ho⟩ : ∃ o, o = outF k1 n1 kids := ⟨_, rfl⟩
  rw [← ho] at HH hlen ⊢
  clear H ho hf ha hk hs hat hs1
  have hlen2 : out.length ≤ 1000 := by omega
  go_enter Tryd.func31, Tryd.ntmps31
  go_wp2_with fail
  refine HH.out.mono ?_
  rintro e w' ⟨rfl, hb⟩
  go_wp2_with fail
  go_ret
  refine ⟨ret_str (Eq.trans (b := (bs [68] ++ bs [40] ++ bs out) ++ bs [41]) rfl ?_), hb0.trans (hb.mono (by simp))⟩
  rw [bs_app, bs_app, bs_app]
  rfl

end Go.Proofs.YtioimhnebjiicaaDoor
