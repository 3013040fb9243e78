/-
  Proved here: what the reference's reader does with one token, and with a functor that begins with its own token or a bracket.
-/
import Derived.Test.YtioimhnebjiicaaDoorTxtB
import Derived.Test.YtioimhnebjiicaaDoorChkB
import Derived.StillTailTactics
namespace Go.Proofs.YtioimhnebjiicaaDoor
open Go.RowKit

/-- The tokens that a reader has left lie in its slice, and its flag is as told. -/
structure RdAt (rb : Nat) (ts : List Tok) (bad : Bool) (a : Option Addr) (cap : Nat) (w : World) : Prop where
  hp : w.heap[rb]? = some (Obj.cells #[.slice a ts.length cap, .bool bad] 61 (0, 0))
  hcap : ts.length ≤ cap
  len : ts.length ≤ 50000
  ok : ∀ t ∈ ts, TokOk 50000 t
  cells : ts = [] ∨ ∃ b o, b ≠ rb ∧ a = some ⟨b, o, none⟩ ∧ ∀ i t, ts[i]? = some t → w.cell? ⟨b, o + i, none⟩ = some (.string (bs t))

def Rdr (rb : Nat) (ts : List Tok) (bad : Bool) (w : World) : Prop := ∃ a cap, RdAt rb ts bad a cap w

theorem RdAt.c0 {rb : Nat} {ts : List Tok} {bad : Bool} {a : Option Addr} {cap : Nat} {w : World} (h : RdAt rb ts bad a cap w) : w.cell? ⟨rb, 0, none⟩ = some (.slice a ts.length cap) := by simp [World.cell?, h.hp]
theorem RdAt.c1 {rb : Nat} {ts : List Tok} {bad : Bool} {a : Option Addr} {cap : Nat} {w : World} (h : RdAt rb ts bad a cap w) : w.cell? ⟨rb, 1, none⟩ = some (.bool bad) := by simp [World.cell?, h.hp]
theorem RdAt.fz {rb : Nat} {ts : List Tok} {bad : Bool} {a : Option Addr} {cap : Nat} {w : World} (h : RdAt rb ts bad a cap w) (o : Nat) : w.frozen? ⟨rb, o, none⟩ = false := frozen_of h.hp
theorem Rdr.lt {rb : Nat} {ts : List Tok} {bad : Bool} {w : World} (h : Rdr rb ts bad w) : rb < w.heap.size := by
  obtain ⟨a, cap, h⟩ := h
  exact heap_lt h.hp
theorem RdAt.below {rb : Nat} {ts : List Tok} {bad : Bool} {a : Option Addr} {cap : Nat} {w w' : World} (h : RdAt rb ts bad a cap w) (hb : Below w.heap.size w w') : RdAt rb ts bad a cap w' := by
  refine ⟨by rw [hb.block _ (heap_lt h.hp)]; exact h.hp, h.hcap, h.len, h.ok, ?_⟩
  rcases h.cells with h1 | ⟨b, o, h1, h2, h3⟩
  · exact Or.inl h1
  · exact Or.inr ⟨b, o, h1, h2, fun i t ht => cell_below hb (h3 i t ht)⟩
theorem Rdr.below {rb : Nat} {ts : List Tok} {bad : Bool} {w w' : World} (h : Rdr rb ts bad w) (hb : Below w.heap.size w w') : Rdr rb ts bad w' := by
  obtain ⟨a, cap, h⟩ := h
  exact ⟨a, cap, h.below hb⟩
theorem Rdr.drewN {rb n : Nat} {ts : List Tok} {bad : Bool} {w : World} (h : Rdr rb ts bad w) : Rdr rb ts bad (w.drewN n) := h.below below_drewN

/-- The reader's block is written anew. -/
theorem RdAt.set {rb : Nat} {ts ts' : List Tok} {bad bad' : Bool} {a a' : Option Addr} {cap cap' : Nat} {w w' : World} (h : RdAt rb ts bad a cap w)
    (hp : w'.heap[rb]? = some (Obj.cells #[.slice a' ts'.length cap', .bool bad'] 61 (0, 0))) (ho : Oth rb w w') (hc : ts'.length ≤ cap') (hl : ts'.length ≤ ts.length) (hm : ∀ t ∈ ts', t ∈ ts)
    (ha : ts' = [] ∨ ∃ b o k, a = some ⟨b, o, none⟩ ∧ a' = some ⟨b, o + k, none⟩ ∧ ∀ i t, ts'[i]? = some t → ts[k + i]? = some t) : RdAt rb ts' bad' a' cap' w' := by
  refine ⟨hp, hc, Nat.le_trans hl h.len, fun t ht => h.ok t (hm t ht), ?_⟩
  rcases ha with h1 | ⟨b, o, k, h1, h2, h3⟩
  · exact Or.inl h1
  · rcases h.cells with h4 | ⟨b', o', h4, h5, h6⟩
    · left
      subst h4
      exact List.eq_nil_of_length_eq_zero (Nat.le_zero.1 hl)
    · rw [h1] at h5
      obtain ⟨rfl, rfl⟩ : b = b' ∧ o = o' := by simpa using h5
      refine Or.inr ⟨b, o + k, h4, h2, fun i t ht => ?_⟩
      rw [Nat.add_assoc]
      exact ho.cell h4 (h6 _ _ (h3 i t ht))

theorem of_any (k n : Int) (a : Option Addr) (len cap : Nat) (w : World) :
    Calls Tryd.prog 62 #[.int .i64 k, .int .i64 n, .slice a len cap] w fun e w' => e = .returned (.agg #[.int .i64 k, .int .i64 n, .slice a len cap]) ∧ Below w.heap.size w w' := by
  go_enter Tryd.func62, Tryd.ntmps62
  go_wp2_with fail
  first
    | (go_ret; exact ⟨rfl, Below.refl _ _⟩)
    | (refine bodyPost_ret (v := .agg #[.int .i64 k, .int .i64 n, .slice a len cap]) (by simp [results, Tryd.results62, go_sem]) rfl ?_
       exact ⟨rfl, (Below.refl _ _).alloc (Nat.le_refl _) _⟩)

set_option maxHeartbeats 400000 in
theorem sees_any (rb : Nat) (ts : List Tok) (bad : Bool) (t : Tok) (w : World) (h : Rdr rb ts bad w) :
    Calls Tryd.prog 60 #[.pointer (some ⟨rb, 0, none⟩), .string (bs t)] w fun e w' => e = .returned (.bool (decide (ts.head? = some t))) ∧ w = w' := by
  obtain ⟨a, cap, h⟩ := h
  have c0 := h.c0
  have hl := h.len
  cases ts with
  | nil =>
    simp only [List.length_nil] at c0
    clear h
    go_enter Tryd.func60, Tryd.ntmps60
    go_wp2_with fail
    go_ret
    exact ⟨rfl, rfl⟩
  | cons x r =>
    rcases h.cells with hc | ⟨b, o, _, rfl, hc⟩
    · cases hc
    have d0 := hc 0 x rfl
    simp only [Nat.add_zero] at d0
    simp only [List.length_cons] at c0 hl
    have e : decide ((x :: r).head? = some t) = (x == t) := by
      simp only [List.head?_cons, Option.some.injEq]
      rw [Bool.eq_iff_iff]
      simp
    rw [e]
    clear e h hc
    go_enter Tryd.func60, Tryd.ntmps60
    go_wp2_with fail
    go_ret
    exact ⟨rfl, rfl⟩

theorem heap_two {w : World} {b : Nat} {x y : Value} {t : TypeId} {fz : Nat × Nat} (h : w.heap[b]? = some (Obj.cells #[x, y] t fz)) (v : Value) :
    (w.setCell ⟨b, 0, none⟩ v).heap[b]? = some (Obj.cells #[v, y] t fz) ∧ (w.setCell ⟨b, 1, none⟩ v).heap[b]? = some (Obj.cells #[x, v] t fz) := by
  constructor <;> simp [World.setCell, Array.getElem?_modify, h]

/-- The first token is dropped. -/
def TakePost' (rb : Nat) (ts : List Tok) (bad : Bool) (w : World) (w' : World) : Prop := Oth rb w w' ∧ Rdr rb ts bad w'

theorem drop_first {rb : Nat} {x : Tok} {r : List Tok} {bad : Bool} {b o cap : Nat} {w : World} (h : RdAt rb (x :: r) bad (some ⟨b, o, none⟩) cap w) (a' : Option Addr) (ha : r = [] ∨ a' = some ⟨b, o + 1, none⟩) :
    TakePost' rb r bad w (w.setCell ⟨rb, 0, none⟩ (.slice a' r.length (cap - 1))) := by
  have ho : Oth rb w (w.setCell ⟨rb, 0, none⟩ (.slice a' r.length (cap - 1))) := (Oth.refl _ _).set _ _
  have hc := h.hcap
  simp only [List.length_cons] at hc
  refine ⟨ho, a', cap - 1, h.set (heap_two h.hp _).1 ho (by omega) (by simp) (fun t ht => by simp [ht]) ?_⟩
  rcases ha with h1 | h1
  · exact Or.inl h1
  · exact Or.inr ⟨b, o, 1, rfl, h1, fun i t ht => by rw [Nat.add_comm]; simpa using ht⟩

set_option maxHeartbeats 800000 in
theorem tk_yes (rb : Nat) (t : Tok) (r : List Tok) (bad : Bool) (w : World) (h : Rdr rb (t :: r) bad w) :
    Calls Tryd.prog 61 #[.pointer (some ⟨rb, 0, none⟩), .string (bs t)] w fun e w' => e = .returned (.tuple #[]) ∧ TakePost' rb r bad w w' := by
  have HS := Lib.hid (sees_any rb _ bad t w h)
  obtain ⟨a, cap, h⟩ := h
  rcases h.cells with hc | ⟨b, o, _, rfl, hc⟩
  · cases hc
  have c0 := h.c0
  have hl := h.len
  have hcap := h.hcap
  have fz := h.fz 0
  have HP := Lib.hid (fun a' ha => drop_first h a' ha)
  simp only [List.length_cons] at c0 hl hcap
  clear h hc
  go_enter Tryd.func61, Tryd.ntmps61
  go_wp2_with fail
  refine HS.out.mono ?_
  rintro e w' ⟨rfl, rfl⟩
  simp only [List.head?_cons, decide_true]
  by_cases h1 : cap = 1
  · go_wp2_with fail
    refine bodyPost_end (v := .tuple #[]) (by simp [results, Tryd.results61, go_sem]) rfl ?_
    subst h1
    obtain rfl : r = [] := List.eq_nil_of_length_eq_zero (by omega)
    exact ⟨rfl, HP.out _ (Or.inl rfl)⟩
  · go_wp2_with fail
    refine bodyPost_end (v := .tuple #[]) (by simp [results, Tryd.results61, go_sem]) rfl ?_
    exact ⟨rfl, HP.out _ (Or.inr rfl)⟩

theorem set_bad {rb : Nat} {ts : List Tok} {bad : Bool} {w : World} (h : Rdr rb ts bad w) : TakePost' rb ts true w (w.setCell ⟨rb, 1, none⟩ (.bool true)) := by
  obtain ⟨a, cap, h⟩ := h
  have ho : Oth rb w (w.setCell ⟨rb, 1, none⟩ (.bool true)) := (Oth.refl _ _).set _ _
  refine ⟨ho, a, cap, h.set (heap_two h.hp _).2 ho h.hcap (Nat.le_refl _) (fun t ht => ht) ?_⟩
  rcases h.cells with h1 | ⟨b, o, _, h2, _⟩
  · exact Or.inl h1
  · exact Or.inr ⟨b, o, 0, h2, h2, fun i t ht => by rw [Nat.zero_add]; exact ht⟩

set_option maxHeartbeats 800000 in
theorem tk_no (rb : Nat) (ts : List Tok) (t : Tok) (bad : Bool) (w : World) (h : Rdr rb ts bad w) (hn : ts.head? ≠ some t) :
    Calls Tryd.prog 61 #[.pointer (some ⟨rb, 0, none⟩), .string (bs t)] w fun e w' => e = .returned (.tuple #[]) ∧ TakePost' rb ts true w w' := by
  have HS := Lib.hid (sees_any rb _ bad t w h)
  have HB := Lib.hid (set_bad h)
  obtain ⟨a, cap, h⟩ := h
  have c1 := h.c1
  have fz := h.fz 1
  have hd : decide (ts.head? = some t) = false := by simpa using hn
  have HD := Lib.hid hd
  clear h hn hd
  go_enter Tryd.func61, Tryd.ntmps61
  go_wp2_with fail
  refine HS.out.mono ?_
  rintro e w' ⟨rfl, rfl⟩
  rw [HD.out]
  go_wp2_with fail
  exact bodyPost_ret (v := .tuple #[]) (results_none rfl _ _ _) rfl ⟨rfl, HB.out⟩

/-- A token is taken, or the reader is marked. -/
def takeT (t : Tok) (ts : List Tok) (bad : Bool) : List Tok × Bool := if ts.head? = some t then (ts.tail, bad) else (ts, true)

theorem tk_any (rb : Nat) (ts : List Tok) (t : Tok) (bad : Bool) (w : World) (h : Rdr rb ts bad w) :
    Calls Tryd.prog 61 #[.pointer (some ⟨rb, 0, none⟩), .string (bs t)] w fun e w' => e = .returned (.tuple #[]) ∧ TakePost' rb (takeT t ts bad).1 (takeT t ts bad).2 w w' := by
  unfold takeT
  by_cases hn : ts.head? = some t
  · rw [if_pos hn]
    cases ts with
    | nil => cases hn
    | cons x r =>
      simp only [List.head?_cons, Option.some.injEq] at hn
      subst hn
      exact tk_yes rb x r bad w h
  · rw [if_neg hn]
    exact tk_no rb ts t bad w h hn

set_option maxHeartbeats 800000 in
theorem digs_yes (rb : Nat) (t : Tok) (r : List Tok) (bad : Bool) (w : World) (h : Rdr rb (t :: r) bad w) (hd : hdD t = true) :
    Calls Tryd.prog 73 #[.pointer (some ⟨rb, 0, none⟩)] w fun e w' => e = .returned (.string (bs t)) ∧ TakePost' rb r bad w w' := by
  obtain ⟨a, cap, h⟩ := h
  rcases h.cells with hc | ⟨b, o, _, rfl, hc⟩
  · cases hc
  have c0 := h.c0
  have hl := h.len
  have hcap := h.hcap
  have fz := h.fz 0
  have HP := Lib.hid (fun a' ha => drop_first h a' ha)
  have d0 := hc 0 t rfl
  simp only [Nat.add_zero] at d0
  simp only [List.length_cons] at c0 hl hcap
  clear h hc
  obtain ⟨c, cs, rfl⟩ : ∃ c cs, t = c :: cs := by cases t with | nil => cases hd | cons c cs => exact ⟨c, cs, rfl⟩
  have hsz : 0 < (bs (c :: cs)).size := by simp [ByteArray.size]
  have hg : (bs (c :: cs))[0] = c := by simp [ByteArray.getElem_eq_getElem_data]
  obtain ⟨s, hs⟩ : ∃ s, s = bs (c :: cs) := ⟨_, rfl⟩
  simp only [← hs] at hsz hg d0 ⊢
  have hdd : isD (s[0].toNat : Int) = true := by rw [hg]; exact hd
  have HD := Lib.hid hdd
  clear hg hd hdd hs
  by_cases h1 : cap = 1
  · go_enter Tryd.func73, Tryd.ntmps73
    go_wp2_with fail
    refine (digitRef_any _ _).mono ?_
    rintro e w' ⟨rfl, rfl⟩
    rw [HD.out]
    go_wp2_with fail
    go_ret
    subst h1
    obtain rfl : r = [] := List.eq_nil_of_length_eq_zero (by omega)
    exact ⟨rfl, HP.out _ (Or.inl rfl)⟩
  · go_enter Tryd.func73, Tryd.ntmps73
    go_wp2_with fail
    refine (digitRef_any _ _).mono ?_
    rintro e w' ⟨rfl, rfl⟩
    rw [HD.out]
    go_wp2_with fail
    go_ret
    exact ⟨rfl, HP.out _ (Or.inr rfl)⟩

set_option maxHeartbeats 800000 in
theorem digs_no (rb : Nat) (ts : List Tok) (bad : Bool) (w : World) (h : Rdr rb ts bad w) (hd : ts = [] ∨ ∃ t r, ts = t :: r ∧ hdD t = false) :
    Calls Tryd.prog 73 #[.pointer (some ⟨rb, 0, none⟩)] w fun e w' => e = .returned (.string (bs [48])) ∧ TakePost' rb ts true w w' := by
  have HB := Lib.hid (set_bad h)
  obtain ⟨a, cap, h⟩ := h
  have c0 := h.c0
  have c1 := h.c1
  have fz := h.fz 1
  have hl := h.len
  rcases hd with rfl | ⟨t, r, rfl, hd⟩
  · simp only [List.length_nil] at c0
    clear h
    go_enter Tryd.func73, Tryd.ntmps73
    go_wp2_with fail
    go_ret
    exact ⟨rfl, HB.out⟩
  · rcases h.cells with hc | ⟨b, o, _, rfl, hc⟩
    · cases hc
    have d0 := hc 0 t rfl
    have hne := (h.ok t (by simp)).1
    simp only [Nat.add_zero] at d0
    simp only [List.length_cons] at c0 hl
    clear h hc
    obtain ⟨c, cs, rfl⟩ : ∃ c cs, t = c :: cs := by cases t with | nil => exact absurd rfl hne | cons c cs => exact ⟨c, cs, rfl⟩
    have hsz : 0 < (bs (c :: cs)).size := by simp [ByteArray.size]
    have hg : (bs (c :: cs))[0] = c := by simp [ByteArray.getElem_eq_getElem_data]
    obtain ⟨s, hs⟩ : ∃ s, s = bs (c :: cs) := ⟨_, rfl⟩
    simp only [← hs] at hsz hg d0
    have hdd : isD (s[0].toNat : Int) = false := by rw [hg]; exact hd
    have HD := Lib.hid hdd
    clear hg hd hdd hne hs
    go_enter Tryd.func73, Tryd.ntmps73
    go_wp2_with fail
    refine (digitRef_any _ _).mono ?_
    rintro e w' ⟨rfl, rfl⟩
    rw [HD.out]
    go_wp2_with fail
    go_ret
    exact ⟨rfl, HB.out⟩
end Go.Proofs.YtioimhnebjiicaaDoor

namespace Go.Proofs.YtioimhnebjiicaaDoor
open Go.RowKit

def T.cap : T → T
  | .nil => .nil
  | .cons k n kids rest => .cons k (min n 17) kids.cap rest.cap
def F.cap (f : F) : F := ⟨f.k, min f.n 17, f.t.cap⟩

theorem F.cap_one (k : Int) (f : F) : F.cap ⟨k, 0, f.one⟩ = ⟨k, 0, f.cap.one⟩ := by
  simp only [F.cap, F.one, T.cap]; congr
theorem F.cap_two (k : Int) (f g : F) : F.cap ⟨k, 0, F.two f g⟩ = ⟨k, 0, F.two f.cap g.cap⟩ := by
  simp only [F.cap, F.two, T.cap]; congr

/-- What a reader's answer says: where the text is not refused, the functor is as told, but for numbers above 17. -/
def Good (bad : Bool) (m : Option (F × List Tok)) (f : F) (ts' : List Tok) (bad' : Bool) : Prop :=
  (bad = true → bad' = true) ∧ (bad = false → match m with
    | none => bad' = true
    | some (g, r) => bad' = false ∧ f.cap = g ∧ ts' = r)

theorem Good.bad {m : Option (F × List Tok)} {f : F} {ts : List Tok} : Good true m f ts true := ⟨fun _ => rfl, fun h => by cases h⟩
theorem Good.no {bad : Bool} {f : F} {ts : List Tok} : Good bad none f ts true := ⟨fun _ => rfl, fun _ => rfl⟩
theorem Good.one {bad bad' : Bool} {m : Option (F × List Tok)} {f : F} {ts : List Tok} (h : Good bad m f ts bad') (k : Int) : Good bad (oneT k m) ⟨k, 0, f.one⟩ ts bad' := by
  refine ⟨h.1, fun hb => ?_⟩
  have := h.2 hb
  cases m with
  | none => exact this
  | some p => exact ⟨this.1, by rw [F.cap_one, this.2.1], this.2.2⟩

theorem take_mono (t : Tok) (ts : List Tok) (bad : Bool) (h : bad = true) : (takeT t ts bad).2 = true := by
  unfold takeT; subst h; split <;> rfl
theorem take_len (t : Tok) (ts : List Tok) (bad : Bool) : (takeT t ts bad).1.length ≤ ts.length := by
  unfold takeT; split
  · simp only [List.length_tail]; omega
  · exact Nat.le_refl _

theorem Good.close {bad bad' : Bool} {m : Option (F × List Tok)} {f : F} {ts : List Tok} (h : Good bad m f ts bad') : Good bad (closeT m) f (takeT [41] ts bad').1 (takeT [41] ts bad').2 := by
  refine ⟨fun hb => take_mono _ _ _ (h.1 hb), fun hb => ?_⟩
  have := h.2 hb
  match m, this with
  | none, h1 => exact take_mono _ _ _ h1
  | some (g, []), ⟨h1, h2, h3⟩ => subst h3; rfl
  | some (g, u :: r), ⟨h1, h2, h3⟩ =>
    subst h3
    by_cases hu : u = [41]
    · subst hu
      simp only [closeT, takeT, List.head?_cons, if_true, List.tail_cons]
      exact ⟨h1, h2, trivial⟩
    · have : ¬ (u :: r).head? = some [41] := by simpa using hu
      simp only [closeT, if_neg hu, takeT, if_neg this]

theorem Good.open {bad bad' : Bool} {J : List Tok → Option (F × List Tok)} {f : F} {r ts : List Tok} (h : Good (takeT [40] r bad).2 (closeT (J (takeT [40] r bad).1)) f ts bad') : Good bad (brT J r) f ts bad' := by
  refine ⟨fun hb => h.1 (take_mono _ _ _ hb), fun hb => ?_⟩
  subst hb
  match r with
  | [] => exact h.1 rfl
  | u :: r2 =>
    by_cases hu : u = [40]
    · subst hu
      have := h.2 (by simp [takeT])
      simpa [takeT, brT] using this
    · have hn : ¬ (u :: r2).head? = some [40] := by simpa using hu
      have := h.1 (by simp only [takeT, if_neg hn])
      simp only [brT, if_neg hu]
      exact this

structure RdPost (rb : Nat) (ts : List Tok) (bad : Bool) (m : Option (F × List Tok)) (w : World) (e : Ending) (w' : World) (f : F) (a : Option Addr) (cap : Nat) (ts' : List Tok) (bad' : Bool) : Prop where
  e : e = .returned (f.val a cap)
  sl : Sl (SP w.heap.size) w' a f.t
  rd : Rdr rb ts' bad' w'
  oth : Oth rb w w'
  len : ts'.length ≤ ts.length
  good : Good bad m f ts' bad'

/-- What a method of the reader that reads a functor does. -/
def RP (rb : Nat) (ts : List Tok) (bad : Bool) (m : Option (F × List Tok)) (w : World) (e : Ending) (w' : World) : Prop :=
  ∃ f a cap ts' bad', RdPost rb ts bad m w e w' f a cap ts' bad'

theorem Oth.keep {pb : Nat} {u u' : World} (h : Oth pb u u') {b : Nat} {o : Obj} (hb : b ≠ pb) (hh : u.heap[b]? = some o) : u'.heap[b]? = some o := by
  rw [h.block b (heap_lt hh) hb]; exact hh

/-- The result's cells are written: the reader and the trees stay. -/
theorem Rdr.oth {P rb : Nat} {ts : List Tok} {bad : Bool} {u u' : World} (h : Rdr rb ts bad u) (hP : P ≠ rb) (hz : u.heap[P]? = some (Obj.cells #[.int .i64 0, .int .i64 0, .slice none 0 0] 24 (0, 0))) (ho : Oth P u u') : Rdr rb ts bad u' := by
  obtain ⟨a, cap, h⟩ := h
  refine ⟨a, cap, ho.keep (Ne.symm hP) h.hp, h.hcap, h.len, h.ok, ?_⟩
  rcases h.cells with h1 | ⟨b, o, h1, h2, h3⟩
  · exact Or.inl h1
  · refine Or.inr ⟨b, o, h1, h2, fun i t ht => ?_⟩
    have hc := h3 i t ht
    refine ho.cell ?_ hc
    intro e
    subst e
    unfold World.cell? at hc
    rw [hz] at hc
    simp only at hc
    rcases hk : o + i with _ | _ | _ | k <;> rw [hk] at hc <;> simp at hc


theorem sl_nil (S : Nat → Nat → Prop) (w : World) : Sl S w none .nil := ⟨by simp [T.len], rfl⟩

set_option maxHeartbeats 800000 in
theorem atom_bad (rb : Nat) (ts : List Tok) (m : Option (F × List Tok)) (w : World) (h : Rdr rb ts true w) :
    Calls Tryd.prog 71 #[.pointer (some ⟨rb, 0, none⟩)] w (RP rb ts true m w) := by
  obtain ⟨R, hR1⟩ : ∃ R, R = RP rb ts true m w := ⟨_, rfl⟩
  rw [← hR1]
  have HR1 := Lib.hid hR1
  clear hR1
  have hb0 := (Below.refl w.heap.size w).alloc (Nat.le_refl _) (.cells #[.int .i64 0, .int .i64 0, .slice none 0 0] 24)
  have h1 := h.below hb0
  obtain ⟨W, hW⟩ : ∃ W, W = w.alloc (.cells #[.int .i64 0, .int .i64 0, .slice none 0 0] 24) := ⟨_, rfl⟩
  have hres : HdRes w.heap.size W := by rw [hW]; exact heap_new _ _
  rw [← hW] at hb0 h1
  have hlt := h.lt
  have H1 := Lib.hid h1
  obtain ⟨a, cap, h1⟩ := h1
  have c1 := h1.c1
  rw [hW] at c1
  clear h1
  go_enter Tryd.func71, Tryd.ntmps71
  go_wp2_with fail
  rw [← hW]
  obtain ⟨d0, d1, d2⟩ := cells_of hres
  refine bodyPost_ret (v := F.val ⟨0, 0, .nil⟩ none 0) (by simp [results, Tryd.results71, go_sem, d0, d1, d2, T.len]) rfl ?_
  rw [HR1.out]
  exact ⟨⟨0, 0, .nil⟩, none, 0, ts, true, ⟨rfl, sl_nil _ _, H1.out, (Oth.refl rb w).below hb0, Nat.le_refl _, Good.bad⟩⟩
end Go.Proofs.YtioimhnebjiicaaDoor

namespace Go.Proofs.YtioimhnebjiicaaDoor
open Go.RowKit

/-- A functor is stored into the result's cells. -/
def stored (B : Nat) (f : F) (a : Option Addr) (cap : Nat) (w : World) : World :=
  ((w.setCell ⟨B, 0, none⟩ (.int .i64 f.k)).setCell ⟨B, 1, none⟩ (.int .i64 f.n)).setCell ⟨B, 2, none⟩ (.slice a f.t.len cap)

theorem rd_fin {rb : Nat} {ts : List Tok} {bad : Bool} {m : Option (F × List Tok)} {w w3 : World} {f : F} {a : Option Addr} {cap : Nat} {ts' : List Tok} {bad' : Bool} (hlt : rb < w.heap.size) (hres : HdRes w.heap.size w3)
    (hs : Sl (SP (w.heap.size + 1)) w3 a f.t) (hr : Rdr rb ts' bad' w3) (ho : Oth rb w w3) (hl : ts'.length ≤ ts.length) (hg : Good bad m f ts' bad') : RP rb ts bad m w (.returned (f.val a cap)) (stored w.heap.size f a cap w3) := by
  have h1 : Oth w.heap.size w3 (stored w.heap.size f a cap w3) := (((Oth.refl _ _).set _ _).set _ _).set _ _
  refine ⟨f, a, cap, ts', bad', ⟨rfl, ?_, hr.oth (by omega) hres h1, store3_oth ho (Nat.le_refl _), hl, hg⟩⟩
  exact (hs.othP (fun b o hb => by have := hb.1; omega) h1).weaken (fun _ _ => sp_le (Nat.le_succ _))

theorem stored_cells {B : Nat} {f : F} {a : Option Addr} {cap : Nat} {w : World} (h : HdRes B w) :
    (stored B f a cap w).cell? ⟨B, 0, none⟩ = some (.int .i64 f.k) ∧ (stored B f a cap w).cell? ⟨B, 1, none⟩ = some (.int .i64 f.n) ∧ (stored B f a cap w).cell? ⟨B, 2, none⟩ = some (.slice a f.t.len cap) :=
  cells_of (store3 h rfl)

theorem res71 {B : Nat} {f : F} {a : Option Addr} {cap : Nat} {w : World} (h : HdRes B w) {tm : Array Value} (h2 : tm[2]? = some (.pointer (some ⟨B, 0, none⟩))) :
    (results Tryd.f71 tm).run Tryd.prog (stored B f a cap w) = .ok (f.val a cap) (stored B f a cap w) := by
  obtain ⟨d0, d1, d2⟩ := stored_cells (f := f) (a := a) (cap := cap) h
  simp [results, Tryd.results71, go_sem, h2, d0, d1, d2]

/-- What a call begins with: its result's cells, and the reader as it is. -/
structure Start (rb : Nat) (ts : List Tok) (bad : Bool) (w W : World) : Prop where
  bl : Below w.heap.size w W
  res : HdRes w.heap.size W
  rd : Rdr rb ts bad W
  lt : rb < w.heap.size
theorem Start.mk' {rb : Nat} {ts : List Tok} {bad : Bool} {w : World} (h : Rdr rb ts bad w) : Start rb ts bad w (w.alloc (.cells #[.int .i64 0, .int .i64 0, .slice none 0 0] 24)) := by
  have hb0 := (Below.refl w.heap.size w).alloc (Nat.le_refl _) (.cells #[.int .i64 0, .int .i64 0, .slice none 0 0] 24)
  exact ⟨hb0, heap_new _ _, h.below hb0, h.lt⟩
theorem Rdr.cell1 {rb : Nat} {ts : List Tok} {bad : Bool} {w : World} (h : Rdr rb ts bad w) : w.cell? ⟨rb, 1, none⟩ = some (.bool bad) := by
  obtain ⟨a, cap, h⟩ := h
  exact h.c1

theorem sees_at {rb : Nat} {ts : List Tok} {bad : Bool} {w : World} (h : Rdr rb ts bad w) (t : Tok) (b : Bool) (hb : decide (ts.head? = some t) = b) :
    Calls Tryd.prog 60 #[.pointer (some ⟨rb, 0, none⟩), .string (bs t)] w fun e w' => e = .returned (.bool b) ∧ w = w' := by
  rw [← hb]; exact sees_any rb ts bad t w h

set_option maxRecDepth 100000 in
set_option maxHeartbeats 1600000 in
theorem atom_x (rb : Nat) (r : List Tok) (J : List Tok → Option (F × List Tok)) (w : World) (h : Rdr rb ([88] :: r) false w) :
    Calls Tryd.prog 71 #[.pointer (some ⟨rb, 0, none⟩)] w (RP rb ([88] :: r) false (atomT J ([88] :: r)) w) := by
  obtain ⟨R, hR1⟩ : ∃ R, R = RP rb ([88] :: r) false (atomT J ([88] :: r)) w := ⟨_, rfl⟩
  rw [← hR1]
  have HR1 := Lib.hid hR1
  clear hR1
  have hst := Start.mk' h
  obtain ⟨W, hW⟩ : ∃ W, W = w.alloc (.cells #[.int .i64 0, .int .i64 0, .slice none 0 0] 24) := ⟨_, rfl⟩
  rw [← hW] at hst
  have c1 := hst.rd.cell1
  rw [hW] at c1
  go_enter Tryd.func71, Tryd.ntmps71
  go_wp2_with fail
  rw [← hW]
  clear hW c1
  refine (sees_at hst.rd [88] true rfl).mono ?_
  rintro e w' ⟨rfl, rfl⟩
  go_wp2_with fail
  refine (tk_yes rb [88] r false _ hst.rd).mono ?_
  rintro e w2 ⟨rfl, ho2, hr2⟩
  go_wp2_with fail
  refine (of_any 0 0 none 0 0 w2).mono ?_
  rintro e w3 ⟨rfl, hb3⟩
  have hres3 : HdRes w.heap.size w3 := ((ho2.below hb3).keep (by have := hst.lt; omega) hst.res)
  obtain ⟨z0, z1, z2⟩ := cells_of hres3
  have vz := fun o => frozen_of (o := o) hres3
  go_wp2_with fail
  refine bodyPost_ret (v := F.val ⟨0, 0, .nil⟩ none 0) (by simp [results, Tryd.results71, go_sem, z0, z1, z2, T.len]) rfl ?_
  rw [HR1.out]
  exact rd_fin (f := ⟨0, 0, .nil⟩) (a := none) (cap := 0) hst.lt hres3 (sl_nil _ _) (hr2.below hb3) (((Oth.refl rb w).below hst.bl).trans (ho2.below hb3)) (by simp) ⟨fun h => (by cases h), fun _ => (by rw [show atomT J ([88] :: r) = some (⟨0, 0, .nil⟩, r) by simp [atomT]]; exact ⟨rfl, rfl, rfl⟩)⟩

def noHead (ts : List Tok) (t : Tok) : Prop := decide (ts.head? = some t) = false

set_option maxRecDepth 100000 in
set_option maxHeartbeats 3200000 in
theorem atom_num (rb : Nat) (ts : List Tok) (J : List Tok → Option (F × List Tok)) (w : World) (h : Rdr rb ts false w)
    (n1 : noHead ts [88]) (n2 : noHead ts [80]) (n3 : noHead ts [66]) (n4 : noHead ts [68]) (n5 : noHead ts [40]) :
    Calls Tryd.prog 71 #[.pointer (some ⟨rb, 0, none⟩)] w (RP rb ts false (atomT J ts) w) := by
  have hdig : (∃ (t : Tok) (r : List Tok), ts = t :: r ∧ hdD t = true) ∨ (atomT J ts = none ∧ (ts = [] ∨ ∃ (t : Tok) (r : List Tok), ts = t :: r ∧ hdD t = false)) := by
    cases ts with
    | nil => exact Or.inr ⟨rfl, Or.inl rfl⟩
    | cons t r =>
      by_cases hd : hdD t = true
      · exact Or.inl ⟨t, r, rfl, hd⟩
      · have hd' : hdD t = false := by simpa using hd
        refine Or.inr ⟨?_, Or.inr ⟨t, r, rfl, hd'⟩⟩
        simp only [noHead, List.head?_cons, Option.some.injEq, decide_eq_false_iff_not] at n1 n2 n3 n4 n5
        simp only [atomT, if_neg n1, n2, n3, n4, or_self, if_false, if_neg n5, hd', Bool.false_eq_true]
  have key : ∀ (u : World), Rdr rb ts false u → ∃ s ts' bad', (∀ x ∈ s, dB x = true) ∧ s.length ≤ 50000 ∧ ts'.length ≤ ts.length ∧ (∀ v : Int, min v 17 = cap17 0 s → Good false (atomT J ts) ⟨1, v, .nil⟩ ts' bad') ∧
      Calls Tryd.prog 73 #[.pointer (some ⟨rb, 0, none⟩)] u fun e w' => e = .returned (.string (bs s)) ∧ TakePost' rb ts' bad' u w' := by
    intro u hu
    rcases hdig with ⟨t, r, rfl, hd⟩ | ⟨hn, hd⟩
    · have hok := (hu.choose_spec.choose_spec.ok t (by simp))
      refine ⟨t, r, false, hok.2.2 hd, hok.2.1, by simp, fun v hv => ⟨fun h => (by cases h), fun _ => ?_⟩, digs_yes rb t r false u hu hd⟩
      simp only [noHead, List.head?_cons, Option.some.injEq, decide_eq_false_iff_not] at n1 n2 n3 n4 n5
      simp only [atomT, if_neg n1, n2, n3, n4, or_self, if_false, if_neg n5, hd, if_true]
      exact ⟨trivial, by simp only [F.cap, T.cap, hv], trivial⟩
    · refine ⟨[48], ts, true, by decide, by simp, Nat.le_refl _, fun v hv => ?_, digs_no rb ts false u hu hd⟩
      rw [hn]; exact Good.no
  clear hdig
  obtain ⟨R, hR1⟩ : ∃ R, R = RP rb ts false (atomT J ts) w := ⟨_, rfl⟩
  rw [← hR1]
  have HR1 := Lib.hid hR1
  clear hR1
  have hst := Start.mk' h
  obtain ⟨W, hW⟩ : ∃ W, W = w.alloc (.cells #[.int .i64 0, .int .i64 0, .slice none 0 0] 24) := ⟨_, rfl⟩
  rw [← hW] at hst
  obtain ⟨s, ts', bad', hsd, hsl, htl, hgood, hcall⟩ := key W hst.rd
  clear key
  have HG := Lib.hid hgood
  have HC := Lib.hid hcall
  have HN := Lib.hid (fun u => numRef_any s u hsl hsd)
  clear hgood hcall hsd hsl
  have c1 := hst.rd.cell1
  rw [hW] at c1
  go_enter Tryd.func71, Tryd.ntmps71
  go_wp2_with fail
  rw [← hW]
  clear hW c1
  refine (sees_at hst.rd [88] false n1).mono ?_
  rintro e w' ⟨rfl, rfl⟩
  go_wp2_with fail
  refine (sees_at hst.rd [80] false n2).mono ?_
  rintro e w' ⟨rfl, rfl⟩
  go_wp2_with fail
  refine (sees_at hst.rd [66] false n3).mono ?_
  rintro e w' ⟨rfl, rfl⟩
  go_wp2_with fail
  refine (sees_at hst.rd [68] false n4).mono ?_
  rintro e w' ⟨rfl, rfl⟩
  go_wp2_with fail
  refine (sees_at hst.rd [40] false n5).mono ?_
  rintro e w' ⟨rfl, rfl⟩
  go_wp2_with fail
  refine HC.out.mono ?_
  rintro e w2 ⟨rfl, ho2, hr2⟩
  go_wp2_with fail
  refine (HN.out w2).mono ?_
  rintro e w2' ⟨v, rfl, hv, hv0, hv1, rfl⟩
  have HV := Lib.hid hv
  clear hv
  go_wp2_with fail
  refine (of_any 1 v none 0 0 w2).mono ?_
  rintro e w3 ⟨rfl, hb3⟩
  have hres3 : HdRes w.heap.size w3 := ((ho2.below hb3).keep (by have := hst.lt; omega) hst.res)
  obtain ⟨z0, z1, z2⟩ := cells_of hres3
  have vz := fun o => frozen_of (o := o) hres3
  go_wp2_with fail
  refine bodyPost_ret (v := F.val ⟨1, v, .nil⟩ none 0) (by simp [results, Tryd.results71, go_sem, z0, z1, z2, T.len]) rfl ?_
  rw [HR1.out]
  exact rd_fin (f := ⟨1, v, .nil⟩) (a := none) (cap := 0) hst.lt hres3 (sl_nil _ _) (hr2.below hb3) (((Oth.refl rb w).below hst.bl).trans (ho2.below hb3)) htl (HG.out v HV.out)

/-- What the methods that read an expression do, at readers that have less left. -/
def Fun38 (rb : Nat) (J : List Tok → Option (F × List Tok)) (ts : List Tok) (bad : Bool) : Prop :=
  ∀ u, Rdr rb ts bad u → Calls Tryd.prog 38 #[.pointer (some ⟨rb, 0, none⟩)] u (RP rb ts bad (J ts) u)

set_option maxRecDepth 100000 in
set_option maxHeartbeats 3200000 in
theorem atom_br (rb : Nat) (r : List Tok) (J : List Tok → Option (F × List Tok)) (w : World) (h : Rdr rb ([40] :: r) false w) (hf : Fun38 rb J r false) :
    Calls Tryd.prog 71 #[.pointer (some ⟨rb, 0, none⟩)] w (RP rb ([40] :: r) false (atomT J ([40] :: r)) w) := by
  obtain ⟨R, hR1⟩ : ∃ R, R = RP rb ([40] :: r) false (atomT J ([40] :: r)) w := ⟨_, rfl⟩
  rw [← hR1]
  have HR1 := Lib.hid hR1
  clear hR1
  have HF := Lib.hid hf
  clear hf
  have hst := Start.mk' h
  obtain ⟨W, hW⟩ : ∃ W, W = w.alloc (.cells #[.int .i64 0, .int .i64 0, .slice none 0 0] 24) := ⟨_, rfl⟩
  rw [← hW] at hst
  have c1 := hst.rd.cell1
  rw [hW] at c1
  go_enter Tryd.func71, Tryd.ntmps71
  go_wp2_with fail
  rw [← hW]
  clear hW c1
  refine (sees_at hst.rd [88] false rfl).mono ?_
  rintro e w' ⟨rfl, rfl⟩
  go_wp2_with fail
  refine (sees_at hst.rd [80] false rfl).mono ?_
  rintro e w' ⟨rfl, rfl⟩
  go_wp2_with fail
  refine (sees_at hst.rd [66] false rfl).mono ?_
  rintro e w' ⟨rfl, rfl⟩
  go_wp2_with fail
  refine (sees_at hst.rd [68] false rfl).mono ?_
  rintro e w' ⟨rfl, rfl⟩
  go_wp2_with fail
  refine (sees_at hst.rd [40] true rfl).mono ?_
  rintro e w' ⟨rfl, rfl⟩
  go_wp2_with fail
  refine (tk_yes rb [40] r false _ hst.rd).mono ?_
  rintro e w2 ⟨rfl, ho2, hr2⟩
  go_wp2_with fail
  refine (HF.out w2 hr2).mono ?_
  rintro e w3 ⟨f, a, cap, ts3, b3, ⟨rfl, hsl3, hr3, ho3, hl3, hg3⟩⟩
  obtain ⟨W3, hW3⟩ : ∃ W3, W3 = w3.alloc (.cells #[.int .i64 f.k, .int .i64 f.n, .slice a f.t.len cap] 24) := ⟨_, rfl⟩
  have hbW3 : Below w3.heap.size w3 W3 := by rw [hW3]; exact (Below.refl _ _).alloc (Nat.le_refl _) _
  have hbx : W3.heap[w3.heap.size]? = some (Obj.cells #[.int .i64 f.k, .int .i64 f.n, .slice a f.t.len cap] 24 (0, 0)) := by rw [hW3]; exact heap_new _ _
  have hrW3 := hr3.below hbW3
  go_wp2_with fail
  rw [← hW3]
  clear hW3
  refine (tk_any rb ts3 [41] b3 W3 hrW3).mono ?_
  rintro e w4 ⟨rfl, ho4, hr4⟩
  have hw3 : rb < w3.heap.size := hr3.lt
  have hbx4 := ho4.keep (by omega) hbx
  have ho24 : Oth rb W w4 := ho2.trans ((ho3.below hbW3).trans ho4)
  have hres4 : HdRes w.heap.size w4 := ho24.keep (by have := hst.lt; omega) hst.res
  obtain ⟨z0, z1, z2⟩ := cells_of hres4
  obtain ⟨x0, x1, x2⟩ := cells_of hbx4
  have vz := fun o => frozen_of (o := o) hres4
  clear hbx hbx4
  go_wp2_with fail
  have d := stored_cells (f := f) (a := a) (cap := cap) hres4
  refine bodyPost_ret (v := f.val a cap) (res71 hres4 rfl) rfl ?_
  rw [HR1.out]
  have hsz2 : W.heap.size ≤ w2.heap.size := ho2.size
  have hszW : w.heap.size + 1 ≤ W.heap.size := heap_lt hst.res
  have hs4 : Sl (SP (w.heap.size + 1)) w4 a f.t := ((hsl3.below hbW3).othP (fun b o hb => by have := hb.1; have := hst.lt; omega) ho4).weaken (fun _ _ => sp_le (by omega))
  refine rd_fin hst.lt hres4 hs4 hr4 (((Oth.refl rb w).below hst.bl).trans ho24) (by have := take_len [41] ts3 b3; simp only [List.length_cons]; omega) ?_
  have := hg3.close
  simpa [atomT, brT] using this
end Go.Proofs.YtioimhnebjiicaaDoor
