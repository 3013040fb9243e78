/- Proved here: contracts of the walk to BisimGraphs: elements in memory, and merging them (pure); each under the conditions that its own statement names. -/
import Derived.Test.YtcekilcgpgjooaaGreatDoorG06
import Derived.Test.YtcekilcgpgjooaaGreatDoorG38
import Derived.Test.YtcekilcgpgjooaaGreatDoorG39
import Derived.Shelf.SlSortCmp.NoneTotal
set_option maxRecDepth 100000
set_option maxHeartbeats 1600000
namespace Go.Proofs
open Go.Shelf Go.RowKit Go.Lib Go.Sort
def Tryz.sortE_ren : Go.Shelf.Ren := ⟨fun | 6 => 197 | 15 => 111 | 14 => 203 | 28 => 152 | 29 => 153 | 20 => 205 | 21 => 206 | 22 => 207 | 23 => 208 | 24 => 209 | 25 => 210 | 26 => 211 | 27 => 212 | 46 => 213 | 47 => 177 | 48 => 178 | 49 => 214 | 50 => 215 | 57 => 216 | n => n, fun | 22 => 202 | 24 => 204 | 25 => 216 | 3 => 3 | 39 => 150 | 0 => 0 | 53 => 178 | 55 => 139 | 4 => 4 | 46 => 172 | 45 => 171 | 50 => 101 | 5 => 5 | 9 => 9 | 66 => 197 | 70 => 141 | 76 => 213 | 77 => 126 | n => n, fun | n => n⟩
theorem Tryz.sortE : Go.Proofs.SlLaysF0.n6 Tryz.prog Tryz.sortE_ren := {
 mixed := (by kernel_rfl),
 f6 := ⟨Tryz.f197.name, by decide, Tryz.func197.trans (congrArg some (by kernel_rfl))⟩,
 f14 := ⟨Tryz.f203.name, by decide, Tryz.func203.trans (congrArg some (by kernel_rfl))⟩,
 f15 := Tryz.func111.trans (congrArg some (by kernel_rfl)),
 f20 := ⟨Tryz.f205.name, by decide, Tryz.func205.trans (congrArg some (by kernel_rfl))⟩,
 f21 := ⟨Tryz.f206.name, by decide, Tryz.func206.trans (congrArg some (by kernel_rfl))⟩,
 f22 := ⟨Tryz.f207.name, by decide, Tryz.func207.trans (congrArg some (by kernel_rfl))⟩,
 f23 := ⟨Tryz.f208.name, by decide, Tryz.func208.trans (congrArg some (by kernel_rfl))⟩,
 f24 := ⟨Tryz.f209.name, by decide, Tryz.func209.trans (congrArg some (by kernel_rfl))⟩,
 f25 := ⟨Tryz.f210.name, by decide, Tryz.func210.trans (congrArg some (by kernel_rfl))⟩,
 f26 := ⟨Tryz.f211.name, by decide, Tryz.func211.trans (congrArg some (by kernel_rfl))⟩,
 f27 := ⟨Tryz.f212.name, by decide, Tryz.func212.trans (congrArg some (by kernel_rfl))⟩,
 f28 := Tryz.func152.trans (congrArg some (by kernel_rfl)),
 f29 := Tryz.func153.trans (congrArg some (by kernel_rfl)),
 f46 := ⟨Tryz.f213.name, by decide, Tryz.func213.trans (congrArg some (by kernel_rfl))⟩,
 f47 := Tryz.func177.trans (congrArg some (by kernel_rfl)),
 f48 := Tryz.func178.trans (congrArg some (by kernel_rfl)),
 f49 := ⟨Tryz.f214.name, by decide, Tryz.func214.trans (congrArg some (by kernel_rfl))⟩,
 f50 := ⟨Tryz.f215.name, by decide, Tryz.func215.trans (congrArg some (by kernel_rfl))⟩,
 f57 := ⟨Tryz.f216.name, by decide, Tryz.func216.trans (congrArg some (by kernel_rfl))⟩,
 t0 := Tryz.underlying0,
 a0 := Tryz.isAgg0,
 z0 := Tryz.sizeOf0,
 v0 := Tryz.zeroValue0,
 t3 := Tryz.underlying3,
 a3 := Tryz.isAgg3,
 z3 := Tryz.sizeOf3,
 v3 := Tryz.zeroValue3,
 t4 := Tryz.underlying4,
 a4 := Tryz.isAgg4,
 z4 := Tryz.sizeOf4,
 v4 := Tryz.zeroValue4,
 t5 := Tryz.underlying5,
 a5 := Tryz.isAgg5,
 z5 := Tryz.sizeOf5,
 v5 := Tryz.zeroValue5,
 t9 := Tryz.underlying9,
 a9 := Tryz.isAgg9,
 z9 := Tryz.sizeOf9,
 v9 := Tryz.zeroValue9,
 t22 := Tryz.underlying202,
 a22 := Tryz.isAgg202,
 z22 := Tryz.sizeOf202,
 v22 := Tryz.zeroValue202,
 t25 := Tryz.underlying216,
 a25 := Tryz.isAgg216,
 z25 := Tryz.sizeOf216,
 v25 := Tryz.zeroValue216,
 t39 := Tryz.underlying150,
 a39 := Tryz.isAgg150,
 z39 := Tryz.sizeOf150,
 v39 := Tryz.zeroValue150,
 t45 := Tryz.underlying171,
 a45 := Tryz.isAgg171,
 z45 := Tryz.sizeOf171,
 v45 := Tryz.zeroValue171,
 t46 := Tryz.underlying172,
 a46 := Tryz.isAgg172,
 z46 := Tryz.sizeOf172,
 v46 := Tryz.zeroValue172,
 t50 := Tryz.underlying101,
 a50 := Tryz.isAgg101,
 z50 := Tryz.sizeOf101,
 v50 := Tryz.zeroValue101,
 t53 := Tryz.underlying178,
 a53 := Tryz.isAgg178,
 z53 := Tryz.sizeOf178,
 v53 := Tryz.zeroValue178,
 t55 := Tryz.underlying139,
 a55 := Tryz.isAgg139,
 z55 := Tryz.sizeOf139,
 v55 := Tryz.zeroValue139,
 t66 := Tryz.underlying197,
 a66 := Tryz.isAgg197,
 z66 := Tryz.sizeOf197,
 v66 := Tryz.zeroValue197,
 t70 := Tryz.underlying141,
 a70 := Tryz.isAgg141,
 z70 := Tryz.sizeOf141,
 v70 := Tryz.zeroValue141,
 t76 := Tryz.underlying213,
 a76 := Tryz.isAgg213,
 z76 := Tryz.sizeOf213,
 v76 := Tryz.zeroValue213,
 t77 := Tryz.underlying126,
 a77 := Tryz.isAgg126,
 z77 := Tryz.sizeOf126,
 v77 := Tryz.zeroValue126 }
end Go.Proofs
namespace Go.Proofs.YtcekilcgpgjooaaGreatDoor
open Go Go.RowKit Go.Sort Go.Lib
structure El where
 n : Int
 a : Option Addr
 cap : Nat
 k : V
 c : Option Addr
 cp : Nat
 ws : List Int
 wt : Int
def El.In (S : Nat → Prop) (w : World) (e : El) : Prop := Vl S w e.a e.k ∧ Ints S w e.c e.ws
def encE (e : El) : List Value := [.int .i64 e.n, .slice e.a e.k.len e.cap, .slice e.c e.ws.length e.cp, .int .i64 e.wt]
abbrev El.val (e : El) : Value := .agg #[.int .i64 e.n, .slice e.a e.k.len e.cap, .slice e.c e.ws.length e.cp, .int .i64 e.wt]
def El.tr (e : El) : Int × V × List Int := (e.n, e.k, e.ws)
def cmpE (x y : El) : Int := cmp1 x.n x.k x.ws y.n y.k y.ws
theorem cmpE_zero {x y : El} : cmpE x y = 0 ↔ x.tr = y.tr := by unfold cmpE El.tr; rw [cmp1_zero]; simp
theorem cmpE_neg (x y : El) : cmpE y x = - cmpE x y := cmp1_neg _ _ _ _ _ _
theorem cmpE_trans {x y z : El} (h : cmpE x y < 0) (h' : cmpE y z < 0) : cmpE x z < 0 := cmp1_trans h h'
theorem cmpE_congr {x y z : El} (h : x.tr = y.tr) : cmpE x z = cmpE y z := by
 unfold El.tr at h; simp only [Prod.mk.injEq] at h; unfold cmpE; rw [h.1, h.2.1, h.2.2]
def flatE (l : List El) : List Value := l.flatMap encE
theorem flatE_len (l : List El) : (flatE l).length = l.length * 4 := by
 induction l with
 | nil => rfl
 | cons p l ih => simp only [flatE, List.flatMap_cons, List.length_append, List.length_cons] at *; rw [ih]; simp only [encE, List.length_cons, List.length_nil]; omega
theorem flatE_snoc (l : List El) (p : El) : flatE (l ++ [p]) = flatE l ++ encE p := by simp [flatE]
theorem flatE_app (l m : List El) : flatE (l ++ m) = flatE l ++ flatE m := by simp [flatE]
theorem flat4_get {α : Type} (enc : α → List Value) (hk : ∀ x, (enc x).length = 4) : ∀ {l : List α} {i q : Nat} {p : α}, l[i]? = some p → q < 4 → (l.flatMap enc)[i * 4 + q]? = (enc p)[q]? := by
 intro l
 induction l with
 | nil => intro i q p h; simp at h
 | cons x l ih =>
  intro i q p h hq
  rw [List.flatMap_cons]
  cases i with
  | zero =>
   simp at h; subst h
   rw [List.getElem?_append_left (by rw [hk]; omega)]; simp
  | succ i =>
   rw [List.getElem?_append_right (by rw [hk]; omega), hk, show (i + 1) * 4 + q - 4 = i * 4 + q by omega]
   exact ih (by simpa using h) hq
theorem flat4_len {α : Type} (enc : α → List Value) (hk : ∀ x, (enc x).length = 4) : ∀ l : List α, (l.flatMap enc).length = l.length * 4 := by
 intro l
 induction l with
 | nil => rfl
 | cons x l ih => rw [List.flatMap_cons, List.length_append, ih, hk, List.length_cons]; omega
theorem flat4_eq {α : Type} [Inhabited α] (enc : α → List Value) (hk : ∀ x, (enc x).length = 4) (l : List α) : flatK enc 4 l.toArray = (l.flatMap enc).toArray := by
 apply Array.ext_getElem?
 intro t
 by_cases ht : t < l.length * 4
 ·have h : t / 4 < l.length := by omega
  have hq : t % 4 < 4 := Nat.mod_lt _ (by omega)
  obtain ⟨p, hp⟩ : ∃ p, l[t / 4]? = some p := ⟨_, List.getElem?_eq_getElem h⟩
  have hg := flat4_get enc hk hp hq
  rw [show t / 4 * 4 + t % 4 = t by omega] at hg
  rw [show (l.flatMap enc).toArray[t]? = (l.flatMap enc)[t]? from List.getElem?_toArray, hg]
  have h1 : t < (flatK enc 4 l.toArray).size := by simpa using ht
  have := get_flatK enc 4 l.toArray t (by simpa using ht)
  rw [getElem!_pos _ t h1] at this
  rw [Array.getElem?_eq_getElem h1, this]
  have hq2 : l.toArray[t / 4]! = p := by rw [getElem!_pos l.toArray (t / 4) (by simpa using h)]; simpa [List.getElem?_eq_getElem h] using hp
  rw [hq2, getElem!_pos (enc p) (t % 4) (by rw [hk]; exact hq), List.getElem?_eq_getElem]
 ·rw [Array.getElem?_eq_none (by simp; omega), Array.getElem?_eq_none (by simp [flat4_len enc hk]; omega)]
theorem holds4_of_row {α : Type} [Inhabited α] (enc : α → List Value) (hk : ∀ x, (enc x).length = 4) {w : World} {base g cap n : Nat} {e : TypeId} {l : List α} (h : w.ownsRow base e 4 (.slice (some ⟨g, 0, none⟩) n cap) n (l.flatMap enc)) : HoldsK enc 4 w g 0 l.toArray := by
 have hl := h.1
 rcases h.2 with ⟨h2, _⟩ | ⟨g', cap', cur, h2, _, hb, _, _, h5, h6⟩
 ·cases h2
 ·simp only [Value.slice.injEq, Option.some.injEq, Addr.mk.injEq, and_true, true_and] at h2
  obtain ⟨rfl, rfl⟩ := h2
  unfold HoldsK
  rw [flat4_eq enc hk]
  intro j hj
  have hj' : j < (l.flatMap enc).length := by simpa using hj
  refine ⟨?_, by simp [World.frozen?, hb]⟩
  have h1 : (cur.toList.take (n * 4))[j]? = (l.flatMap enc)[j]? := by rw [h6]
  rw [List.getElem?_take_of_lt (by omega)] at h1
  simp only [World.cell?, hb, Nat.zero_add, Option.isSome_none, Bool.false_eq_true, if_false]
  rw [← Array.getElem?_toList, h1, List.getElem?_eq_getElem hj', getElem!_pos _ j (by simpa using hj')]
  simp
theorem row4_put {w : World} {base g cap n m : Nat} {e : TypeId} {os : Array Obj} {xs : List Value} {F : Array Value} (h : w.ownsRow base e 4 (.slice (some ⟨g, 0, none⟩) n cap) n xs) (hF : F.size = n * 4) :
    (grow (putRow id (Sort.ahead w m) g 0 F) os).ownsRow base e 4 (.slice (some ⟨g, 0, none⟩) n cap) n F.toList := by
 rcases h.2 with ⟨h2, _⟩ | ⟨g', cap', cur, h2, h3, hb, h4, h5, h6, h7⟩
 ·cases h2
 ·simp only [Value.slice.injEq, Option.some.injEq, Addr.mk.injEq, and_true, true_and] at h2
  obtain ⟨rfl, rfl⟩ := h2
  have hx := h.1
  have hcs : n * 4 ≤ cur.size := by
   have := congrArg List.length h7
   rw [List.length_take, Array.length_toList, hx] at this
   omega
  have ht := take_put cur F (by omega)
  rw [hF] at ht
  exact ⟨by rw [Array.length_toList, hF], .inr ⟨g, cap, _, rfl, h3, heap_put _ hb, by omega, h5, by simp [putCells, h6], ht⟩⟩
theorem GB.grw {w w' : World} (h : GB w w') : ∃ q os, w' = grow (w.drewN q) os := by
 refine ⟨w'.drawn - w.drawn, w'.heap.extract w.heap.size w'.heap.size, ?_⟩
 have hh : w'.heap = w.heap ++ w'.heap.extract w.heap.size w'.heap.size := by
  apply Array.ext_getElem?
  intro i
  by_cases hi : i < w.heap.size
  ·rw [Array.getElem?_append_left hi]; exact h.b.block i hi
  ·rw [Array.getElem?_append_right (by omega), Array.getElem?_extract]
   by_cases hi2 : i < w'.heap.size
   ·rw [if_pos (by omega)]; congr 1; omega
   ·rw [if_neg (by omega), Array.getElem?_eq_none (by omega)]
 have h1 := h.b.tape
 have h2 := h.d
 have h3 := h.b.os
 have h4 := h.b.output
 obtain ⟨heap, tape, drawn, os, output⟩ := w'
 obtain ⟨heap0, tape0, drawn0, os0, output0⟩ := w
 simp only at hh h1 h2 h3 h4
 simp only [grow, World.drewN, World.mk.injEq]
 exact ⟨hh, h1, by omega, h3, h4⟩
theorem infoE : (Tryz.prog.info? 204).map (fun i => (i.zero, i.size, i.bytes)) = some (some (.agg #[.int .i64 0, .slice none 0 0, .slice none 0 0, .int .i64 0]), 4, 64) := by kernel_rfl
theorem isAggE (w : World) : (isAgg 204).run Tryz.prog w = .ok true w := by kernel_rfl
theorem sizeOfE (w : World) : (sizeOf 204).run Tryz.prog w = .ok 4 w := by kernel_rfl
theorem cells4' {u : World} {b : Nat} {x0 x1 x2 x3 : Value} {t : TypeId} {fz : Nat × Nat} (h : u.heap[b]? = some (.cells #[x0, x1, x2, x3] t fz)) :
    u.cell? ⟨b, 0, none⟩ = some x0 ∧ u.cell? ⟨b, 1, none⟩ = some x1 ∧ u.cell? ⟨b, 2, none⟩ = some x2 ∧ u.cell? ⟨b, 3, none⟩ = some x3 := by
 simp [World.cell?, h]
theorem mrgCmp_any (x y : El) (S : Nat → Prop) (w : World) (hx : x.In S w) (hy : y.In S w) :
    Calls Tryz.prog 198 #[x.val, y.val] w fun e w' => e = .returned (.int .i64 (cmpE x y)) ∧ GB w w' := by
 obtain ⟨n, a, cap, k, c, cp, ws, wt⟩ := x
 obtain ⟨n', a', cap', k', c', cp', ws', wt'⟩ := y
 simp only [El.In, El.val, cmpE] at hx hy ⊢
 obtain ⟨W, hW⟩ : ∃ W : World, W = (w.alloc (Obj.cells #[.int .i64 n, .slice a k.len cap, .slice c ws.length cp, .int .i64 wt] 204)).alloc (Obj.cells #[.int .i64 n', .slice a' k'.len cap', .slice c' ws'.length cp', .int .i64 wt'] 204) := ⟨_, rfl⟩
 have hWb : GB w W := by rw [hW]; exact ((GB.refl _).alloc _).alloc _
 have k0 : W.heap[w.heap.size]? = some (.cells #[.int .i64 n, .slice a k.len cap, .slice c ws.length cp, .int .i64 wt] 204 (0, 0)) := by rw [hW]; exact heap_old2 _ _ _
 have k1 : W.heap[w.heap.size + 1]? = some (.cells #[.int .i64 n', .slice a' k'.len cap', .slice c' ws'.length cp', .int .i64 wt'] 204 (0, 0)) := by rw [hW]; exact heap_new2 _ _ _
 have HC := hid (gcmp_any k k' S S n n' ws ws' a a' c c' cap cap' cp cp' W (hx.1.below hWb.b) (hy.1.below hWb.b) (hx.2.below hWb.b) (hy.2.below hWb.b))
 obtain ⟨r, hr⟩ : ∃ r, r = cmp1 n k ws n' k' ws' := ⟨_, rfl⟩
 rw [← hr]
 rw [show or3 (cmpI n n') (k.cmp k') (cmpL ws ws') = r from hr.symm] at HC
 obtain ⟨c0, c1, c2, c3⟩ := cells4' k0
 obtain ⟨e0, e1, e2, e3⟩ := cells4' k1
 have HWB := hid hWb
 clear hr hx hy hWb k0 k1
 go_enter Tryz.func198, Tryz.ntmps198
 go_wp2_with fail
 rw [← hW]
 clear hW
 refine HC.out.mono ?_
 rintro e w1 ⟨rfl, hb1⟩
 go_wp2_with fail
 go_ret
 exact ⟨rfl, HWB.out.trans hb1⟩
theorem swoE {S : Nat → Prop} {w : World} : SWO (ltOf (fun x y : {e : El // e.In S w} => cmpE x.1 y.1)) where
 irrefl x := by unfold ltOf; simp [cmpE_zero.2 (rfl : x.1.tr = x.1.tr)]
 trans x y z h1 h2 := by
  unfold ltOf at *; simp only [decide_eq_true_eq] at *; exact cmpE_trans h1 h2
 ntrans x y z h1 h2 := by
  unfold ltOf at *
  simp only [decide_eq_false_iff_not] at *
  intro h3
  have h4 := cmpE_neg x.1 y.1
  by_cases h5 : cmpE y.1 x.1 = 0
  ·rw [← cmpE_congr (cmpE_zero.1 h5)] at h3; exact h2 h3
  ·exact h2 (cmpE_trans (show cmpE y.1 x.1 < 0 by omega) h3)
theorem El.In.grown {S S' : Nat → Prop} {w w' : World} {row : Option Nat} {e : El} (h : e.In S w) (hg : w.grownBy w' row) (hS : ∀ b, S b → b < w.heap.size → S' b ∧ some b ≠ row) : e.In S' w' := ⟨h.1.grown hg hS, h.2.grown hg hS⟩
theorem El.In.below {S : Nat → Prop} {w w' : World} {e : El} (h : e.In S w) (hb : RowKit.Below w.heap.size w w') : e.In S w' := ⟨h.1.below hb, h.2.below hb⟩
theorem sortE_any (S : Nat → Prop) (base g cap : Nat) (l : List El) (w : World) (h : w.ownsRow base 204 4 (.slice (some ⟨g, 0, none⟩) l.length cap) l.length (flatE l)) (hl : ∀ e ∈ l, e.In S w) (hS : ∀ b, S b → b ≠ g) (hn : l.length ≤ 1000000) :
    Calls Tryz.prog 197 #[.slice (some ⟨g, 0, none⟩) l.length cap, .func (.func 198) #[] #[]] w fun e w' => e = .returned (.tuple #[]) ∧ ∃ l' : List El, l'.Perm l ∧ l'.Pairwise (fun x y => cmpE x y ≤ 0) ∧
     w'.ownsRow base 204 4 (.slice (some ⟨g, 0, none⟩) l.length cap) l.length (flatE l') ∧ w.grownBy w' (some g) := by
 have hg : g < w.heap.size := by
  rcases h.2 with ⟨h2, _⟩ | ⟨g', cap', cur, h2, _, hb, _⟩
  ·cases h2
  ·simp only [Value.slice.injEq, Option.some.injEq, Addr.mk.injEq, and_true, true_and] at h2
   obtain ⟨rfl, rfl⟩ := h2
   exact heap_lt hb
 letI : Inhabited {e : El // e.In S w} := ⟨⟨⟨0, none, 0, .nil, none, 0, [], 0⟩, ⟨by simp [V.len], rfl⟩, ⟨by simp, Or.inl rfl⟩⟩⟩
 obtain ⟨L, hL⟩ : ∃ L : List {e : El // e.In S w}, L.map Subtype.val = l := ⟨l.pmap (fun e h => ⟨e, h⟩) hl, by simp [List.map_pmap]⟩
 have hk : ∀ x : {e : El // e.In S w}, (encE x.1).length = 4 := fun _ => rfl
 have hf : ∀ M : List {e : El // e.In S w}, M.flatMap (fun x => encE x.1) = flatE (M.map Subtype.val) := fun M => by simp [flatE]
 have hlen : L.length = l.length := by rw [← hL, List.length_map]
 have hH : HoldsK (fun x : {e : El // e.In S w} => encE x.1) 4 w g 0 L.toArray := by
  refine holds4_of_row (fun x : {e : El // e.In S w} => encE x.1) hk (base := base) (cap := cap) (n := l.length) (e := 204) ?_
  rw [hf, hL]; exact h
 have hs : L.toArray.size = l.length := by simp [hlen]
 have eg : ∀ args w, (callFunc 198 args).run Tryz.prog w = .ok (.enter 198 args) w := enters_of Tryz.func198 (by kernel_rfl) rfl
 have hcmp : CmpLays Tryz.prog 198 #[] (fun x : {e : El // e.In S w} => encE x.1) 4 (fun x y => cmpE x.1 y.1) g 0 L.toArray.size w := by
  intro m os dk _ x y
  have hgb : w.grownBy (sortWorldK (fun x : {e : El // e.In S w} => encE x.1) 4 w g 0 m dk os) (some g) := grownBy_put _
  refine (mrgCmp_any x.1 y.1 S _ (x.2.grown hgb (fun b hb _ => ⟨hb, fun e => hS b hb (Option.some.inj e)⟩)) (y.2.grown hgb (fun b hb _ => ⟨hb, fun e => hS b hb (Option.some.inj e)⟩))).mono ?_
  rintro e w' ⟨rfl, hb⟩
  exact ⟨rfl, hb.grw⟩
 have hc := AnyQ.slices_SortFunc Tryz.sortE 4 isAggE sizeOfE (fun x : {e : El // e.In S w} => encE x.1) hk (fun x v hv => by simp [encE] at hv; rcases hv with rfl | rfl | rfl | rfl <;> rfl) (fun x y => cmpE x.1 y.1) swoE 198 #[] g 0 cap L.toArray w eg hcmp hH hg (by omega)
 rw [hs] at hc
 refine hc.mono ?_
 rintro e w' ⟨rfl, d', n, os, hp, hso, rfl⟩
 rw [← hs] at hp hso
 have hz := hp.1
 have hpm : d'.toList.Perm L := by
  have := hp.2.2
  simp only [Array.toList_extract, List.extract_eq_take_drop, List.drop_zero, Nat.sub_zero] at this
  rw [List.take_of_length_le (by simp; omega), List.take_of_length_le (by simp)] at this
  exact this
 refine ⟨rfl, d'.toList.map Subtype.val, ?_, ?_, ?_, grownBy_put _⟩
 ·rw [← hL]; exact hpm.map _
 ·rw [List.pairwise_map, List.pairwise_iff_getElem]
  intro i j hi hj hij
  have := hso i j (Nat.zero_le _) hij (by simpa [hz] using hj)
  unfold ltOf at this
  simp only [decide_eq_false_iff_not] at this
  rw [getElem!_pos d' i (by simpa using hi), getElem!_pos d' j (by simpa using hj)] at this
  have h3 := cmpE_neg d'[i].1 d'[j].1
  simp only [Array.getElem_toList]
  omega
 ·have h1 := row4_put (m := n) (os := os) (F := flatK (fun x : {e : El // e.In S w} => encE x.1) 4 d') h (by rw [size_flatK, hz, hs])
  have h2 := flat4_eq (fun x : {e : El // e.In S w} => encE x.1) hk d'.toList
  simp only [Array.toArray_toList] at h2
  rw [← hf, show d'.toList.flatMap (fun x : {e : El // e.In S w} => encE x.1) = (flatK (fun x : {e : El // e.In S w} => encE x.1) 4 d').toList by rw [h2]]
  exact h1
theorem sortENil_any (w : World) : Calls Tryz.prog 197 #[.slice none 0 0, .func (.func 198) #[] #[]] w fun e w' => e = .returned (.tuple #[]) ∧ w' = w :=
 AnyF.slices_SortFunc_none { Tryz.sortE with } none 0 _ w
end Go.Proofs.YtcekilcgpgjooaaGreatDoor
namespace Go.Proofs.YtcekilcgpgjooaaGreatDoor
open Go Go.RowKit
def mstep (M : List El) (x : El) : List El := match M.getLast? with
 | some l => if cmpE l x = 0 then M.dropLast ++ [{ l with wt := l.wt + x.wt }] else M ++ [x]
 | none => [x]
def mgL (L : List El) : List El := L.foldl mstep []
theorem mgL_snoc (L : List El) (x : El) : mgL (L ++ [x]) = mstep (mgL L) x := by simp [mgL]
theorem mstep_nil (x : El) : mstep [] x = [x] := rfl
theorem mstep_eq {M : List El} {l x : El} (h : cmpE l x = 0) : mstep (M ++ [l]) x = M ++ [{ l with wt := l.wt + x.wt }] := by simp [mstep, h]
theorem mstep_ne {M : List El} {l x : El} (h : cmpE l x ≠ 0) : mstep (M ++ [l]) x = (M ++ [l]) ++ [x] := by simp [mstep, h]
def toV : List El → V
 | [] => .nil
 | e :: r => .cons e.n e.k e.ws (toV r)
def wts (M : List El) : List Int := M.map El.wt
theorem toV_len (M : List El) : (toV M).len = M.length := by
 induction M with
 | nil => rfl
 | cons e r ih => simp [toV, V.len, ih]
theorem wts_len (M : List El) : (wts M).length = M.length := by simp [wts]
theorem toV_app (M N : List El) : toV (M ++ N) = (toV M).app (toV N) := by
 induction M with
 | nil => rfl
 | cons e r ih => simp [toV, V.app, ih]
theorem has_toV (x : Int × V × List Int) (M : List El) : (toV M).has x ↔ ∃ e ∈ M, e.tr = x := by
 induction M with
 | nil => simp [toV, V.has]
 | cons e r ih => simp [toV, V.has, ih, El.tr]
def wS (x : Int × V × List Int) : List El → Int
 | [] => 0
 | e :: r => (if e.tr = x then e.wt else 0) + wS x r
theorem wAt_toV (x : Int × V × List Int) (M : List El) : wAt x (toV M) (wts M) = wS x M := by
 induction M with
 | nil => rfl
 | cons e r ih => simp only [toV, wts, List.map_cons, wAt, List.headD_cons, List.tail_cons, wS, El.tr] at *; rw [ih]; congr
theorem wS_app (x : Int × V × List Int) (M N : List El) : wS x (M ++ N) = wS x M + wS x N := by
 induction M with
 | nil => simp [wS]
 | cons e r ih => simp only [List.cons_append, wS, ih]; omega
theorem wS_perm (x : Int × V × List Int) {M N : List El} (h : M.Perm N) : wS x M = wS x N := by
 induction h with
 | nil => rfl
 | cons e _ ih => simp only [wS, ih]
 | swap e f l => simp only [wS]; omega
 | trans _ _ h1 h2 => exact h1.trans h2
def wT : List El → Int
 | [] => 0
 | e :: r => e.wt + wT r
theorem wT_app (M N : List El) : wT (M ++ N) = wT M + wT N := by
 induction M with
 | nil => simp [wT]
 | cons e r ih => simp only [List.cons_append, wT, ih]; omega
theorem wT_perm {M N : List El} (h : M.Perm N) : wT M = wT N := by
 induction h with
 | nil => rfl
 | cons e _ ih => simp only [wT, ih]
 | swap e f l => simp only [wT]; omega
 | trans _ _ h1 h2 => exact h1.trans h2
theorem wT_nonneg {M : List El} (h : ∀ e ∈ M, 0 ≤ e.wt) : 0 ≤ wT M := by
 induction M with
 | nil => exact Int.le_refl _
 | cons e r ih =>
  have := ih (fun z hz => h z (List.mem_cons_of_mem _ hz))
  have := h e (List.mem_cons_self ..)
  simp only [wT]; omega
theorem wT_mem {M : List El} (h : ∀ e ∈ M, 0 ≤ e.wt) {e : El} (he : e ∈ M) : e.wt ≤ wT M := by
 induction M with
 | nil => simp at he
 | cons f r ih =>
  have h1 := wT_nonneg (fun z hz => h z (List.mem_cons_of_mem _ hz))
  have h2 := h f (List.mem_cons_self ..)
  simp only [wT]
  rcases List.mem_cons.1 he with rfl | he
  ·omega
  ·have := ih (fun z hz => h z (List.mem_cons_of_mem _ hz)) he; omega
structure Mgd (P M : List El) : Prop where
 inc : M.Pairwise (fun x y => cmpE x y < 0)
 has : ∀ x, (∃ e ∈ M, e.tr = x) ↔ ∃ e ∈ P, e.tr = x
 w : ∀ x, wS x M = wS x P
 all : ∀ Q : El → Prop, (∀ e y, Q e → Q { e with wt := y }) → (∀ z ∈ P, Q z) → ∀ e ∈ M, Q e
 sum : wT M = wT P
 nn : ∀ c : Int, 0 ≤ c → (∀ z ∈ P, c ≤ z.wt) → ∀ e ∈ M, c ≤ e.wt
 len : M.length ≤ P.length
theorem Mgd.nil : Mgd [] [] := ⟨List.Pairwise.nil, fun _ => Iff.rfl, fun _ => rfl, fun _ _ h => h, rfl, fun _ _ h => h, Nat.le_refl _⟩
theorem Mgd.step {P M : List El} {x : El} (h : Mgd P M) (hx : ∀ z ∈ P, cmpE z x ≤ 0) : Mgd (P ++ [x]) (mstep M x) := by
 have hle : ∀ e ∈ M, cmpE e x ≤ 0 := fun e he => by
  obtain ⟨z, hz, h1⟩ := (h.has e.tr).1 ⟨e, he, rfl⟩
  rw [← cmpE_congr h1]; exact hx z hz
 rcases List.eq_nil_or_concat M with rfl | ⟨M0, l, rfl⟩
 ·rw [mstep_nil]
  have hp : P = [] := by
   cases P with
   | nil => rfl
   | cons z r => obtain ⟨e, he, _⟩ := (h.has z.tr).2 ⟨z, List.mem_cons_self .., rfl⟩; simp at he
  subst hp
  exact ⟨List.pairwise_singleton .., fun _ => Iff.rfl, fun _ => rfl, fun _ _ h => h, rfl, fun _ _ h => h, Nat.le_refl _⟩
 ·rw [List.concat_eq_append] at h hle ⊢
  have hl := hle l (by simp)
  by_cases h0 : cmpE l x = 0
  ·rw [mstep_eq h0]
   have ht := cmpE_zero.1 h0
   refine ⟨?_, fun y => ?_, fun y => ?_, fun Q h1 h2 e he => ?_, ?_, fun c hc h2 e he => ?_, ?_⟩
   ·have := h.inc
    rw [List.pairwise_append] at this ⊢
    refine ⟨this.1, List.pairwise_singleton .., fun e he f hf => ?_⟩
    simp only [List.mem_singleton] at hf
    subst hf
    exact this.2.2 e he l (by simp)
   ·constructor
    ·rintro ⟨e, he, rfl⟩
     simp only [List.mem_append, List.mem_singleton] at he
     rcases he with he | rfl
     ·obtain ⟨z, hz, h1⟩ := (h.has e.tr).1 ⟨e, by simp [he], rfl⟩
      exact ⟨z, by simp [hz], h1⟩
     ·obtain ⟨z, hz, h1⟩ := (h.has l.tr).1 ⟨l, by simp, rfl⟩
      exact ⟨z, by simp [hz], h1⟩
    ·rintro ⟨e, he, rfl⟩
     simp only [List.mem_append, List.mem_singleton] at he
     have key : (∃ f ∈ M0 ++ [l], f.tr = e.tr) := by
      rcases he with he | rfl
      ·exact (h.has e.tr).2 ⟨e, he, rfl⟩
      ·exact ⟨l, by simp, ht⟩
     obtain ⟨f, hf, h1⟩ := key
     simp only [List.mem_append, List.mem_singleton] at hf
     rcases hf with hf | rfl
     ·exact ⟨f, by simp [hf], h1⟩
     ·exact ⟨{ f with wt := f.wt + x.wt }, by simp, h1⟩
   ·have := h.w y
    rw [wS_app] at this ⊢
    rw [wS_app, ← this]
    simp only [wS, Int.add_zero]
    have e1 : ({ l with wt := l.wt + x.wt } : El).tr = l.tr := rfl
    rw [e1, ← ht]
    split <;> omega
   ·simp only [List.mem_append, List.mem_singleton] at he
    have h3 := h.all Q h1 (fun z hz => h2 z (by simp [hz]))
    rcases he with he | rfl
    ·exact h3 e (by simp [he])
    ·exact h1 l _ (h3 l (by simp))
   ·have := h.sum
    rw [wT_app] at this ⊢
    rw [wT_app, ← this]
    simp only [wT, Int.add_zero]; omega
   ·simp only [List.mem_append, List.mem_singleton] at he
    have h3 := h.nn c hc (fun z hz => h2 z (by simp [hz]))
    rcases he with he | rfl
    ·exact h3 e (by simp [he])
    ·have := h3 l (by simp)
     have := h2 x (by simp)
     show c ≤ l.wt + x.wt
     omega
   ·have := h.len; simp at this ⊢; omega
  ·rw [mstep_ne h0]
   refine ⟨?_, fun y => ?_, fun y => ?_, fun Q h1 h2 e he => ?_, ?_, fun c hc h2 e he => ?_, ?_⟩
   ·rw [List.pairwise_append]
    refine ⟨h.inc, List.pairwise_singleton .., fun e he f hf => ?_⟩
    simp only [List.mem_singleton] at hf
    subst hf
    have h1 := h.inc
    rw [List.pairwise_append] at h1
    simp only [List.mem_append, List.mem_singleton] at he
    rcases he with he | rfl
    ·exact cmpE_trans (h1.2.2 e he l (by simp)) (by omega)
    ·omega
   ·simp only [List.mem_append, List.mem_singleton]
    have := h.has y
    constructor
    ·rintro ⟨e, he, h1⟩
     rcases he with he | rfl
     ·obtain ⟨z, hz, h2⟩ := this.1 ⟨e, by simpa using he, h1⟩
      exact ⟨z, Or.inl hz, h2⟩
     ·exact ⟨e, Or.inr rfl, h1⟩
    ·rintro ⟨e, he, h1⟩
     rcases he with he | rfl
     ·obtain ⟨z, hz, h2⟩ := this.2 ⟨e, he, h1⟩
      exact ⟨z, Or.inl (by simpa using hz), h2⟩
     ·exact ⟨e, Or.inr rfl, h1⟩
   ·rw [wS_app y (M0 ++ [l]), wS_app y P, h.w y]
   ·have h3 := h.all Q h1 (fun z hz => h2 z (by simp [hz]))
    rcases List.mem_append.1 he with he | he
    ·exact h3 e he
    ·simp only [List.mem_singleton] at he; subst he; exact h2 e (by simp)
   ·rw [wT_app (M0 ++ [l]), wT_app P, h.sum]
   ·have h3 := h.nn c hc (fun z hz => h2 z (by simp [hz]))
    rcases List.mem_append.1 he with he | he
    ·exact h3 e he
    ·simp only [List.mem_singleton] at he; subst he; exact h2 e (by simp)
   ·have := h.len; simp at this ⊢; omega
theorem mgd_of {L : List El} (h : L.Pairwise (fun x y => cmpE x y ≤ 0)) : ∀ j, j ≤ L.length → Mgd (L.take j) (mgL (L.take j)) := by
 intro j
 induction j with
 | zero => intro _; exact Mgd.nil
 | succ j ih =>
  intro hj
  rw [List.take_succ_eq_append_getElem (by omega), mgL_snoc]
  refine (ih (by omega)).step (fun z hz => ?_)
  obtain ⟨i, hi, rfl⟩ := List.mem_iff_getElem.1 hz
  simp only [List.length_take] at hi
  rw [List.getElem_take]
  exact List.pairwise_iff_getElem.1 h i j (by omega) (by omega) (by omega)
theorem inc_toV {M : List El} (h : M.Pairwise (fun x y => cmpE x y < 0)) : (toV M).inc = true := by
 induction M with
 | nil => rfl
 | cons e r ih =>
  rw [List.pairwise_cons] at h
  cases r with
  | nil => rfl
  | cons f r =>
   simp only [toV]
   rw [inc_cons2]
   have h1 := h.1 f (List.mem_cons_self ..)
   have h2 := ih h.2
   simp only [toV] at h2
   rw [h2, Bool.and_true, decide_eq_true_eq]
   exact h1
theorem mrgA_uniq {t K : V} {wl A : List Int} (h1 : wl.length = t.len) (h2 : ∀ y ∈ wl, 1 ≤ y) (hK : K.inc = true) (hA : A.length = K.len) (hh : ∀ x, K.has x ↔ t.has x) (hw : ∀ x, wAt x K A = wAt x t wl) : mrgA true t wl .nil [] = (K, A) := by
 obtain ⟨a1, a2, _⟩ := mrgA_ok t wl .nil [] h1 h2 rfl (fun y hy => by simp at hy)
 have ea := fun x => mrgA_wAt x t wl .nil [] h1 h2 rfl (fun y hy => by simp at hy)
 have ha := fun x => mrgA_has true x t wl .nil []
 simp only [wAt, Int.add_zero, V.has, or_false] at ea ha
 have ia := mrgA_inc true t wl .nil [] rfl
 have e1 : (mrgA true t wl .nil []).1 = K := inc_ext _ _ ia hK (fun x => by rw [ha, hh])
 refine Prod.ext e1 (inc_wAt K _ _ hK (by rw [a1, e1]) hA (fun x => ?_))
 rw [← e1, ea, e1, hw]
def outW (k : Int) (M : List El) : List Int := if k = 5 then [] else if k = 7 then (wts M).map (fun x => x / (gcdL 0 (wts M) : Nat)) else wts M
theorem mrg_of {k : Int} {L L' : List El} (hk : k = 5 ∨ k = 6 ∨ k = 7) (hp : L'.Perm L) (hs : L'.Pairwise (fun x y => cmpE x y ≤ 0)) (hw : k ≠ 5 → ∀ e ∈ L, 1 ≤ e.wt) (wl : List Int) (hwl : k ≠ 5 → wl = wts L) : mrg k (toV L) wl = (toV (mgL L'), outW k (mgL L')) := by
 have h := mgd_of hs L'.length (Nat.le_refl _)
 rw [List.take_length] at h
 have hi := inc_toV h.inc
 have hh : ∀ x, (toV (mgL L')).has x ↔ (toV L).has x := fun x => by
  rw [has_toV, has_toV, h.has]
  exact ⟨fun ⟨e, he, h1⟩ => ⟨e, hp.mem_iff.1 he, h1⟩, fun ⟨e, he, h1⟩ => ⟨e, hp.mem_iff.2 he, h1⟩⟩
 by_cases h5 : k = 5
 ·subst h5
  have k0 : ∀ (t : V) (wl : List Int) (acc : V), (mrgA false t wl acc []).2 = [] := by
   intro t
   induction t with
   | nil => intro _ _; rfl
   | cons n k ws r _ ih => intro wl acc; simp only [mrgA, Bool.false_eq_true, if_false]; exact ih _ _
  have ha := fun x => mrgA_has false x (toV L) wl .nil []
  simp only [V.has, or_false] at ha
  unfold mrg outW
  rw [show wgt 5 = false from rfl]
  simp only [show ¬ ((5 : Int) = 7) by omega, if_false, if_true, k0]
  rw [inc_ext _ _ (mrgA_inc false (toV L) wl .nil [] rfl) hi (fun x => by rw [ha, hh])]
 ·rw [hwl h5]
  have e := mrgA_uniq (t := toV L) (wl := wts L) (K := toV (mgL L')) (A := wts (mgL L')) (by rw [wts_len, toV_len]) (fun y hy => by
   simp only [wts, List.mem_map] at hy
   obtain ⟨e, he, rfl⟩ := hy
   exact hw h5 e he) hi (by rw [wts_len, toV_len]) hh (fun x => by rw [wAt_toV, wAt_toV, h.w, wS_perm x hp])
  unfold mrg outW
  rw [show wgt k = true by unfold wgt; simp; omega, e, if_neg h5]
end Go.Proofs.YtcekilcgpgjooaaGreatDoor
