/- Proved here: contracts of the walk to BisimGraphs: bisim.different, and the sorted keys; each under the conditions that its own statement names. -/
import Derived.Test.YtcekilcgpgjooaaGreatDoorG06
import Derived.Shelf.SlSortCmp.NoneTotal
set_option maxHeartbeats 1600000
namespace Go.Proofs.YtcekilcgpgjooaaGreatDoor
open Go Go.RowKit Go.Sort Go.Lib
open Go.Lib (hid)
theorem nltP {x y : Int × Int} (h : ltOf cmpP y x = false) : x = y ∨ ltP' x y := by
 rw [ltP] at h
 simp at h
 obtain ⟨x1, x2⟩ := x
 obtain ⟨y1, y2⟩ := y
 simp only [ltP', Prod.mk.injEq] at *
 omega
theorem sort_list (d d' : Array (Int × Int)) (hp : PermIn 0 d.size d d') (hs : SortedIn (ltOf cmpP) 0 d.size d') : d'.toList.Perm d.toList ∧ ∀ i j, i < j → j < d'.size → d'[i]! = d'[j]! ∨ ltP' d'[i]! d'[j]! := by
 have hz := hp.1
 refine ⟨?_, fun i j hij hj => nltP (hs i j (Nat.zero_le _) hij (by omega))⟩
 have := hp.2.2
 simp only [Array.toList_extract, List.extract_eq_take_drop, List.drop_zero, Nat.sub_zero] at this
 rw [List.take_of_length_le (by simp; omega), List.take_of_length_le (by simp)] at this
 exact this
theorem sortOwn_any (base g cap : Nat) (l : List (Int × Int)) (w : World) (h : w.ownsRow base 38 2 (.slice (some ⟨g, 0, none⟩) l.length cap) l.length (flatP l)) (hn : l.length ≤ 1000000) :
    Calls Tryz.prog 74 #[.slice (some ⟨g, 0, none⟩) l.length cap, .func (.func 41) #[] #[]] w fun e w' => e = .returned (.tuple #[]) ∧ ∃ l' : List (Int × Int), l'.Perm l ∧ (∀ i j, i < j → j < l'.length → l'.toArray[i]! = l'.toArray[j]! ∨ ltP' l'.toArray[i]! l'.toArray[j]!) ∧
     w'.ownsRow base 38 2 (.slice (some ⟨g, 0, none⟩) l.length cap) l.length (flatP l') ∧ w.grownBy w' (some g) := by
 have hg : g < w.heap.size := by
  rcases h.2 with ⟨h2, _⟩ | ⟨g', cap', cur, h2, _, hb, _⟩
  ·cases h2
  ·simp only [Value.slice.injEq, Option.some.injEq, Addr.mk.injEq, and_true, true_and] at h2
   obtain ⟨rfl, rfl⟩ := h2
   exact heap_lt hb
 have hs : l.toArray.size = l.length := by simp
 have hc := sortP_any g 0 cap l.toArray w (holdsP_of_row h) hg (by omega)
 rw [hs] at hc
 refine hc.mono ?_
 rintro e w' ⟨rfl, d', n, os, hp, hso, rfl⟩
 rw [← hs] at hp hso
 obtain ⟨h1, h2⟩ := sort_list _ _ hp hso
 have hz : d'.size = l.length := by rw [hp.1, hs]
 refine ⟨rfl, d'.toList, by simpa using h1, ?_, ?_, grownBy_put _⟩
 ·intro i j hij hj
  have := h2 i j hij (by simpa using hj)
  simpa using this
 ·refine row_putV h (by rw [size_flatK, hz]) (Nat.le_refl _) ?_
  have := flatK_eq d'.toList
  simp only [Array.toArray_toList] at this
  rw [this, List.take_of_length_le (by simp [flatP_len, hz])]
theorem sortNil_any (w : World) : Calls Tryz.prog 74 #[.slice none 0 0, .func (.func 41) #[] #[]] w fun e w' => e = .returned (.tuple #[]) ∧ w' = w :=
 AnyF.slices_SortFunc_none { Tryz.sortP with } none 0 _ w
theorem ltP'_trans {p q r : Int × Int} (h : ltP' p q) (h' : ltP' q r) : ltP' p r := by unfold ltP' at *; omega
theorem compact_sorted {l : List (Int × Int)} (h : ∀ i j, i < j → j < l.length → l.toArray[i]! = l.toArray[j]! ∨ ltP' l.toArray[i]! l.toArray[j]!) : (compact l).Pairwise ltP' ∧ (∀ p, p ∈ compact l ↔ p ∈ l) ∧ (compact l).length ≤ l.length := by
 unfold compact compactUpTo
 refine ⟨?_, fun p => ?_, ?_⟩
 ·refine List.pairwise_map.2 ((List.Pairwise.imp_of_mem ?_ ((List.pairwise_lt_range (n := l.length)).filter _)))
  intro i j hi hj hij
  have hj2 := List.mem_filter.1 hj
  have hjl := List.mem_range.1 hj2.1
  have hk : l.toArray[j]! ≠ l.toArray[j - 1]! := by
   have := hj2.2
   simp only [keeps, decide_eq_true_eq] at this
   rcases this with h0 | h0
   ·omega
   ·exact h0
  have h1 : ltP' l.toArray[j - 1]! l.toArray[j]! := by
   rcases h (j - 1) j (by omega) hjl with e | e
   ·exact absurd e.symm hk
   ·exact e
  by_cases e : i = j - 1
  ·rw [e]; exact h1
  ·rcases h i (j - 1) (by omega) (by omega) with e2 | e2
   ·rw [e2]; exact h1
   ·exact ltP'_trans e2 h1
 ·rw [List.mem_map]
  constructor
  ·rintro ⟨i, hi, rfl⟩
   have hil := List.mem_range.1 (List.mem_filter.1 hi).1
   rw [getElem!_pos l.toArray i (by simpa using hil)]
   simp
  ·intro hp
   obtain ⟨i, hi, rfl⟩ := List.getElem_of_mem hp
   have hd : ∀ i (hi : i < l.length), l.toArray[i]! = l[i] := fun i hi => by rw [getElem!_pos l.toArray i (by simpa using hi)]; simp
   have key : ∀ i, (hi : i < l.length) → ∃ j, j ∈ (List.range l.length).filter (keeps l.toArray) ∧ l.toArray[j]! = l.toArray[i]! := by
    intro i
    induction i with
    | zero => intro hi; exact ⟨0, List.mem_filter.2 ⟨List.mem_range.2 hi, by simp [keeps]⟩, rfl⟩
    | succ i ih =>
     intro hi
     by_cases e : l.toArray[i + 1]! = l.toArray[i]!
     ·obtain ⟨j, h1, h2⟩ := ih (by omega)
      exact ⟨j, h1, h2.trans e.symm⟩
     ·exact ⟨i + 1, List.mem_filter.2 ⟨List.mem_range.2 hi, keeps_pos e⟩, rfl⟩
   obtain ⟨j, h1, h2⟩ := key i hi
   exact ⟨j, h1, by rw [h2, hd i hi]⟩
 ·rw [List.length_map]
  exact Nat.le_trans (List.length_filter_le _ _) (by simp)
theorem compactNil_any (w : World) : Calls Tryz.prog 75 #[.slice none 0 0] w fun e w' => e = .returned (.slice none 0 0) ∧ w' = w := by
 go_enter Tryz.func75, Tryz.ntmps75
 go_wp2
 go_ret
 exact ⟨rfl, rfl⟩
def DiffOf (w : World) (r : List (Int × Int)) (e : Ending) (w' : World) : Prop :=
 ∃ v L, e = .returned v ∧ L.Pairwise ltP' ∧ (∀ p, p ∈ L ↔ p ∈ r) ∧ L.length ≤ r.length ∧ w'.ownsRow w.heap.size 38 2 v L.length (flatP L) ∧ Below w.heap.size w w'
theorem diff_nil (cap : Nat) (w : World) : Calls Tryz.prog 38 #[.slice none 0 cap] w (DiffOf w []) := by
 go_enter Tryz.func38, Tryz.ntmps38
 go_wp2_with (first
  | (go_at_call 73; refine (cloneP_nil _ _ _).mono ?_; rintro e x ⟨rfl, rfl⟩)
  | (go_at_call 74; refine (sortNil_any _).mono ?_; rintro e x ⟨rfl, rfl⟩)
  | (go_at_call 75; refine (compactNil_any _).mono ?_; rintro e x ⟨rfl, rfl⟩))
 go_ret
 exact ⟨_, [], rfl, List.Pairwise.nil, fun _ => Iff.rfl, Nat.le_refl _, World.ownsRow_nil _ _ _ _, Below.refl _ _⟩
theorem diff_some (S : Nat → Prop) (b o cap : Nat) (r : List (Int × Int)) (w : World) (hr : Prs S w (some ⟨b, o, none⟩) r) (hN : r.length ≤ 1000000) : Calls Tryz.prog 38 #[.slice (some ⟨b, o, none⟩) r.length cap] w (DiffOf w r) := by
 have hcl : ∀ j u, (flatP r)[j]? = some u → w.cell? ⟨b, o + j, none⟩ = some u := fun j u hj => by
  have hlt : j < r.length * 2 := by have := (List.getElem?_eq_some_iff.1 hj).1; rwa [flatP_len] at this
  obtain ⟨p, hp⟩ : ∃ p, r[j / 2]? = some p := ⟨r[j / 2]'(by omega), List.getElem?_eq_getElem _⟩
  obtain ⟨b', o', e, _, c0, c1⟩ := hr.get hp
  cases e
  obtain ⟨g0, g1⟩ := flatP_get hp
  rcases (show j % 2 = 0 ∨ j % 2 = 1 by omega) with e | e
  ·rw [show j / 2 * 2 = j by omega] at g0 c0
   rw [g0] at hj; cases hj; exact c0
  ·rw [show j / 2 * 2 + 1 = j by omega] at g1
   rw [show o + j / 2 * 2 + 1 = o + j by omega] at c1
   rw [g1] at hj; cases hj; exact c1
 have h1 : ∀ u ∈ flatP r, u.oneCell' = true := fun u hu => by
  obtain ⟨p, _, hp⟩ := List.mem_flatMap.1 hu
  simp only [encP, List.mem_cons, List.not_mem_nil, or_false] at hp
  rcases hp with rfl | rfl <;> rfl
 have HC := hid (cloneP_any b o r.length cap (flatP r) w (flatP_len r) hN hcl h1)
 clear hcl h1 hr
 obtain ⟨N, hNN⟩ : ∃ N, N = r.length := ⟨_, rfl⟩
 rw [← hNN] at HC hN ⊢
 have HN := hid hNN
 clear hNN
 go_enter Tryz.func38, Tryz.ntmps38
 go_wp2_with (go_at_call 73; refine HC.out.mono ?_; rintro e x ⟨v, rfl, hrow, hnil, hb⟩)
 obtain ⟨g, c, rfl⟩ : ∃ g c, v = .slice (some ⟨g, 0, none⟩) N c := by
  rcases hrow.2 with ⟨h2, _⟩ | ⟨g', cap', cur, h2, _⟩
  ·exact absurd h2 hnil
  ·exact ⟨g', cap', h2⟩
 have hgb : w.heap.size ≤ g := (hrow.lt g rfl).1
 have HR := hid hrow
 have HB := hid hb
 have HG := hid hgb
 clear hrow hb hgb hnil
 have HS := hid (show Calls Tryz.prog 74 #[.slice (some ⟨g, 0, none⟩) N c, .func (.func 41) #[] #[]] x _ from by
  have := sortOwn_any w.heap.size g c r x (by rw [← HN.out]; exact HR.out) (by rw [← HN.out]; exact hN)
  rw [← HN.out] at this
  exact this)
 go_wp2_with (go_at_call 74; refine HS.out.mono ?_; rintro e x2 ⟨rfl, l', hp, hso, hrow2, hg2⟩)
 have hlen : l'.length = N := by rw [hp.length_eq, HN.out]
 have HC2 := hid (show Calls Tryz.prog 75 #[.slice (some ⟨g, 0, none⟩) N c] x2 _ from by
  have := compactP_any w.heap.size g c l' x2 (by rw [hlen]; exact hrow2) (by omega)
  rw [hlen] at this
  exact this)
 have HP := hid (show _ ∧ _ from ⟨hp, hso⟩)
 have HG2 := hid hg2
 have HL := hid hlen
 clear hp hso hrow2 hg2 hlen
 go_wp2_with (go_at_call 75; refine HC2.out.mono ?_; rintro e x3 ⟨k, rfl, hk, hrow3, hg3⟩)
 go_ret
 obtain ⟨hp, hso⟩ := HP.out
 obtain ⟨q1, q2, q3⟩ := compact_sorted hso
 subst hk
 exact ⟨_, compact l', rfl, q1, fun p => (q2 p).trans hp.mem_iff, by have := HL.out; have := HN.out; omega, hrow3, (HB.out.grown HG2.out HB.out.size (fun j e => by cases e; exact HG.out)).grown hg3 (Nat.le_trans HB.out.size HG2.out.size) (fun j e => by cases e; exact HG.out)⟩
end Go.Proofs.YtcekilcgpgjooaaGreatDoor
namespace Go.Proofs.YtcekilcgpgjooaaGreatDoor
open Go Go.RowKit Go.Sort Go.Lib Go.Maps
open Go.Lib (hid)
theorem sorted_nodup {l l' : List (Int × Int)} (hp : l'.Perm l) (hn : l.Nodup) (h : ∀ i j, i < j → j < l'.length → l'.toArray[i]! = l'.toArray[j]! ∨ ltP' l'.toArray[i]! l'.toArray[j]!) : l'.Pairwise ltP' := by
 have hn' : l'.Nodup := hp.nodup_iff.2 hn
 rw [List.pairwise_iff_getElem]
 intro i j hi hj hij
 rcases h i j hij hj with e | e
 ·exfalso
  rw [getElem!_pos l'.toArray i (by simpa using hi), getElem!_pos l'.toArray j (by simpa using hj)] at e
  have := (List.getElem_inj hn').1 (by simpa using e : l'[i] = l'[j])
  omega
 ·rw [getElem!_pos l'.toArray i (by simpa using hi), getElem!_pos l'.toArray j (by simpa using hj)] at e
  simpa using e
theorem sortedP_any (Bm b nn : Nat) (D0 : DataW Unit) (w : World) (hBm : Bm < w.heap.size) (hm : w.cell? ⟨Bm, 0, none⟩ = some (.map (some b))) (hown : w.ownsMap Tryz.prog 38 (plainElem Tryz.prog 4) b nn D0) (hN : Maps.size D0 ≤ 1000000) :
    Calls Tryz.prog 39 #[.func (.func 77) #[] #[.pointer (some ⟨Bm, 0, none⟩)], .func (.func 41) #[] #[]] w fun e w' =>
     ∃ v L, e = .returned v ∧ L.Pairwise ltP' ∧ (∀ p ∈ L, ∃ kl, PKey p kl) ∧ (∀ p kl, PKey p kl → (p ∈ L ↔ has D0 kl = true)) ∧ w'.ownsRow w.heap.size 38 2 v L.length (flatP L) ∧ Below w.heap.size w w' := by
 have HC := hid (callsIn_wide.1 ((collP_in Fence.wide 12 trivial trivial rfl (by omega) 77 #[.pointer (some ⟨Bm, 0, none⟩)] trivial (enters_of Tryz.func77 (by kernel_rfl) rfl) (fun ss => CollP D0 (fun _ => false) ss ∧ ss.length ≤ Maps.size D0) (Maps.size D0) hN w
  (by
   have hs := keysP_stops Fence.wide 10 trivial rfl (by omega) Bm b nn D0 w hBm hm hown
   intro l J Jx W hW hJ hJx hY h0
   refine (hs l (fun xs W' => J xs W' ∧ xs.length ≤ Maps.size D0) Jx W hW (fun s A B row hs hg hr => ⟨hJ s A B row hs.1 hg hr, hs.2⟩) hJx (fun pre x W1 hj hl => (hY pre x W1 hj.1 hl).mono (fun e w' hr => ?_)) ⟨h0, Nat.zero_le _⟩).mono ?_
   ·rcases hr with ⟨h1, h2, h3⟩ | h1
    ·exact .inl ⟨h1, ⟨h2, by simp; omega⟩, h3⟩
    ·exact .inr h1
   ·rintro e W' ⟨hv, ⟨xs, hS, hJ', hl⟩ | h1⟩
    ·exact ⟨hv, .inl ⟨xs, ⟨hS, hl⟩, hJ'⟩⟩
    ·exact ⟨hv, .inr h1⟩))))
 clear hm hown
 go_enter Tryz.func39, Tryz.ntmps39
 go_wp2_with (go_at_call 76; refine HC.out.mono ?_; rintro e x ⟨v, ss, rfl, ⟨hS, hlen⟩, hrow, hb⟩)
 have HS := hid hS
 have HR := hid hrow
 have HB := hid hb
 rcases hrow.2 with ⟨rfl, hz⟩ | ⟨g, c, cur, rfl, hgb, _⟩
 ·have hss : ss = [] := List.eq_nil_of_length_eq_zero hz
  clear hS hrow hb
  go_wp2_with (go_at_call 74; refine (sortNil_any _).mono ?_; rintro e x2 ⟨rfl, rfl⟩)
  go_ret
  subst hss
  exact ⟨_, [], rfl, List.Pairwise.nil, by simp, fun p kl hk => by rw [HS.out.2.2 p kl hk]; simp, World.ownsRow_nil _ _ _ _, HB.out⟩
 ·have HG := hid hgb
  have HSo := hid (sortOwn_any w.heap.size g c ss x hrow (by omega))
  clear hS hrow hb hgb
  go_wp2_with (go_at_call 74; refine HSo.out.mono ?_; rintro e x2 ⟨rfl, l', hp, hso, hrow2, hg2⟩)
  go_ret
  refine ⟨_, l', rfl, sorted_nodup hp HS.out.1 hso, fun p h => HS.out.2.1 p (hp.mem_iff.1 h), fun p kl hk => by rw [hp.mem_iff, HS.out.2.2 p kl hk]; simp, by rw [hp.length_eq]; exact hrow2, HB.out.grown hg2 HB.out.size (fun j e => by cases e; exact HG.out)⟩
end Go.Proofs.YtcekilcgpgjooaaGreatDoor
