/- Proved here: contracts of the walk to BisimGraphs: maps of slices, and the reference's Relation; each under the conditions that its own statement names. -/
import Derived.Test.YtcekilcgpgjooaaGreatDoorG07
import Derived.Test.YtcekilcgpgjooaaGreatDoorG08
import Derived.Maps.OwnRows
import Derived.Maps.GroupsBeside
set_option maxRecDepth 100000
set_option maxHeartbeats 3200000
namespace Go.Proofs.YtcekilcgpgjooaaGreatDoor
open Go Go.RowKit Go.Maps Go.ChangeShapes
def vals (l : List (Int × Int)) (x : Int) : List Int := (l.filter (fun p => decide (p.1 = x))).map (·.2)
theorem vals_snoc (l : List (Int × Int)) (p : Int × Int) (x : Int) : vals (l ++ [p]) x = if p.1 = x then vals l x ++ [p.2] else vals l x := by
 unfold vals
 by_cases h : p.1 = x <;> simp [h]
theorem mem_vals {l : List (Int × Int)} {x y : Int} : y ∈ vals l x ↔ (x, y) ∈ l := by
 unfold vals
 rw [List.mem_map]
 constructor
 ·rintro ⟨p, hp, rfl⟩
  obtain ⟨h1, h2⟩ := List.mem_filter.1 hp
  have h3 : p.1 = x := by simpa using h2
  rw [← h3]; exact h1
 ·intro h
  exact ⟨(x, y), List.mem_filter.2 ⟨h, by simp⟩, rfl⟩
theorem lits_inj {H : Type} {q : IntKind} : ∀ {a b : List Int}, (lits (H := H) q a) = lits q b → a = b
 | [], [], _ => rfl
 | [], _ :: _, h => by simp [lits] at h
 | _ :: _, [], h => by simp [lits] at h
 | x :: a, y :: b, h => by
  simp only [lits, List.map_cons, List.cons.injEq] at h
  have h1 : x = y := by simpa using h.1
  rw [h1, lits_inj h.2]
def gd (zs : List Int) : DataW Unit := if zs = [] then .nil else .slice (lits .i64 zs) []
def Grp (D : DataW Unit) (l : List (Int × Int)) : Prop := IsMap D ∧ ∀ x, (Lit.int .i64 x).wf = true → D.atKey (.int .i64 x) .nil = gd (vals l x)
theorem Grp.start : Grp (.map []) [] := ⟨isMap_empty, fun _ _ => rfl⟩
theorem Grp.zs {D : DataW Unit} {l : List (Int × Int)} (h : Grp D l) {w : World} {base : Nat} {e : TypeId} {v : Value} {zs : List Int} {x : Int} (hx : (Lit.int .i64 x).wf = true) (hat : D.atKey (.int .i64 x) .nil = rowDatum .i64 v zs) (ho : w.ownsInts base e .i64 v zs) : zs = vals l x := by
 rw [h.2 x hx] at hat
 unfold gd at hat
 rcases ho.datum (H := Unit) with ⟨h1, h2⟩ | h1
 ·rw [h1] at hat
  by_cases h3 : vals l x = []
  ·rw [h2, h3]
  ·rw [if_neg h3] at hat; cases hat
 ·rw [h1] at hat
  by_cases h3 : vals l x = []
  ·rw [if_pos h3] at hat; cases hat
  ·rw [if_neg h3] at hat
   injection hat with hat
   exact (lits_inj hat).symm
theorem Grp.put {D : DataW Unit} {l : List (Int × Int)} (h : Grp D l) {w : World} {base : Nat} {e : TypeId} {v : Value} {x y : Int} (hx : (Lit.int .i64 x).wf = true) (ho : w.ownsInts base e .i64 v (vals l x ++ [y])) : Grp (D.put (.int .i64 x) (rowDatum .i64 v (vals l x ++ [y]))) (l ++ [(x, y)]) := by
 refine ⟨h.1.put _ _, fun x' hx' => ?_⟩
 rw [vals_snoc]
 by_cases e : x = x'
 ·subst e
  rw [if_pos rfl, atKey_put_same h.1 ((int_keyed Tryz.underlying3).key (keyOf_int_mk Tryz.underlying3 hx)), ho.datum_pos (by simp)]
  simp [gd]
 ·rw [if_neg e, atKey_put_other (by simpa using fun h => e h.symm)]
  exact h.2 x' hx'
theorem step_append_base {P : Program} {w : World} {ops : Array Oper} {o : Oper} {a : Act} {K : Act → World → Prop} {Q : Exit → Act → World → Prop} {E : Prop} (hgd : o.guard = none) (s x : Operand) (t : TypeId)
    (ho : o.op = .call { callee := .builtin .append, args := #[s, x], argTypes := #[t, t] })
    (base : Nat) (e : TypeId) (i : TypeInfo) (z : Value) (size bytes : Nat) (ht : P.underlying t = some (.slice e)) (hi : P.info? e = some i) (hz : i.zero = some z)
    (hsize : i.size = size) (hby : i.bytes = bytes) (hzs : z.cells.size = size) (hsz : 0 < size)
    (v : Value) (n : Nat) (xs : List Value) (hs : a.eval s = v) (hown : w.ownsRow base e size v n xs)
    (src : Option Addr) (m c : Nat) (news : List Value) (hx : a.eval x = .slice src m c) (hl : news.length = m * size) (hnews : ∀ j u, news[j]? = some u → ∃ ad, src = some ad ∧ w.cell? (ad.add j) = some u) (h1 : ∀ u ∈ news, u.oneCell' = true)
    (h63 : n + m ≤ maxLen) (hbytes : (n + m) * bytes ≤ 140737488355328) (hK : base ≤ w.heap.size)
    (h : ∀ v' w', w'.ownsRow base e size v' (n + m) (xs ++ news) → w.grownBy w' v.ownBlock → (v'.ownBlock = v.ownBlock ∨ v'.ownBlock = some w.heap.size) → K (a.put o.dst v') w') :
    if Region.wanted o (yielded ops a.tmps) = true then Oper.wp P o a w K Q else E := by
 have hw : Region.wanted o (yielded ops a.tmps) = true := by simp [Region.wanted, hgd]
 rw [if_pos hw]
 obtain ⟨v', w', hr, h2, h3, h4, _⟩ := run_append_any (P := P) (w := w) t o.type e i z size bytes ht hi hz hsize hby hzs hsz base v n xs hown src m c news hl hnews h1 h63 hbytes hK
 unfold Oper.wp execOp
 simp only [ho, resolve, invoke, builtin, Sem.run_bind, Sem.run_pure, Result.andThen_ok, List.map_toArray, List.map_cons, List.map_nil, hs, hx, hr]
 exact h v' w' h2 h3 h4
theorem groups_empty (w : World) (P : Program) (k : TypeId) (e : TypeId) (q : IntKind) {b base : Nat} (h : w.heap[b]? = some (.map #[] 0)) (hb : b < base) : w.ownsGroups (H := Unit) P k base e q b 0 (.map []) :=
 ⟨#[], 0, h, ⟨by simp, MapKept.stamped_empty 0, by simp⟩, Nat.le_refl _, rfl, hb, by simp, by simp⟩
theorem groups_later {w w' : World} {P : Program} {k : TypeId} {e : TypeId} {q : IntKind} {b base n : Nat} {D : DataW Unit} (h : w.ownsGroups P k base e q b n D) (hg : w.grownBy w' none) : w'.ownsGroups P k base e q b n D :=
 h.kept hg (by simp) (fun es clock _ x _ => by cases x.val.ownBlock <;> simp)
theorem ints_snoc {w' : World} {base : Nat} {v' : Value} {zs : List Int} {y : Int} (h : ∀ z ∈ zs, (Lit.int .i64 z).wf = true) (hy : (Lit.int .i64 y).wf = true) (h' : w'.ownsRow base 3 1 v' (zs.length + 1) (zs.map (Value.int .i64) ++ [.int .i64 y])) : w'.ownsInts base 3 .i64 v' (zs ++ [y]) := by
 refine ⟨by simpa using h', fun z hz => ?_⟩
 rcases List.mem_append.1 hz with hz | hz
 ·exact h z hz
 ·simp at hz
  subst hz
  exact hy
theorem _root_.Go.World.grownBy.trans2 {a b c : World} {row : Option Nat} (h : a.grownBy b none) (k : b.grownBy c row) : a.grownBy c row :=
 ⟨k.os.trans h.os, k.tape.trans h.tape, k.output.trans h.output, Nat.le_trans h.size k.size, fun i hi hn => (k.block i (Nat.lt_of_lt_of_le hi h.size) hn).trans (h.block i hi (by simp))⟩
theorem pair_kept {Y w3 w4 : World} {pb mb : Nat} {x y : Int} {row : Option Nat} (hb : Y.heap[pb]? = some (.cells #[.int .i64 x, .int .i64 y] 38 (0, 0))) (hg3 : Y.grownBy w3 row) (hne : some pb ≠ row) (hg4 : w3.grownBy w4 (some mb)) (hlt : mb < pb) :
    (w3.cell? ⟨pb, 0, none⟩ = some (.int .i64 x) ∧ w3.cell? ⟨pb, 1, none⟩ = some (.int .i64 y)) ∧ w4.cell? ⟨pb, 0, none⟩ = some (.int .i64 x) ∧ w4.cell? ⟨pb, 1, none⟩ = some (.int .i64 y) := by
 have h := heap_lt hb
 have h3 := (hg3.block pb h hne).trans hb
 have h4 := (hg4.block pb (heap_lt h3) (by simp; omega)).trans h3
 exact ⟨cells2 h3, cells2 h4⟩
theorem Kept.grown {P : Nat → Prop} {a b c : World} {row : Option Nat} (h : Kept P a b) (k : b.grownBy c row) (hr : ∀ j, row = some j → P j ∨ a.heap.size ≤ j) : Kept P a c :=
 ⟨k.os.trans h.os, k.tape.trans h.tape, k.output.trans h.output, Nat.le_trans h.size k.size, fun i hi hn => (k.block i (Nat.lt_of_lt_of_le hi h.size) (fun e => by rcases hr i e.symm with h1 | h1; (exact hn h1); omega)).trans (h.block i hi hn)⟩
theorem grown_drew {w w' : World} {row : Option Nat} (h : w.grownBy w' row) : w.grownBy w'.drew row := ⟨h.os, h.tape, h.output, h.size, h.block⟩
theorem row_other {w : World} {base : Nat} {e t : TypeId} {size n : Nat} {v : Value} {xs : List Value} {b : Nat} {cs : Array Value} {fr : Nat × Nat} (h : w.ownsRow base e size v n xs) (hb : w.heap[b]? = some (.cells cs t fr)) (hne : t ≠ e) : some b ≠ v.ownBlock := by
 rcases h.2 with ⟨rfl, _⟩ | ⟨g, cap, cur, rfl, _, hg, _⟩
 ·simp [Value.ownBlock]
 ·intro e'
  obtain rfl : b = g := by simpa [Value.ownBlock] using e'
  rw [hb] at hg
  cases hg
  exact hne rfl
theorem row_prs {w : World} {base n : Nat} {v : Value} {L : List (Int × Int)} (h : w.ownsRow base 38 2 v n (flatP L)) (hn : n ≤ 1000000) : ∃ a c, v = .slice a L.length c ∧ (a = none ∨ ∃ g, a = some ⟨g, 0, none⟩) ∧ Prs (fun b => base ≤ b) w a L := by
 have hl := h.1
 rw [flatP_len] at hl
 rcases h.2 with ⟨h2, h3⟩ | ⟨g, cap, cur, h2, h3, hb, h4, h5, h6, h7⟩
 ·have : L = [] := List.eq_nil_of_length_eq_zero (by omega)
  subst this
  exact ⟨none, 0, h2, .inl rfl, by simp, .inl rfl⟩
 ·refine ⟨some ⟨g, 0, none⟩, cap, by rw [h2]; congr 1; omega, .inr ⟨g, rfl⟩, by omega, .inr ⟨g, 0, rfl, h3, fun i p hp => ?_⟩⟩
  obtain ⟨g0, g1⟩ := flatP_get hp
  have hi : i < L.length := (List.getElem?_eq_some_iff.1 hp).1
  have hc : ∀ j u, (flatP L)[j]? = some u → w.cell? ⟨g, 0 + j, none⟩ = some u := fun j u hj => by
   have hjl : j < n * 2 := by have := (List.getElem?_eq_some_iff.1 hj).1; rw [flatP_len] at this; omega
   rw [← h7, List.getElem?_take_of_lt hjl, Array.getElem?_toList] at hj
   simp only [World.cell?, hb, Nat.zero_add, Option.isSome_none, Bool.false_eq_true, if_false]
   exact hj
  exact ⟨hc _ _ g0, by rw [Nat.add_assoc]; exact hc _ _ g1⟩
def DiffP (w : World) (r : List (Int × Int)) (e : Ending) (w' : World) : Prop :=
 ∃ al L cl, e = .returned (.slice al L.length cl) ∧ L.Pairwise ltP' ∧ (∀ p, p ∈ L ↔ p ∈ r) ∧ L.length ≤ r.length ∧ Prs (fun b => w.heap.size ≤ b) w' al L ∧ Below w.heap.size w w'
theorem DiffOf.toP {w : World} {r : List (Int × Int)} (hN : r.length ≤ 1000000) : ∀ e w', DiffOf w r e w' → DiffP w r e w' := by
 rintro e w' ⟨v, L, rfl, h1, h2, h3, h4, h5⟩
 obtain ⟨al, cl, rfl, _, hp⟩ := row_prs h4 (by omega)
 exact ⟨al, L, cl, rfl, h1, h2, h3, hp, h5⟩
theorem Prs.kept {S P : Nat → Prop} {w w' : World} (hk : Kept P w w') {a : Option Addr} {r : List (Int × Int)} (h : Prs S w a r) (hS : ∀ b, S b → ¬ P b) : Prs S w' a r := by
 refine ⟨h.1, ?_⟩
 rcases h.2 with h2 | ⟨b, o, h2, h3, h4⟩
 ·exact Or.inl h2
 ·exact Or.inr ⟨b, o, h2, h3, fun i p hp => ⟨hk.cell (hS b h3) (h4 i p hp).1, hk.cell (hS b h3) (h4 i p hp).2⟩⟩
theorem MapH.put {w' : World} {b n : Nat} {mem : Int × Int → Bool} {D : DataW Unit} {p : Int × Int} {kl : Lit} (hkl : PKey p kl) (ht : Tidy D) (_hs : Maps.size D ≤ n)
    (hD : ∀ p kl, PKey p kl → has D kl = mem p) (hown : w'.ownsMap Tryz.prog 38 (plainElem Tryz.prog 4) b (n + 1) (D.put kl (.lit (.bool true)))) : MapH w' b (n + 1) (fun q => decide (q = p) || mem q) := by
 refine ⟨_, hown, ht.put (lawP.key hkl) _, hown.size_le, fun q kl' hkl' => ?_⟩
 by_cases e : q = p
 ·subst e
  have : kl' = kl := Option.some.inj (hkl'.symm.trans hkl)
  subst this
  rw [has_put_same ht.isMap (lawP.key hkl)]
  simp
 ·have hne : kl' ≠ kl := fun h => by subst h; exact e (Pv_inj (lawP.inj hkl' hkl))
  rw [has_put_other hne, hD q kl' hkl']
  simp [e]
theorem MapH.congr {w : World} {b n : Nat} {mem mem' : Int × Int → Bool} (h : MapH w b n mem) (e : ∀ p, mem p = mem' p) : MapH w b n mem' := by
 have : mem = mem' := funext e
 rw [← this]; exact h
theorem dec_snoc (A : List (Int × Int)) (q p : Int × Int) : (decide (p = q) || decide (p ∈ A)) = decide (p ∈ A ++ [q]) := by
 by_cases e : p = q <;> simp [e]
theorem row_mono {w : World} {base base' : Nat} {e : TypeId} {size n : Nat} {v : Value} {xs : List Value} (h : w.ownsRow base e size v n xs) (hb : base' ≤ base) : w.ownsRow base' e size v n xs := by
 refine ⟨h.1, ?_⟩
 rcases h.2 with h2 | ⟨g, cap, cur, h2, h3, h4⟩
 ·exact .inl h2
 ·exact .inr ⟨g, cap, cur, h2, Nat.le_trans hb h3, h4⟩
theorem ints_form {w : World} {base : Nat} {v : Value} {zs : List Int} (h : w.ownsInts base 3 .i64 v zs) : ∃ ag cg, v = .slice ag zs.length cg ∧ ∀ j z, zs[j]? = some z → ∃ g, ag = some ⟨g, 0, none⟩ ∧ base ≤ g ∧ w.cell? ⟨g, j, none⟩ = some (.int .i64 z) ∧ ∃ cs t fr, w.heap[g]? = some (.cells cs t fr) := by
 rcases h.1.2 with ⟨rfl, h0⟩ | ⟨g, cap, cur, rfl, hg, hb, h3, h4, h5, h6⟩
 ·have : zs = [] := List.eq_nil_of_length_eq_zero h0
  subst this
  exact ⟨none, 0, rfl, fun j z hj => by simp at hj⟩
 ·refine ⟨_, _, rfl, fun j z hj => ⟨g, rfl, hg, ?_, _, _, _, hb⟩⟩
  have hjl : j < zs.length := (List.getElem?_eq_some_iff.1 hj).1
  have h7 : (cur.toList.take (zs.length * 1))[j]? = (zs.map (Value.int .i64))[j]? := by rw [h6]
  rw [List.getElem?_take_of_lt (by omega), Array.getElem?_toList, List.getElem?_map, hj] at h7
  simp only [World.cell?, hb, Option.isSome_none, Bool.false_eq_true, if_false]
  exact h7
theorem MapH.ne {w : World} {b n : Nat} {mem : Int × Int → Bool} (h : MapH w b n mem) {g : Nat} {cs : Array Value} {t : TypeId} {fr : Nat × Nat} (hg : w.heap[g]? = some (.cells cs t fr)) : g ≠ b := by
 obtain ⟨D, ⟨es, clock, hb, _⟩, _⟩ := h
 intro e
 rw [e, hb] at hg
 cases hg
def upTo (L L2 : List (Int × Int)) (k : Nat) : List (Int × Int) := (L2.take k).flatMap (fun p => (vals L p.2).map (fun z => (p.1, z)))
theorem upTo_succ {L L2 : List (Int × Int)} {k : Nat} {p : Int × Int} (h : L2.take (k + 1) = L2.take k ++ [p]) : upTo L L2 (k + 1) = upTo L L2 k ++ (vals L p.2).map (fun z => (p.1, z)) := by
 unfold upTo
 rw [h, List.flatMap_append]
 simp
theorem mem_upTo {L L2 : List (Int × Int)} {x z : Int} : (x, z) ∈ upTo L L2 L2.length ↔ ∃ y, (x, y) ∈ L2 ∧ (y, z) ∈ L := by
 unfold upTo
 rw [List.take_length, List.mem_flatMap]
 constructor
 ·rintro ⟨p, hp, hz⟩
  obtain ⟨z', hz', e⟩ := List.mem_map.1 hz
  cases e
  exact ⟨p.2, hp, mem_vals.1 hz'⟩
 ·rintro ⟨y, h1, h2⟩
  exact ⟨(x, y), h1, List.mem_map.2 ⟨z, mem_vals.2 h2, rfl⟩⟩
end Go.Proofs.YtcekilcgpgjooaaGreatDoor
namespace Go.Proofs.YtcekilcgpgjooaaGreatDoor
open Go Go.RowKit
open Go.Lib (hid)
instance (p q : Int × Int) : Decidable (ltP' p q) := by unfold ltP'; infer_instance
theorem less_any (p q : Int × Int) (w : World) : Calls Tryz.prog 37 #[Pv p, Pv q] w fun e w' => e = .returned (.bool (decide (ltP' p q))) ∧ Below w.heap.size w w' := by
 obtain ⟨p1, p2⟩ := p
 obtain ⟨q1, q2⟩ := q
 obtain ⟨R, hR⟩ : ∃ R, R = decide (ltP' (p1, p2) (q1, q2)) := ⟨_, rfl⟩
 rw [← hR]
 have HR := hid (show R = decide (p1 < q1 ∨ p1 = q1 ∧ p2 < q2) from hR)
 clear hR
 by_cases h1 : p1 < q1
 ·have HF := hid (show R = true by rw [HR.out]; simp [h1])
  go_enter Tryz.func37, Tryz.ntmps37
  go_wp2_with fail
  go_ret
  exact ⟨by rw [HF.out]; rfl, ba2 _ _ _⟩
 ·by_cases h2 : p1 = q1
  ·subst h2
   by_cases h3 : p2 < q2
   ·have HF := hid (show R = true by rw [HR.out]; simp [h3])
    go_enter Tryz.func37, Tryz.ntmps37
    go_wp2_with fail
    go_ret
    exact ⟨by rw [HF.out]; rfl, ba2 _ _ _⟩
   ·have HF := hid (show R = false by rw [HR.out]; simp [h3])
    go_enter Tryz.func37, Tryz.ntmps37
    go_wp2_with fail
    go_ret
    exact ⟨by rw [HF.out]; rfl, ba2 _ _ _⟩
  ·have HF := hid (show R = false by rw [HR.out]; simp [h1, h2])
   go_enter Tryz.func37, Tryz.ntmps37
   go_wp2_with fail
   go_ret
   exact ⟨by rw [HF.out]; rfl, ba2 _ _ _⟩
theorem relation_any (S : Nat → Prop) (a : Option Addr) (cap : Nat) (r : List (Int × Int)) (n m : Int) (w : World) (hr : Prs S w a r) :
    Calls Tryz.prog 22 #[.slice a r.length cap, .int .i64 n, .int .i64 m] w fun e w' => e = .returned (.bool (relFrom n m none r)) ∧ Below w.heap.size w w' := by
 have hlen := hr.1
 obtain ⟨N, hN⟩ : ∃ N, N = r.length := ⟨_, rfl⟩
 obtain ⟨R, hR⟩ : ∃ R, R = relFrom n m none r := ⟨_, rfl⟩
 rw [← hN, ← hR]
 rw [← hN] at hlen
 have HN := hid hN
 have HR := hid hR
 have HP := hid hr
 clear hN hR hr
 go_enter Tryz.func22, Tryz.ntmps22
 go_wp2_with fail
 go_loopw [11] (fun i wr => ∃ k : Nat, k ≤ N ∧ i = .int .i64 k ∧ relFrom n m (prevOf r k) (r.drop k) = R ∧ Below w.heap.size w wr) (fun i _ => N - (intOf i).toNat)
 case atStart => exact ⟨0, Nat.zero_le _, rfl, HR.out.symm, Below.refl _ _⟩
 case round =>
  obtain ⟨k, hk, rfl, hrel0, hb⟩ := hrel
  have HB := hid hb
  have HRL := hid hrel0
  clear hrel0
  by_cases hlt : k < N
  rotate_left
  ·have HF := hid (show R = true by rw [← HRL.out, List.drop_eq_nil_of_le (by have := HN.out; omega)]; cases prevOf r k <;> rfl)
   go_wp2_with fail
   go_ret
   exact ⟨by rw [HF.out]; rfl, HB.out⟩
  obtain ⟨p, hp⟩ : ∃ p, r[k]? = some p := ⟨r[k]'(by have := HN.out; omega), List.getElem?_eq_getElem _⟩
  obtain ⟨b, o, rfl, _, c0, c1⟩ := (HP.out.below hb).get hp
  have HPK := hid hp
  have HDR := hid (show r.drop k = p :: r.drop (k + 1) by
   have hkl : k < r.length := by have := HN.out; omega
   rw [List.drop_eq_getElem_cons hkl]
   rw [List.getElem?_eq_getElem hkl] at hp
   injection hp with hp
   rw [hp])
  have HNX := hid (show prevOf r (k + 1) = some p from hp)
  obtain ⟨p1, p2⟩ := p
  simp only at c0 c1
  obtain ⟨X, hX⟩ : ∃ X : World, X = wr.alloc (Obj.cells #[.int .i64 p1, .int .i64 p2] 38) := ⟨_, rfl⟩
  have hXb : Below wr.heap.size wr X := by rw [hX]; exact ba _ _
  have hXk : X.heap[wr.heap.size]? = some (Obj.cells #[.int .i64 p1, .int .i64 p2] 38 (0, 0)) := by rw [hX]; exact heap_new _ _
  obtain ⟨bx, hbx⟩ : ∃ bx, bx = wr.heap.size := ⟨_, rfl⟩
  rw [← hbx] at hXk
  obtain ⟨x0, x1⟩ := cells2 hXk
  have HBX := hid (hb.trans (hXb.mono hb.size))
  have HPX := hid ((HP.out.below hb).below hXb)
  clear hp hb hXb hXk
  obtain ⟨R2, hR2⟩ : ∃ R2 : Bool, R2 = true := ⟨_, rfl⟩
  by_cases hin : 0 ≤ p1 ∧ p1 < n ∧ 0 ≤ p2 ∧ p2 < m
  rotate_left
  ·have HF := hid (show R = false by
    rw [← HRL.out, HDR.out]
    have : inPair n m (p1, p2) = false := decide_eq_false hin
    cases prevOf r k <;> simp [relFrom, this])
   clear hR2
   go_wp2_with fail
   rw [← hX, ← hbx]
   clear hX hbx
   by_cases h1 : p1 < 0
   ·have g1 : decide (p1 < 0) = true := decide_eq_true h1
    go_quiet (fail)
    go_wp2_with fail
    go_ret
    exact ⟨by rw [HF.out]; rfl, belowN HBX.out⟩
   have g1 : decide (p1 < 0) = false := decide_eq_false h1
   by_cases h2 : n ≤ p1
   ·have g2 : decide (n ≤ p1) = true := decide_eq_true h2
    go_quiet (fail)
    go_wp2_with fail
    go_ret
    exact ⟨by rw [HF.out]; rfl, belowN HBX.out⟩
   have g2 : decide (n ≤ p1) = false := decide_eq_false h2
   by_cases h3 : p2 < 0
   ·have g3 : decide (p2 < 0) = true := decide_eq_true h3
    go_quiet (fail)
    go_wp2_with fail
    go_ret
    exact ⟨by rw [HF.out]; rfl, belowN HBX.out⟩
   have g3 : decide (p2 < 0) = false := decide_eq_false h3
   have g4 : decide (m ≤ p2) = true := decide_eq_true (by omega)
   go_quiet (fail)
   go_wp2_with fail
   go_ret
   exact ⟨by rw [HF.out]; rfl, belowN HBX.out⟩
  obtain ⟨i1, i2, i3, i4⟩ := hin
  have HIN := hid (show inPair n m (p1, p2) = true from decide_eq_true ⟨i1, i2, i3, i4⟩)
  have g1 : decide (p1 < 0) = false := decide_eq_false (by omega)
  have g2 : decide (n ≤ p1) = false := decide_eq_false (by omega)
  have g3 : decide (p2 < 0) = false := decide_eq_false (by omega)
  have g4 : decide (m ≤ p2) = false := decide_eq_false (by omega)
  clear hR2
  go_wp2_with fail
  rw [← hX, ← hbx]
  clear hX hbx
  cases k with
  | zero =>
   have HNXT := hid (show relFrom n m (some (p1, p2)) (r.drop 1) = R by
    have h := HRL.out
    rw [HDR.out] at h
    simpa [prevOf, relFrom, HIN.out] using h)
   go_quiet (fail)
   go_wp2_with fail
   go_roundw
   case rel => exact ⟨1, by omega, by go_num, by rw [HNX.out]; exact HNXT.out, belowN HBX.out⟩
   case measure => simp [intOf]; omega
  | succ j =>
   obtain ⟨q, hq⟩ : ∃ q, r[j]? = some q := ⟨r[j]'(by have := HN.out; omega), List.getElem?_eq_getElem _⟩
   obtain ⟨b', o', e, _, d0, d1⟩ := HPX.out.get hq
   cases e
   obtain ⟨q1, q2⟩ := q
   simp only at d0 d1
   have HPV := hid (show prevOf r (j + 1) = some (q1, q2) from hq)
   obtain ⟨cc, hcc⟩ : ∃ cc, cc = decide (ltP' (q1, q2) (p1, p2)) := ⟨_, rfl⟩
   have HCP := hid (fun x => (show Calls Tryz.prog 37 #[Pv (q1, q2), Pv (p1, p2)] x (fun e x' => e = .returned (.bool cc) ∧ Below x.heap.size x x') by rw [hcc]; exact less_any (q1, q2) (p1, p2) x))
   have HCC := hid hcc
   have hjk : ((↑(j + 1) : Int)) - 1 = (j : Int) := by omega
   have hjp : (0 : Int) < (↑(j + 1) : Int) := by omega
   have hjN : j < N := by omega
   have hjI : (j : Int) < (N : Int) := by omega
   have hjq : IntKind.i64.wrap (j : Int) = (j : Int) := IntWalk.i64_in _ ⟨by omega, by omega⟩
   have hjs : (0 : Int) < (j : Int) + 1 := by omega
   have hjt : (j : Int) + 1 - 1 = j := by omega
   have hju : decide ((0 : Int) < (j : Int) + 1) = true := decide_eq_true hjs
   clear hq hcc
   go_region_held3 (fun x : World => x.cell? ⟨bx, 0, none⟩ = some (.int .i64 p1) ∧ x.cell? ⟨bx, 1, none⟩ = some (.int .i64 p2) ∧ x.cell? ⟨b, o + j * 2, none⟩ = some (.int .i64 q1) ∧ x.cell? ⟨b, o + j * 2 + 1, none⟩ = some (.int .i64 q2)) (first | exact ⟨x0, x1, d0, d1⟩ | fail) (first | (go_at_call 37; refine (HCP.out _).mono ?_; rintro e x ⟨rfl, hbq⟩; have HBQ := hid hbq; replace x0 := cell_below hbq x0; replace x1 := cell_below hbq x1; replace d0 := cell_below hbq d0; replace d1 := cell_below hbq d1; clear hbq) | fail)
   have HBZ := hid ((belowN HBX.out).trans (HBQ.out.mono (belowN HBX.out).size))
   cases hc : cc with
   | true =>
    have HNXT := hid (show relFrom n m (some (p1, p2)) (r.drop (j + 1 + 1)) = R by
     have h := HRL.out
     rw [HDR.out, HPV.out] at h
     have h2 := HCC.out
     rw [hc] at h2
     have h3 : cmpP (q1, q2) (p1, p2) < 0 := (cmpP_lt _ _).2 (of_decide_eq_true h2.symm)
     simpa [relFrom, HIN.out, h3] using h)
    subst hc
    go_wp2_with fail
    go_roundw
    case rel => exact ⟨j + 1 + 1, by omega, by go_num, by rw [HNX.out]; exact HNXT.out, HBZ.out⟩
    case measure => simp [intOf]; omega
   | false =>
    have HF := hid (show R = false by
     rw [← HRL.out, HDR.out, HPV.out]
     have h2 := HCC.out
     rw [hc] at h2
     have h3 : ¬ cmpP (q1, q2) (p1, p2) < 0 := fun h => of_decide_eq_false h2.symm ((cmpP_lt _ _).1 h)
     simp [relFrom, h3])
    subst hc
    go_wp2_with fail
    go_ret
    exact ⟨by rw [HF.out]; rfl, HBZ.out⟩
end Go.Proofs.YtcekilcgpgjooaaGreatDoor
namespace Go.Proofs.YtcekilcgpgjooaaGreatDoor
open Go Go.RowKit


end Go.Proofs.YtcekilcgpgjooaaGreatDoor
