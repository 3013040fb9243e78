/-
  Proved here: the code's Has, at each functor.
-/
import Derived.Test.YtioimhnebjiicaaDoorStrD
namespace Go.Proofs.YtioimhnebjiicaaDoor
open Go.RowKit

def IntsAt (w : World) (b : Nat) (zs : List Int) : Prop := zs.length ≤ 100 ∧ b < w.heap.size ∧ ∀ i v, zs[i]? = some v → w.cell? ⟨b, i, none⟩ = some (.int .i64 v)
theorem IntsAt.below {w w' : World} {b : Nat} {zs : List Int} (h : IntsAt w b zs) (hb : Below w.heap.size w w') : IntsAt w' b zs :=
  ⟨h.1, Nat.lt_of_lt_of_le h.2.1 hb.size, fun i v hi => cell_below hb (h.2.2 i v hi)⟩

def SomeIdx (P : Int → Prop) (w : World) (e : Ending) (w' : World) : Prop := ∃ r : Int, P r ∧ e = .returned (.int .i64 r) ∧ Below w.heap.size w w'

theorem take_succ_mem (zs : List Int) (v : Int) (j : Nat) (h : j < zs.length) (h1 : v ∉ zs.take j) (h2 : v ≠ zs[j]) : v ∉ zs.take (j + 1) := by
  intro hm
  rw [List.take_succ_eq_append_getElem h] at hm
  rcases List.mem_append.1 hm with h3 | h3
  · exact h1 h3
  · exact h2 (List.mem_singleton.1 h3)

set_option maxRecDepth 100000 in
set_option maxHeartbeats 400000 in
theorem index_any (zs : List Int) (v : Int) (b cap : Nat) (w : World) (h : IntsAt w b zs) :
    Calls Tryd.prog 74 #[.slice (some ⟨b, 0, none⟩) zs.length cap, .int .i64 v] w (SomeIdx (fun r => (0 ≤ r ↔ v ∈ zs) ∧ r ≤ 100) w) := by
  obtain ⟨hl, hbw, hz⟩ := h
  have HZ := Lib.hid hz
  clear hz
  go_enter Tryd.func74, Tryd.ntmps74
  go_wp2_with fail
  go_loop [8] (fun i => ∃ j : Nat, j ≤ zs.length ∧ i = .int .i64 j ∧ v ∉ zs.take j) (fun i => zs.length - (intOf i).toNat)
  case atStart => exact ⟨0, Nat.zero_le _, rfl, by simp⟩
  case round =>
    obtain ⟨j, hj, rfl, hnot⟩ := hrel
    have HN := Lib.hid hnot
    clear hnot
    by_cases hlt : j < zs.length
    · have hc : w.cell? ⟨b, j, none⟩ = some (.int .i64 zs[j]) := HZ.out j _ (List.getElem?_eq_getElem hlt)
      cases hv : decide (v = zs[j])
      · have hv' : (v == zs[j]) = false := by simpa using hv
        have HV := Lib.hid hv
        clear hv
        go_wp2_with fail
        go_round
        case rel => exact ⟨j + 1, by omega, by go_num, take_succ_mem zs v j hlt HN.out (of_decide_eq_false HV.out)⟩
        case measure => simp [intOf]; omega
      · have hv' : (v == zs[j]) = true := by simpa using hv
        have HV := Lib.hid hv
        clear hv
        go_wp2_with fail
        go_ret
        refine ⟨j, ⟨⟨fun _ => ?_, fun _ => by omega⟩, by omega⟩, rfl, Below.refl _ _⟩
        rw [of_decide_eq_true HV.out]
        exact List.getElem_mem _
    · go_wp2_with fail
      go_ret
      have e : zs.take j = zs := List.take_of_length_le (by omega)
      have hn := HN.out
      rw [e] at hn
      exact ⟨-1, ⟨⟨fun h => by omega, fun h => absurd h hn⟩, by omega⟩, rfl, Below.refl _ _⟩

set_option maxHeartbeats 400000 in
theorem contains_any (zs : List Int) (v : Int) (b cap : Nat) (w : World) (h : IntsAt w b zs) :
    Calls Tryd.prog 63 #[.slice (some ⟨b, 0, none⟩) zs.length cap, .int .i64 v] w fun e w' => e = .returned (.bool (decide (v ∈ zs))) ∧ Below w.heap.size w w' := by
  have HI := Lib.hid (index_any zs v b cap w h)
  clear h
  go_enter Tryd.func63, Tryd.ntmps63
  go_wp2_with fail
  refine HI.out.mono ?_
  rintro e w1 ⟨r, ⟨hr, hr2⟩, rfl, hb⟩
  have hd : decide (v ∈ zs) = decide (0 ≤ r) := decide_eq_decide.2 hr.symm
  have HD := Lib.hid hd
  clear hr hd
  go_wp2_with fail
  go_ret
  exact ⟨by rw [HD.out]; rfl, hb⟩

/-- Whether one of the trees has a node of one of the kinds. -/
def T.hasAny (zs : List Int) : T → Bool
  | .nil => false
  | .cons k _ kids rest => (decide (k ∈ zs) || kids.hasAny zs) || rest.hasAny zs

def HasOk (zs : List Int) (t : T) : Prop := ∀ (S : Nat → Nat → Prop) (k n : Int) (a : Option Addr) (cap b capz : Nat) (w : World), Sl S w a t → IntsAt w b zs →
  Calls Tryd.prog 39 #[.agg #[.int .i64 k, .int .i64 n, .slice a t.len cap], .slice (some ⟨b, 0, none⟩) zs.length capz] w fun e w' => e = .returned (.bool (decide (k ∈ zs) || t.hasAny zs)) ∧ Below w.heap.size w w'

set_option maxHeartbeats 400000 in
theorem hasfn_of (zs : List Int) (t : T) (H : HasOk zs t) (S : Nat → Nat → Prop) (k n : Int) (a : Option Addr) (cap b capz sb : Nat) (w : World) (hs : Sl S w a t) (hz : IntsAt w b zs) (hsb : w.cell? ⟨sb, 0, none⟩ = some (.slice (some ⟨b, 0, none⟩) zs.length capz)) :
    Calls Tryd.prog 65 #[.agg #[.int .i64 k, .int .i64 n, .slice a t.len cap], .pointer (some ⟨sb, 0, none⟩)] w fun e w' => e = .returned (.bool (decide (k ∈ zs) || t.hasAny zs)) ∧ Below w.heap.size w w' := by
  have hb0 : Below w.heap.size w (w.alloc (.cells #[.int .i64 k, .int .i64 n, .slice a t.len cap] 24)) := (Below.refl _ _).alloc (Nat.le_refl _) _
  have HH := Lib.hid (H S k n a cap b capz _ (hs.below hb0) (hz.below hb0))
  have hsb' := cell_below hb0 hsb
  obtain ⟨r, hr⟩ : ∃ r, r = (decide (k ∈ zs) || t.hasAny zs) := ⟨_, rfl⟩
  rw [← hr] at HH ⊢
  clear hr H hz hs
  go_enter Tryd.func65, Tryd.ntmps65
  go_wp2_with fail
  refine HH.out.mono ?_
  rintro e w1 ⟨rfl, hb⟩
  go_wp2_with fail
  go_ret
  exact ⟨rfl, hb0.trans (hb.mono (by simp))⟩

set_option maxRecDepth 100000 in
set_option maxHeartbeats 800000 in
theorem indexfn_any (zs : List Int) (t : T) (ih : t.Elems (HasOk zs)) (S : Nat → Nat → Prop) (a : Option Addr) (cap b capz sb : Nat) (w : World) (hs : Sl S w a t) (hz : IntsAt w b zs) (hsb : w.cell? ⟨sb, 0, none⟩ = some (.slice (some ⟨b, 0, none⟩) zs.length capz)) :
    Calls Tryd.prog 75 #[.slice a t.len cap, .func (.func 65) #[] #[.pointer (some ⟨sb, 0, none⟩)]] w (SomeIdx (fun r => (0 ≤ r ↔ t.hasAny zs = true) ∧ r ≤ 9223372036854775807) w) := by
  have hlen := hs.1
  have HS := Lib.hid hs
  go_enter Tryd.func75, Tryd.ntmps75
  go_wp2_with fail
  go_loopw [8] (fun i wr => ∃ j : Nat, j ≤ t.len ∧ i = .int .i64 j ∧ (t.drop j).hasAny zs = t.hasAny zs ∧ Below w.heap.size w wr) (fun i _ => t.len - (intOf i).toNat)
  case atStart => exact ⟨0, Nat.zero_le _, rfl, by simp, Below.refl _ _⟩
  case round =>
    obtain ⟨j, hj, rfl, hl, hb⟩ := hrel
    have HL := Lib.hid hl
    clear hl
    by_cases hlt : j < t.len
    · obtain ⟨b1, o, rfl, hat⟩ := HS.out.addr hlt
      obtain ⟨k1, n1, kids, rest, hd, hd1⟩ := T.drop_lt hlt
      obtain ⟨_, d0, d1, a1, cap1, d2, hs1⟩ := hat.get hd
      have hb3 := Nat.mul_comm 3 j
      rw [hb3] at d0 d1 d2
      clear hb3
      replace d0 := cell_below hb d0
      replace d1 := cell_below hb d1
      replace d2 := cell_below hb d2
      have HC := Lib.hid (hasfn_of zs kids (ih _ _ _ _ _ hd) S k1 n1 a1 cap1 b capz sb wr (hs1.below hb) (hz.below hb) (cell_below hb hsb))
      have HD := Lib.hid hd
      have HD1 := Lib.hid hd1
      clear hd hd1
      cases hq : (decide (k1 ∈ zs) || kids.hasAny zs)
      · rw [hq] at HC
        have HQ := Lib.hid hq
        clear hq
        go_wp2_with fail
        refine HC.out.mono ?_
        rintro e w1 ⟨rfl, hb1⟩
        go_wp2_with fail
        go_roundw
        case rel => exact ⟨j + 1, by omega, by go_num, by rw [← HL.out, HD.out, HD1.out]; simp only [T.hasAny, HQ.out]; simp, hb.trans (hb1.mono hb.size)⟩
        case measure => simp [intOf]; omega
      · rw [hq] at HC
        have HQ := Lib.hid hq
        clear hq
        go_wp2_with fail
        refine HC.out.mono ?_
        rintro e w1 ⟨rfl, hb1⟩
        go_wp2_with fail
        go_ret
        refine ⟨j, ⟨⟨fun _ => ?_, fun _ => by omega⟩, by omega⟩, rfl, hb.trans (hb1.mono hb.size)⟩
        rw [← HL.out, HD.out]
        simp only [T.hasAny, HQ.out]
        simp
    · go_wp2_with fail
      go_ret
      have hj' : j = t.len := by omega
      have hq := HL.out
      rw [hj', T.drop_all] at hq
      refine ⟨-1, ⟨⟨fun h => by omega, fun h => ?_⟩, by omega⟩, rfl, hb⟩
      rw [← hq] at h
      cases h

set_option maxHeartbeats 400000 in
theorem containsfn_any (zs : List Int) (t : T) (ih : t.Elems (HasOk zs)) (S : Nat → Nat → Prop) (a : Option Addr) (cap b capz sb : Nat) (w : World) (hs : Sl S w a t) (hz : IntsAt w b zs) (hsb : w.cell? ⟨sb, 0, none⟩ = some (.slice (some ⟨b, 0, none⟩) zs.length capz)) :
    Calls Tryd.prog 64 #[.slice a t.len cap, .func (.func 65) #[] #[.pointer (some ⟨sb, 0, none⟩)]] w fun e w' => e = .returned (.bool (t.hasAny zs)) ∧ Below w.heap.size w w' := by
  have HI := Lib.hid (indexfn_any zs t ih S a cap b capz sb w hs hz hsb)
  clear ih hs hz hsb
  go_enter Tryd.func64, Tryd.ntmps64
  go_wp2_with fail
  refine HI.out.mono ?_
  rintro e w1 ⟨r, ⟨hr, hr2⟩, rfl, hb⟩
  have hd : t.hasAny zs = decide (0 ≤ r) := by
    rw [Bool.eq_iff_iff, ← hr]; simp
  have HD := Lib.hid hd
  clear hr hd
  go_wp2_with fail
  go_ret
  exact ⟨by rw [HD.out]; rfl, hb⟩

set_option maxRecDepth 100000 in
set_option maxHeartbeats 400000 in
theorem has_any (zs : List Int) : ∀ t : T, HasOk zs t := by
  refine T.ind ?_
  intro t ih S k n a cap b capz w hs hz
  have hmf : ∀ (fn : Fn) (first cap : Array Value) (w : World), (Instr.makeFunc fn first cap).run Tryd.prog w = .ok (.func fn first cap) w := fun _ _ _ _ => rfl
  obtain ⟨W, hW⟩ : ∃ W, W = (w.alloc (.cells #[.int .i64 k, .int .i64 n, .slice a t.len cap] 24)).alloc (.cells #[.slice (some ⟨b, 0, none⟩) zs.length capz] 62) := ⟨_, rfl⟩
  have hb0 : Below w.heap.size w W := by rw [hW]; exact ((Below.refl _ _).alloc (Nat.le_refl _) _).alloc (by simp) _
  have hbx : W.heap[w.heap.size]? = some (Obj.cells #[.int .i64 k, .int .i64 n, .slice a t.len cap] 24 (0, 0)) := by rw [hW]; exact heap_old2 _ _ _
  have hby : W.heap[w.heap.size + 1]? = some (Obj.cells #[.slice (some ⟨b, 0, none⟩) zs.length capz] 62 (0, 0)) := by rw [hW]; exact heap_new2 _ _ _
  obtain ⟨c0, c1, c2⟩ := cells_of hbx
  have e0 := cells1_of hby
  have HC := Lib.hid (contains_any zs k b capz W (hz.below hb0))
  cases hk : decide (k ∈ zs)
  · rw [hk] at HC
    have HF := Lib.hid (fun w1 (h1 : Below W.heap.size W w1) => containsfn_any zs t ih S a cap b capz (w.heap.size + 1) w1 ((hs.below hb0).below h1) ((hz.below hb0).below h1) (cell_below h1 e0))
    clear hk ih hs hz
    obtain ⟨r, hr⟩ : ∃ r, r = t.hasAny zs := ⟨_, rfl⟩
    rw [← hr] at HF ⊢
    clear hr
    go_enter Tryd.func39, Tryd.ntmps39
    go_wp2_with fail
    rw [← hW]
    clear hW
    refine HC.out.mono ?_
    rintro e w1 ⟨rfl, hb1⟩
    have d2 := cell_below hb1 c2
    go_wp2_with fail
    refine (HF.out w1 hb1).mono ?_
    rintro e w2 ⟨rfl, hb2⟩
    go_wp2_with fail
    go_ret
    exact ⟨by simp, hb0.trans ((hb1.trans (hb2.mono hb1.size)).mono hb0.size)⟩
  · rw [hk] at HC
    clear hk ih hs hz
    go_enter Tryd.func39, Tryd.ntmps39
    go_wp2_with fail
    rw [← hW]
    clear hW
    refine HC.out.mono ?_
    rintro e w1 ⟨rfl, hb1⟩
    go_wp2_with fail
    go_ret
    exact ⟨by simp, hb0.trans (hb1.mono hb0.size)⟩
end Go.Proofs.YtioimhnebjiicaaDoor
