/-
  Proved here: the reference's Has, at each functor.
-/
import Derived.Test.YtioimhnebjiicaaDoorSizA
namespace Go.Proofs.YtioimhnebjiicaaDoor
open Go.RowKit

def HasRefOk (zs : List Int) (t : T) : Prop := ∀ (S : Nat → Nat → Prop) (k n : Int) (a : Option Addr) (cap b capz : Nat) (w : World), Sl S w a t → IntsAt w b zs →
  Calls Tryd.prog 30 #[.agg #[.int .i64 k, .int .i64 n, .slice a t.len cap], .slice (some ⟨b, 0, none⟩) zs.length capz] w fun e w' => e = .returned (.bool (decide (k ∈ zs) || t.hasAny zs)) ∧ Below w.heap.size w w'

set_option maxRecDepth 100000 in
set_option maxHeartbeats 800000 in
theorem hasRef_any (zs : List Int) : ∀ t : T, HasRefOk zs t := by
  refine T.ind ?_
  intro t ih S k n a cap b capz w hs hz
  obtain ⟨W, hW⟩ : ∃ W : World, W = w.alloc (Obj.cells #[Value.int IntKind.i64 k, Value.int IntKind.i64 n, Value.slice a t.len cap] 24) := ⟨_, rfl⟩
  have hWb : Below w.heap.size w W := by rw [hW]; exact (Below.refl _ _).alloc (Nat.le_refl _) _
  have hx : W.heap[w.heap.size]? = some (Obj.cells #[.int .i64 k, .int .i64 n, .slice a t.len cap] 24 (0, 0)) := by rw [hW]; exact heap_new _ _
  obtain ⟨c0, c1, c2⟩ := cells_of hx
  have hs' : Sl S W a t := hs.below hWb
  have hz' := hz.below hWb
  have hws := hWb.size
  have hlen := hs.1
  have hzl := hz.1
  have IH := Lib.hid ih
  have HZ := Lib.hid hz'
  clear ih hz hs hz'
  go_enter Tryd.func30, Tryd.ntmps30
  go_wp2_with fail
  rw [← hW]
  clear hW
  go_loop [6, 11] (fun _ i => ∃ j : Nat, j ≤ zs.length ∧ i = .int .i64 j ∧ k ∉ zs.take j) (fun _ i => zs.length - (intOf i).toNat)
  case atStart => exact ⟨0, Nat.zero_le _, rfl, by simp⟩
  case round =>
    obtain ⟨j, hj, rfl, hnot⟩ := hrel
    have HN := Lib.hid hnot
    clear hnot
    by_cases hlt : j < zs.length
    · have hc : W.cell? ⟨b, j, none⟩ = some (.int .i64 zs[j]) := HZ.out.2.2 j _ (List.getElem?_eq_getElem hlt)
      cases hv : decide (k = zs[j])
      · have hv' : (k == zs[j]) = false := by simpa using hv
        have HV := Lib.hid hv
        clear hv
        go_wp2_with fail
        go_round
        case rel => exact ⟨j + 1, by omega, by go_num, take_succ_mem zs k j hlt HN.out (of_decide_eq_false HV.out)⟩
        case measure => simp [intOf]; omega
      · have hv' : (k == zs[j]) = true := by simpa using hv
        have HV := Lib.hid hv
        clear hv
        go_wp2_with fail
        go_ret
        have : k ∈ zs := by rw [of_decide_eq_true HV.out]; exact List.getElem_mem _
        exact ⟨by simp [this], hWb⟩
    · have hnk : k ∉ zs := by
        have h := HN.out
        rwa [List.take_of_length_le (by omega)] at h
      have HK := Lib.hid hnk
      clear hnk HN
      go_wp2_with fail
      go_loopw [8, 23] (fun _ i wr => ∃ j : Nat, j ≤ t.len ∧ i = .int .i64 j ∧ t.hasAny zs = (t.drop j).hasAny zs ∧ Below W.heap.size W wr) (fun _ i _ => t.len - (intOf i).toNat)
      case atStart => exact ⟨0, Nat.zero_le _, rfl, by simp, Below.refl _ _⟩
      case round =>
        obtain ⟨j2, hj2, rfl, hq, hb⟩ := hrel
        have HQ := Lib.hid hq
        clear hq
        by_cases hlt2 : j2 < t.len
        · obtain ⟨b', o, rfl, hat⟩ := hs'.addr hlt2
          obtain ⟨k1, n1, kids, rest, hd, hd1⟩ := T.drop_lt hlt2
          obtain ⟨_, d0, d1, a1, cap1, d2, hs1⟩ := hat.get hd
          have hb3 := Nat.mul_comm 3 j2
          rw [hb3] at d0 d1 d2
          clear hb3
          replace d0 := cell_below hb d0
          replace d1 := cell_below hb d1
          replace d2 := cell_below hb d2
          have hb4 : Below wr.heap.size wr (wr.alloc (.cells #[.int .i64 k1, .int .i64 n1, .slice a1 kids.len cap1] 24)) := (Below.refl _ _).alloc (Nat.le_refl _) _
          have HC := Lib.hid (IH.out _ _ _ _ _ hd S k1 n1 a1 cap1 b capz _ ((hs1.below hb).below hb4) ((HZ.out.below hb).below hb4))
          have hbs := hb.size
          obtain ⟨r, hr⟩ : ∃ r, r = (decide (k1 ∈ zs) || kids.hasAny zs) := ⟨_, rfl⟩
          rw [← hr] at HC
          have HR := Lib.hid hr
          have HD := Lib.hid hd
          have HD1 := Lib.hid hd1
          clear hd hd1 hr
          go_wp2_with fail
          refine HC.out.mono ?_
          rintro e w' ⟨rfl, hb5⟩
          have hb6 : Below W.heap.size W w' := hb.trans ((hb4.trans (hb5.mono hb4.size)).mono hbs)
          cases r
          · go_wp2_with fail
            go_roundw
            case rel =>
              refine ⟨j2 + 1, by omega, by go_num, ?_, hb6⟩
              rw [HQ.out, HD.out, HD1.out]
              simp only [T.hasAny]
              rw [← HR.out]; rfl
            case measure => simp [intOf]; omega
          · go_wp2_with fail
            go_ret
            refine ⟨?_, hWb.trans (hb6.mono hws)⟩
            rw [HQ.out, HD.out]
            simp only [T.hasAny]
            rw [← HR.out]; simp
        · go_wp2_with fail
          go_ret
          have hj' : j2 = t.len := by omega
          have h := HQ.out
          rw [hj', T.drop_all] at h
          have hk := HK.out
          exact ⟨by rw [h]; simp [hk, T.hasAny], hWb.trans (hb.mono hws)⟩
end Go.Proofs.YtioimhnebjiicaaDoor
