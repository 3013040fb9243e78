/-
  Proved here: the reference's Tokens and Parse at each text: Parse answers as the code's does.
-/
import Derived.Test.YtioimhnebjiicaaDoorTxtD
namespace Go.Proofs.YtioimhnebjiicaaDoor
open Go.RowKit

theorem info9 : (Tryd.prog.info? 9).map (fun i => (i.zero, i.size, i.bytes)) = some (some (.string ByteArray.empty), 1, 16) := by kernel_rfl

abbrev strs (ts : List Tok) : List Value := ts.map (fun t => Value.string (bs t))

theorem dropS (s : ByteArray) (j : Nat) (h : j < s.size) : s.data.toList.drop j = s[j] :: s.data.toList.drop (j + 1) := by
  rw [List.drop_eq_getElem_cons (by rw [Array.length_toList]; exact h)]
  rfl

theorem extract_bs (s : ByteArray) (i k : Nat) : s.extract i k = bs ((s.data.toList.drop i).take (k - i)) := by
  apply ByteArray.ext
  apply Array.toList_inj.1
  simp [ByteArray.data_extract, Array.toList_extract]

theorem in_marks (c : UInt8) : inS (bs marks) (c.toNat : Int) ↔ c ∈ marks := by
  constructor
  · rintro ⟨i, h, he⟩
    have h' : i < marks.length := h
    have e : c = marks[i] := by
      apply UInt8.toNat_inj.1
      have : ((bs marks)[i]'h) = marks[i] := rfl
      rw [this] at he
      omega
    rw [e]; exact List.getElem_mem _
  · intro h
    obtain ⟨i, hi, e⟩ := List.getElem_of_mem h
    exact ⟨i, hi, by rw [← e]; rfl⟩

/-- The tokens that were gathered, and those of what is left. -/
def Gath (s : ByteArray) (j : Nat) (ts : List Tok) : Prop := tokT s.data.toList = (tokT (s.data.toList.drop j)).map (fun us => ts ++ us)

theorem Gath.start (s : ByteArray) : Gath s 0 [] := by
  unfold Gath; rw [List.drop_zero]; cases tokT s.data.toList <;> rfl
theorem Gath.blank {s : ByteArray} {j : Nat} {ts : List Tok} (h : Gath s j ts) (hj : j < s.size) (hc : s[j] = 32) : Gath s (j + 1) ts := by
  unfold Gath at *
  rw [h, dropS s j hj, tok_cons, if_pos hc]
theorem Gath.mark {s : ByteArray} {j : Nat} {ts : List Tok} (h : Gath s j ts) (hj : j < s.size) (h32 : s[j] ≠ 32) (hd : dB s[j] = false) (hm : s[j] ∈ marks) : Gath s (j + 1) (ts ++ [[s[j]]]) := by
  unfold Gath at *
  rw [h, dropS s j hj, tok_cons, if_neg h32, if_neg (by simp [hd]), if_pos hm]
  cases tokT (s.data.toList.drop (j + 1)) <;> simp
theorem Gath.bad {s : ByteArray} {j : Nat} {ts : List Tok} (h : Gath s j ts) (hj : j < s.size) (h32 : s[j] ≠ 32) (hd : dB s[j] = false) (hm : s[j] ∉ marks) : tokT s.data.toList = none := by
  unfold Gath at *
  rw [h, dropS s j hj, tok_cons, if_neg h32, if_neg (by simp [hd]), if_neg hm]
  rfl
theorem Gath.digs {s : ByteArray} {j k : Nat} {ts : List Tok} (h : Gath s j ts) (hjk : j < k) (hk : k ≤ s.size) (hd : ∀ i (hi : i < s.size), j ≤ i → i < k → dB s[i] = true) (he : ∀ hi : k < s.size, dB s[k] = false) :
    Gath s k (ts ++ [(s.data.toList.drop j).take (k - j)]) := by
  unfold Gath at *
  have hsz : s.data.toList.length = s.size := Array.length_toList
  have e : s.data.toList.drop j = (s.data.toList.drop j).take (k - j) ++ s.data.toList.drop k := by
    conv => lhs; rw [← List.take_append_drop (k - j) (s.data.toList.drop j)]
    rw [List.drop_drop, show j + (k - j) = k by omega]
  have hr : hdD (s.data.toList.drop k) = false := by
    by_cases hlt : k < s.size
    · rw [dropS s k hlt]; exact he hlt
    · rw [List.drop_of_length_le (by omega)]; rfl
  have ha : ∀ c ∈ (s.data.toList.drop j).take (k - j), dB c = true := by
    intro c hc
    obtain ⟨i, hi, hi2⟩ := List.getElem_of_mem hc
    rw [List.length_take, List.length_drop, hsz] at hi
    rw [List.getElem_take, List.getElem_drop] at hi2
    rw [← hi2]
    exact hd (j + i) (by omega) (by omega) (by omega)
  have hn : (s.data.toList.drop j).take (k - j) ≠ [] := by
    intro e0
    have := congrArg List.length e0
    rw [List.length_take, List.length_drop, hsz] at this
    simp at this
    omega
  rw [h]
  conv => lhs; rw [e]
  rw [tok_digs _ _ hn ha hr]
  cases tokT (s.data.toList.drop k) <;> simp
theorem Gath.fin {s : ByteArray} {j : Nat} {ts : List Tok} (h : Gath s j ts) (hj : s.size ≤ j) : tokT s.data.toList = some ts := by
  unfold Gath at h
  have hsz : s.data.toList.length = s.size := Array.length_toList
  rw [h, List.drop_of_length_le (by omega)]
  simp [tokT]
theorem Gath.one {s : ByteArray} {j : Nat} (hj : j < s.size) : (s.data.toList.drop j).take (j + 1 - j) = [s[j]] := by
  rw [dropS s j hj, show j + 1 - j = 1 by omega]; rfl
end Go.Proofs.YtioimhnebjiicaaDoor

namespace Go.Proofs.YtioimhnebjiicaaDoor
open Go.RowKit

/-- What Tokens does. -/
def TokPost (s : ByteArray) (w : World) (e : Ending) (w' : World) : Prop :=
  Below w.heap.size w w' ∧ match tokT s.data.toList with
    | none => e = .returned (.tuple #[.slice none 0 0, .bool false])
    | some ts => ∃ v, e = .returned (.tuple #[v, .bool true]) ∧ w'.ownsRow w.heap.size 9 1 v ts.length (strs ts)

set_option maxRecDepth 100000 in
set_option maxHeartbeats 3200000 in
theorem tokens_any (s : ByteArray) (w : World) (hs : s.size ≤ 50000) : Calls Tryd.prog 37 #[.string s, .string (bs marks)] w (TokPost s w) := by
  obtain ⟨i0, hi, hz0, hz1, hz2⟩ := info_parts info9
  have HI := Lib.hid hi
  obtain ⟨R, hR1⟩ : ∃ R, R = TokPost s w := ⟨_, rfl⟩
  rw [← hR1]
  have HR1 := Lib.hid hR1
  clear hR1
  obtain ⟨mk, hmk⟩ : ∃ mk, mk = bs marks := ⟨_, rfl⟩
  rw [← hmk]
  have HW := Lib.hid (fun (c : UInt8) (u : World) => show Calls Tryd.prog 58 #[.string mk, .int .u8 (c.toNat : Int)] u (SaysIn (bs marks) c.toNat u) by rw [hmk]; exact within_any (bs marks) c.toNat u (by decide))
  clear hmk
  go_enter Tryd.func37, Tryd.ntmps37
  go_wp2_with fail
  go_loopw [6, 7, 8] (fun v i _ wr => ∃ (j : Nat) (ts : List Tok), j ≤ s.size ∧ i = .int .i64 j ∧ ts.length ≤ j ∧ wr.ownsRow w.heap.size 9 1 v ts.length (strs ts) ∧ Gath s j ts ∧ Below w.heap.size w wr) (fun _ i _ _ => s.size - (intOf i).toNat)
  case atStart => exact ⟨0, [], Nat.zero_le _, rfl, Nat.le_refl _, World.ownsRow_nil _ _ _ _, Gath.start s, Below.refl _ _⟩
  case round =>
    obtain ⟨j, ts, hj, rfl, htj, hown, hg, hb⟩ := hrel
    have HG := Lib.hid hg
    clear hg
    by_cases hlt : j < s.size
    · by_cases hc : s[j] = 32
      · have hc1 : ((s[j].toNat : Int) == 32) = true := by rw [hc]; rfl
        have HG1 := Lib.hid (HG.out.blank hlt hc)
        clear hc
        go_wp2_with fail
        go_roundw
        case rel => exact ⟨j + 1, ts, by omega, by go_num, by omega, hown, HG1.out, hb⟩
        case measure => simp [intOf]; omega
      · have hc1 : ((s[j].toNat : Int) == 32) = false := by
          rw [Bool.eq_false_iff]; intro h; exact hc ((byteN (n := 32) (by omega)).1 (by simpa using h))
        have HC := Lib.hid hc
        clear hc
        by_cases hd : dB s[j] = true
        · have hdi : isD (s[j].toNat : Int) = true := hd
          have HD := Lib.hid hdi
          have HB := Lib.hid hd
          clear hd hdi
          have hbs := hb.size
          go_wp2_with fail
          refine (digitRef_any _ _).mono ?_
          rintro e w' ⟨rfl, rfl⟩
          rw [HD.out]
          go_wp2_with fail
          go_loop [8] (fun q => ∃ k : Nat, j < k ∧ k ≤ s.size ∧ q = .int .i64 k ∧ (∀ i (hi : i < s.size), j ≤ i → i < k → dB s[i] = true)) (fun q => s.size - (intOf q).toNat)
          case atStart => exact ⟨j + 1, by omega, by omega, by go_num, fun i hi h1 h2 => by obtain rfl : i = j := by omega
                                                                                            exact HB.out⟩
          case round =>
            obtain ⟨k, hjk, hk, rfl, hall⟩ := hrel
            have HA := Lib.hid hall
            clear hall
            have fin : (∀ hi : k < s.size, dB s[k] = false) → Gath s k (ts ++ [(s.data.toList.drop j).take (k - j)]) := fun he => HG.out.digs hjk hk HA.out he
            have FIN := Lib.hid fin
            have HX := Lib.hid (show s.extract j k = bs ((s.data.toList.drop j).take (k - j)) from extract_bs s j k)
            clear fin
            by_cases hkl : k < s.size
            · by_cases hd : dB s[k] = true
              · have hdi : isD (s[k].toNat : Int) = true := hd
                have HD2 := Lib.hid hdi
                have HB2 := Lib.hid hd
                clear hd hdi
                go_wp2_with fail
                refine (digitRef_any _ _).mono ?_
                rintro e w' ⟨rfl, rfl⟩
                rw [HD2.out]
                go_wp2_with fail
                go_round
                case rel =>
                  refine ⟨k + 1, by omega, by omega, by go_num, fun i hi h1 h2 => ?_⟩
                  by_cases hik : i = k
                  · subst hik; exact HB2.out
                  · exact HA.out i hi h1 (by omega)
                case measure => simp [intOf]; omega
              · have hdi : isD (s[k].toNat : Int) = false := by simpa [dB] using hd
                have HD2 := Lib.hid hdi
                have HN := Lib.hid (FIN.out (fun _ => by simpa using hd))
                clear hd hdi
                go_wp2_with fail
                refine (digitRef_any _ _).mono ?_
                rintro e w' ⟨rfl, rfl⟩
                rw [HD2.out]
                go_wp2_with (at_builtin; refine wpList_append_own _ rfl _ _ 56 rfl w.heap.size 9 i0 (.string ByteArray.empty) 1 16 Tryd.underlying56 hi hz0 hz1 hz2 rfl (by decide) _ _ _ rfl (hown.alloc _) ⟨wr.heap.size, 0, none⟩ 1 1 [.string (s.extract j k)] rfl rfl (cell_one_new _ _ _) (by intro u hu; simp at hu; subst hu; rfl) (by unfold maxLen; omega) (by omega) (by simp; omega) ?_; intro v' w1 hown' hgrow hnil)
                have hbw : Below w.heap.size w w1 := Below.grown (hb.alloc hbs _) hgrow (by simp; omega) (fun k hk => (hown.lt k hk).1)
                rw [HX.out] at hown'
                clear hgrow hnil hown
                go_wp2_with fail
                go_roundw
                case rel => exact ⟨k, ts ++ [(s.data.toList.drop j).take (k - j)], by omega, rfl, by simp; omega, by simpa [strs] using hown', HN.out, hbw⟩
                case measure => simp [intOf]; omega
            · have HN := Lib.hid (FIN.out (fun h => absurd h hkl))
              go_wp2_with (at_builtin; refine wpList_append_own _ rfl _ _ 56 rfl w.heap.size 9 i0 (.string ByteArray.empty) 1 16 Tryd.underlying56 hi hz0 hz1 hz2 rfl (by decide) _ _ _ rfl (hown.alloc _) ⟨wr.heap.size, 0, none⟩ 1 1 [.string (s.extract j k)] rfl rfl (cell_one_new _ _ _) (by intro u hu; simp at hu; subst hu; rfl) (by unfold maxLen; omega) (by omega) (by simp; omega) ?_; intro v' w1 hown' hgrow hnil)
              have hbw : Below w.heap.size w w1 := Below.grown (hb.alloc hbs _) hgrow (by simp; omega) (fun k hk => (hown.lt k hk).1)
              rw [HX.out] at hown'
              clear hgrow hnil hown
              go_wp2_with fail
              go_roundw
              case rel => exact ⟨k, ts ++ [(s.data.toList.drop j).take (k - j)], by omega, rfl, by simp; omega, by simpa [strs] using hown', HN.out, hbw⟩
              case measure => simp [intOf]; omega
        · by_cases hm : s[j] ∈ marks
          · have hd' : isD (s[j].toNat : Int) = false := by simpa [dB] using hd
            have HD := Lib.hid hd'
            have HN := Lib.hid (HG.out.mark hlt HC.out (by simpa using hd) hm)
            have HM := Lib.hid ((in_marks s[j]).2 hm)
            have HX := Lib.hid (show s.extract j (j + 1) = bs [s[j]] by rw [extract_bs, Gath.one hlt])
            clear hd hd' hm
            have hbs := hb.size
            go_wp2_with fail
            refine (digitRef_any _ _).mono ?_
            rintro e w' ⟨rfl, rfl⟩
            rw [HD.out]
            go_wp2_with fail
            refine (HW.out s[j] _).mono ?_
            rintro e w' ⟨b, rfl, hb1, rfl⟩
            obtain rfl : b = true := hb1.2 HM.out
            clear hb1
            go_wp2_with (at_builtin; refine wpList_append_own _ rfl _ _ 56 rfl w.heap.size 9 i0 (.string ByteArray.empty) 1 16 Tryd.underlying56 hi hz0 hz1 hz2 rfl (by decide) _ _ _ rfl (hown.alloc _) ⟨wr.heap.size, 0, none⟩ 1 1 [.string (s.extract j (j + 1))] rfl rfl (cell_one_new _ _ _) (by intro u hu; simp at hu; subst hu; rfl) (by unfold maxLen; omega) (by omega) (by simp; omega) ?_; intro v' w1 hown' hgrow hnil)
            have hbw : Below w.heap.size w w1 := Below.grown (hb.alloc hbs _) hgrow (by simp; omega) (fun k hk => (hown.lt k hk).1)
            rw [HX.out] at hown'
            clear hgrow hnil hown
            go_wp2_with fail
            go_roundw
            case rel => exact ⟨j + 1, ts ++ [[s[j]]], by omega, by go_num, by simp; omega, by simpa [strs] using hown', HN.out, hbw⟩
            case measure => simp [intOf]; omega
          · have hd' : isD (s[j].toNat : Int) = false := by simpa [dB] using hd
            have HD := Lib.hid hd'
            have HN := Lib.hid (HG.out.bad hlt HC.out (by simpa using hd) hm)
            have HM := Lib.hid (fun h : inS (bs marks) (s[j].toNat : Int) => hm ((in_marks s[j]).1 h))
            clear hd hd' hm
            go_wp2_with fail
            refine (digitRef_any _ _).mono ?_
            rintro e w' ⟨rfl, rfl⟩
            rw [HD.out]
            go_wp2_with fail
            refine (HW.out s[j] _).mono ?_
            rintro e w' ⟨b, rfl, hb1, rfl⟩
            obtain rfl : b = false := by
              cases b with
              | false => rfl
              | true => exact absurd (hb1.1 rfl) HM.out
            clear hb1
            go_wp2_with fail
            show R (.returned (.tuple #[.slice none 0 0, .bool false])) wr
            rw [HR1.out]
            refine ⟨hb, ?_⟩
            rw [HN.out]
    · go_wp2_with fail
      rw [HR1.out]
      refine ⟨hb, ?_⟩
      rw [HG.out.fin (by omega)]
      exact ⟨_, rfl, hown⟩
end Go.Proofs.YtioimhnebjiicaaDoor

namespace Go.Proofs.YtioimhnebjiicaaDoor
open Go.RowKit

theorem T.cap_len (t : T) : t.cap.len = t.len := by
  induction t with
  | nil => rfl
  | cons k n kids rest _ ihr => simp only [T.cap, T.len, ihr]
theorem T.cap_nodes (t : T) : t.cap.nodes = t.nodes := by
  induction t with
  | nil => rfl
  | cons k n kids rest ihk ihr => simp only [T.cap, T.nodes, ihk, ihr]
theorem T.cap_depth (t : T) : t.cap.depth = t.depth := by
  induction t with
  | nil => rfl
  | cons k n kids rest ihk ihr => simp only [T.cap, T.depth, ihk, ihr]

theorem leastOf_bd (k : Int) : leastOf k ≤ 1 := by unfold leastOf; omega

theorem fields_cap (k n : Int) (l : Nat) : fieldsOk k (min n 17) l = fieldsOk k n l := by
  have h1 := mostOf_bd k
  have h2 := leastOf_bd k
  unfold fieldsOk
  rw [Bool.eq_iff_iff]
  simp only [decide_eq_true_eq]
  constructor
  · rintro ⟨a, b, c⟩; exact ⟨a, by omega, by omega⟩
  · rintro ⟨a, b, c⟩; exact ⟨a, by omega, by omega⟩

theorem T.cap_ok (t : T) : t.cap.allOk = t.allOk := by
  induction t with
  | nil => rfl
  | cons k n kids rest ihk ihr => simp only [T.cap, T.allOk, ihk, ihr, fields_cap, T.cap_len]

theorem valid_cap (f : F) : valid f.cap.k f.cap.n f.cap.t = valid f.k f.n f.t := by
  simp only [F.cap, valid, T.cap_len, T.cap_nodes, T.cap_depth, T.cap_ok, fields_cap]

theorem fields_le {k n : Int} {l : Nat} (h : fieldsOk k n l = true) : min n 17 = n := by
  have h1 := mostOf_bd k
  unfold fieldsOk at h
  simp only [decide_eq_true_eq] at h
  omega

theorem T.cap_id (t : T) (h : t.allOk = true) : t.cap = t := by
  induction t with
  | nil => rfl
  | cons k n kids rest ihk ihr =>
    simp only [T.allOk, Bool.and_eq_true] at h
    simp only [T.cap, ihk h.1.2, ihr h.2, fields_le h.1.1]

theorem cap_id {f : F} (h : valid f.k f.n f.t = true) : f.cap = f := by
  obtain ⟨_, _, h3, h4⟩ := valid_parts h
  simp only [F.cap, T.cap_id _ h4, fields_le h3]

/-- The reader is laid. -/
theorem rdr_new {B rb : Nat} {v : Value} {ts : List Tok} {w1 w2 : World} (hown : w1.ownsRow B 9 1 v ts.length (strs ts)) (hb : Below w1.heap.size w1 w2) (hrb : w1.heap.size ≤ rb)
    (hp : w2.heap[rb]? = some (Obj.cells #[v, .bool false] 61 (0, 0))) (hl : ts.length ≤ 50000) (hok : ∀ t ∈ ts, TokOk 50000 t) : Rdr rb ts false w2 := by
  rcases hown.2 with ⟨rfl, h0⟩ | ⟨g, cap, cur, rfl, hg, hb0, h1, h2, h3, h4⟩
  · obtain rfl : ts = [] := List.eq_nil_of_length_eq_zero h0
    exact ⟨none, 0, hp, Nat.le_refl _, hl, hok, Or.inl rfl⟩
  · have hgl := heap_lt hb0
    refine ⟨some ⟨g, 0, none⟩, cap, hp, h1, hl, hok, Or.inr ⟨g, 0, by omega, rfl, fun i t ht => ?_⟩⟩
    have hi : i < ts.length := by
      by_cases hi : i < ts.length
      · exact hi
      · rw [List.getElem?_eq_none (by omega)] at ht; cases ht
    refine cell_below hb ?_
    have e : cur[0 + i]? = some (Value.string (bs t)) := by
      have : (cur.toList.take (ts.length * 1))[i]? = some (Value.string (bs t)) := by rw [h4]; simp [strs, ht]
      rw [List.getElem?_take, if_pos (by omega)] at this
      rw [Nat.zero_add]
      simpa using this
    unfold World.cell?
    rw [hb0]
    simpa using e

theorem stored_below {B : Nat} {f : F} {a : Option Addr} {cap : Nat} {w u : World} (h : Below w.heap.size w u) (hB : w.heap.size ≤ B) : Below w.heap.size w (stored B f a cap u) :=
  ((h.setCell (p := ⟨B, 0, none⟩) hB _).setCell (p := ⟨B, 1, none⟩) hB _).setCell (p := ⟨B, 2, none⟩) hB _

theorem res23 {B : Nat} {f : F} {a : Option Addr} {cap : Nat} {er : Int} {w : World} (h : HdRes B w) {tm : Array Value} (h2 : tm[2]? = some (.pointer (some ⟨B, 0, none⟩))) (h3 : tm[3]? = some (.int .i64 er)) :
    (results Tryd.f23 tm).run Tryd.prog (stored B f a cap w) = .ok (.tuple #[f.val a cap, .int .i64 er]) (stored B f a cap w) := by
  obtain ⟨d0, d1, d2⟩ := stored_cells (f := f) (a := a) (cap := cap) h
  simp [results, Tryd.results23, go_sem, h2, h3, d0, d1, d2]

theorem pr_fin {s : ByteArray} {w u : World} {f : F} {a : Option Addr} {cap : Nat} {er : Int} (hp : parseOf s = (f, er)) (hb : Below w.heap.size w u) (hres : HdRes w.heap.size u) (hs : Sl (SP (w.heap.size + 1)) u a f.t) :
    ∃ a' cap', ParsePost s w (.returned (.tuple #[f.val a cap, .int .i64 er])) (stored w.heap.size f a cap u) a' cap' := by
  have h1 : Oth w.heap.size u (stored w.heap.size f a cap u) := (((Oth.refl _ _).set _ _).set _ _).set _ _
  refine ⟨a, cap, by rw [hp], ?_, stored_below hb (Nat.le_refl _)⟩
  rw [hp]
  exact (hs.othP (fun b o hb => by have := hb.1; omega) h1).weaken (fun _ _ => sp_le (Nat.le_succ _))

set_option maxRecDepth 100000 in
set_option maxHeartbeats 3200000 in
theorem parseRef_any (s : ByteArray) (w : World) (hs : s.size ≤ 1000000) : Calls Tryd.prog 23 #[.string s] w fun e w' => ∃ a cap, ParsePost s w e w' a cap := by
  obtain ⟨R, hR1⟩ : ∃ R : Ending → World → Prop, R = fun e w' => ∃ a cap, ParsePost s w e w' a cap := ⟨_, rfl⟩
  rw [← hR1]
  have HR1 := Lib.hid hR1
  clear hR1
  obtain ⟨W, hW⟩ : ∃ W, W = w.alloc (.cells #[.int .i64 0, .int .i64 0, .slice none 0 0] 24) := ⟨_, rfl⟩
  have hWb : Below w.heap.size w W := by rw [hW]; exact (Below.refl _ _).alloc (Nat.le_refl _) _
  have hres : HdRes w.heap.size W := by rw [hW]; exact heap_new _ _
  have hszW : w.heap.size + 1 ≤ W.heap.size := heap_lt hres
  by_cases hL : 40000 < s.size
  · have hL' : (40000 : Int) < s.size := by omega
    have HP := Lib.hid (show parseOf s = (zeroF, 2) by unfold parseOf; rw [if_pos hL])
    go_enter Tryd.func23, Tryd.ntmps23
    go_wp2_with fail
    rw [← hW]
    refine bodyPost_ret (v := .tuple #[F.val zeroF none 0, .int .i64 2]) ?_ rfl ?_
    · obtain ⟨d0, d1, d2⟩ := cells_of hres
      simp [results, Tryd.results23, go_sem, d0, d1, d2, zeroF, T.len]
    · rw [HR1.out]
      exact ⟨none, 0, by rw [HP.out], by rw [HP.out]; exact sl_nil _ _, hWb⟩
  have hL' : ¬ (40000 : Int) < s.size := by omega
  have hz : s.size ≤ 40000 := by omega
  have HP := Lib.hid (parse_tok s hz)
  have hsl : s.data.toList.length = s.size := Array.length_toList
  go_enter Tryd.func23, Tryd.ntmps23
  go_wp2_with fail
  rw [← hW]
  clear hW
  refine (tokens_any s W (by omega)).mono ?_
  rintro e w1 ⟨hb1, he⟩
  have hres1 : HdRes w.heap.size w1 := by unfold HdRes; rw [hb1.block _ (by omega)]; exact hres
  have hb01 : Below w.heap.size w w1 := hWb.trans (hb1.mono (by omega))
  cases hm : tokT s.data.toList with
  | none =>
    rw [hm] at he HP
    subst he
    have HP1 := Lib.hid (show parseOf s = (zeroF, 11) from HP.out)
    clear hm
    obtain ⟨z0, z1, z2⟩ := cells_of hres1
    have vz := fun o => frozen_of (o := o) hres1
    go_wp2_with fail
    refine bodyPost_ret (v := .tuple #[F.val zeroF none 0, .int .i64 11]) (res23 (f := zeroF) (a := none) (cap := 0) hres1 rfl rfl) rfl ?_
    rw [HR1.out]
    exact pr_fin HP1.out hb01 hres1 (sl_nil _ _)
  | some ts =>
    rw [hm] at he HP
    obtain ⟨v, rfl, hown⟩ := he
    have htl := tok_len _ _ hm
    have htok := (tok_ok _ 50000 (by omega) _ hm).2
    clear hm
    obtain ⟨W1, hW1⟩ : ∃ W1, W1 = w1.alloc (.cells #[v, .bool false] 61) := ⟨_, rfl⟩
    have hbW1 : Below w1.heap.size w1 W1 := by rw [hW1]; exact (Below.refl _ _).alloc (Nat.le_refl _) _
    have hrd : Rdr w1.heap.size ts false W1 := rdr_new hown hbW1 (Nat.le_refl _) (by rw [hW1]; exact heap_new _ _) (by omega) htok
    obtain ⟨va, vcap, rfl⟩ : ∃ a cap, v = .slice a ts.length cap := by
      rcases hown.2 with ⟨rfl, h0⟩ | ⟨g, cap, cur, rfl, _⟩
      · exact ⟨none, 0, by rw [h0]⟩
      · exact ⟨_, _, rfl⟩
    go_wp2_with fail
    rw [← hW1]
    clear hW1
    refine (readRef_any (s.size + 1) w1.heap.size ts W1 (by omega) hrd).mono ?_
    rintro e w2 ⟨f, a, cap, ts2, b2, ⟨rfl, hsl2, hr2, ho2, hl2, hg2⟩⟩
    obtain ⟨W2, hW2⟩ : ∃ W2, W2 = w2.alloc (.cells #[.int .i64 f.k, .int .i64 f.n, .slice a f.t.len cap] 24) := ⟨_, rfl⟩
    have hbW2 : Below w2.heap.size w2 W2 := by rw [hW2]; exact (Below.refl _ _).alloc (Nat.le_refl _) _
    have hbx : W2.heap[w2.heap.size]? = some (Obj.cells #[.int .i64 f.k, .int .i64 f.n, .slice a f.t.len cap] 24 (0, 0)) := by rw [hW2]; exact heap_new _ _
    have hrW2 := hr2.below hbW2
    have hw1s := hb1.size
    have hres2 : HdRes w.heap.size W2 := (ho2.below hbW2).keep (by omega) (by rw [hbW1.block _ (by omega)]; exact hres1)
    have hb02 : Below w.heap.size w W2 := by
      have h1 : Oth w1.heap.size w1 W2 := (oth_of_below (pb := w1.heap.size) hbW1).trans (ho2.below hbW2)
      have h2 := h1.toBelow (Nat.le_refl _)
      exact hb01.trans (h2.mono (by omega))
    have hs2 : Sl (SP (w.heap.size + 1)) W2 a f.t := (hsl2.below hbW2).weaken (fun _ _ => sp_le (by have := hbW1.size; omega))
    clear hrd hown hr2
    obtain ⟨ra, rcap, hat⟩ := hrW2
    have r0 := hat.c0
    have r1 := hat.c1
    have hrl := hat.len
    clear hat
    obtain ⟨x0, x1, x2⟩ := cells_of hbx
    have r0w := r0
    have r1w := r1
    rw [hW2] at r0w r1w
    obtain ⟨z0, z1, z2⟩ := cells_of hres2
    have vz := fun o => frozen_of (o := o) hres2
    have z0w := z0
    have z1w := z1
    have z2w := z2
    have vzw := vz
    have x0w := x0
    have x1w := x1
    have x2w := x2
    rw [hW2] at z0w z1w z2w vzw x0w x1w x2w
    have HG := Lib.hid (hg2.2 rfl)
    clear hg2
    cases b2 with
    | true =>
      have HP1 : Hid (parseOf s = (zeroF, 11)) := by
        refine Lib.hid ?_
        rw [HP.out]
        have hg := HG.out
        cases hrt : readT (s.size + 1) ts with
        | none => rfl
        | some p => rw [hrt] at hg; cases hg.1
      go_wp2_with fail
      rw [← hW2]
      refine bodyPost_ret (v := .tuple #[F.val zeroF none 0, .int .i64 11]) (res23 (f := zeroF) (a := none) (cap := 0) hres2 rfl rfl) rfl ?_
      rw [HR1.out]
      exact pr_fin HP1.out hb02 hres2 (sl_nil _ _)
    | false =>
      obtain ⟨g, hrt, hfg⟩ : ∃ g, readT (s.size + 1) ts = some (g, ts2) ∧ f.cap = g := by
        have hg := HG.out
        cases hrt : readT (s.size + 1) ts with
        | none => rw [hrt] at hg; cases hg
        | some p => rw [hrt] at hg; exact ⟨p.1, by rw [hg.2.2], hg.2.1⟩
      rw [hrt] at HP
      subst hfg
      have HRT := Lib.hid hrt
      clear hrt HG
      cases ts2 with
      | cons u r =>
        have HP1 := Lib.hid (show parseOf s = (zeroF, 11) from HP.out)
        simp only [List.length_cons] at r0 r0w hrl
        go_wp2_with fail
        rw [← hW2]
        refine bodyPost_ret (v := .tuple #[F.val zeroF none 0, .int .i64 11]) (res23 (f := zeroF) (a := none) (cap := 0) hres2 rfl rfl) rfl ?_
        rw [HR1.out]
        exact pr_fin HP1.out hb02 hres2 (sl_nil _ _)
      | nil =>
        simp only [List.length_nil] at r0 r0w
        cases hv : valid f.k f.n f.t with
        | true =>
          have HP1 := Lib.hid (show parseOf s = (f, 0) by rw [HP.out]; simp only [if_true, valid_cap, hv]; rw [cap_id hv])
          have HI := Lib.hid (fun u (hu : Sl (SP (w.heap.size + 1)) u a f.t) => show Calls Tryd.prog 27 _ u fun e w' => e = .returned (.bool true) ∧ Below u.heap.size u w' by rw [← hv]; exact is_any _ f.t f.k f.n a cap u hu)
          clear hv
          go_wp2_with fail
          rw [← hW2]
          clear hW2 x0w x1w x2w z0w z1w z2w r0w r1w vzw
          refine (HI.out W2 hs2).mono ?_
          rintro e w3 ⟨rfl, hb3⟩
          have hres3 : HdRes w.heap.size w3 := by unfold HdRes; rw [hb3.block _ (heap_lt hres2)]; exact hres2
          replace x0 := cell_below hb3 x0
          replace x1 := cell_below hb3 x1
          replace x2 := cell_below hb3 x2
          clear z0 z1 z2 vz
          obtain ⟨z0, z1, z2⟩ := cells_of hres3
          have vz := fun o => frozen_of (o := o) hres3
          go_wp2_with fail
          refine bodyPost_ret (v := .tuple #[f.val a cap, .int .i64 0]) (res23 (f := f) (a := a) (cap := cap) hres3 rfl rfl) rfl ?_
          rw [HR1.out]
          exact pr_fin HP1.out (hb02.trans (hb3.mono hb02.size)) hres3 (hs2.below hb3)
        | false =>
          have HP1 := Lib.hid (show parseOf s = (zeroF, 10) by rw [HP.out]; simp [valid_cap, hv])
          have HI := Lib.hid (fun u (hu : Sl (SP (w.heap.size + 1)) u a f.t) => show Calls Tryd.prog 27 _ u fun e w' => e = .returned (.bool false) ∧ Below u.heap.size u w' by rw [← hv]; exact is_any _ f.t f.k f.n a cap u hu)
          clear hv
          go_wp2_with fail
          rw [← hW2]
          clear hW2 x0w x1w x2w z0w z1w z2w r0w r1w vzw
          refine (HI.out W2 hs2).mono ?_
          rintro e w3 ⟨rfl, hb3⟩
          have hres3 : HdRes w.heap.size w3 := by unfold HdRes; rw [hb3.block _ (heap_lt hres2)]; exact hres2
          clear z0 z1 z2 vz
          obtain ⟨z0, z1, z2⟩ := cells_of hres3
          have vz := fun o => frozen_of (o := o) hres3
          go_wp2_with fail
          refine bodyPost_ret (v := .tuple #[F.val zeroF none 0, .int .i64 10]) (res23 (f := zeroF) (a := none) (cap := 0) hres3 rfl rfl) rfl ?_
          rw [HR1.out]
          exact pr_fin HP1.out (hb02.trans (hb3.mono hb02.size)) hres3 (sl_nil _ _)
end Go.Proofs.YtioimhnebjiicaaDoor
