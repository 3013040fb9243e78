/- Proved here: contracts of the walk to BisimGraphs: related at distributions; each under the conditions that its own statement names. -/
import Derived.Test.YtcekilcgpgjooaaGreatDoorG27
import Derived.Test.YtcekilcgpgjooaaGreatDoorG30
set_option maxRecDepth 100000
set_option maxHeartbeats 6400000
namespace Go.Proofs.YtcekilcgpgjooaaGreatDoor
open Go Go.RowKit
theorem flowP_mono {n m : Nat} {L R : Nat → Int} {Rel Rel' : Nat → Nat → Prop} (h : ∀ a b, Rel a b → Rel' a b) : FlowP n m L R Rel → FlowP n m L R Rel' :=
 fun ⟨mv, h0, h1, h2, h3⟩ => ⟨mv, h0, fun a b ha hb hn => h1 a b ha hb (fun hr => hn (h a b hr)), h2, h3⟩
theorem nodeRel_mono {P Q : Int → Int → Prop} (hPQ : ∀ x y, P x y → Q x y) {f : F} {n : Int} {len : Nat} {ws : List Int} {v : Int × V × List Int} {E E' : (Nat → F) → Nat → Int × V × List Int → Prop}
    (hE : ∀ gs i u, E gs i u → E' gs i u) : nodeRel P f n len ws v E → nodeRel Q f n len ws v E' := by
 unfold nodeRel
 split
 ·exact hPQ _ _
 split
 ·exact id
 split
 ·exact fun h => ⟨hE _ _ _ h.1, hE _ _ _ h.2⟩
 split
 ·exact fun h => ⟨h.1, hE _ _ _ h.2⟩
 split
 ·exact fun h a ha => hE _ _ _ (h a ha)
 split
 ·exact fun h => ⟨fun a ha => let ⟨b, hb, hr⟩ := h.1 a ha; ⟨b, hb, hE _ _ _ hr⟩, fun b hb => let ⟨a, ha, hr⟩ := h.2 b hb; ⟨a, ha, hE _ _ _ hr⟩⟩
 split
 ·exact flowP_mono (fun _ _ => hE _ _ _)
 ·exact flowP_mono (fun _ _ => hE _ _ _)
theorem relE_mono {P Q : Int → Int → Prop} (hPQ : ∀ x y, P x y → Q x y) : ∀ (t : V) (fs : Nat → F) (i : Nat) (v : Int × V × List Int), t.relE P fs i v → t.relE Q fs i v := by
 intro t
 induction t with
 | nil => intro fs i v h; exact h
 | cons n k ws r ihk ihr =>
  intro fs i v h
  cases i with
  | zero => exact nodeRel_mono hPQ (fun gs i u => ihk gs i u) h
  | succ i => exact ihr _ i v h
theorem relV_mono {P Q : Int → Int → Prop} (hPQ : ∀ x y, P x y → Q x y) {f : F} {u v : Int × V × List Int} (h : relV P f u v) : relV Q f u v :=
 nodeRel_mono hPQ (fun gs i x => relE_mono hPQ u.2.1 gs i x) h
theorem tells_mono {X Y : Nat → Nat → Bool} (h : Sub X Y) : ∀ x y, tells X x y → tells Y x y := fun _ _ hx => h _ _ hx
def RelOkT (t : V) : Prop := ∀ (B : Nat) (P : Nat → Prop) (I : (Nat → Nat → Bool) → World → Prop) (nn mm : Nat) (rel : Nat → Nat → Bool) (g : Nat) (lb : Array Value) (RB : F → Int × V × List Int → Int × V × List Int → Bool) (S : Nat → Nat → Prop) (S' : Nat → Prop)
 (f : F) (n n' : Int) (t' : V) (ws ws' : List Int) (a a1 a2 c1 c2 : Option Addr) (cap cap1 cap2 cp1 cp2 : Nat) (w : World) (X : Nat → Nat → Bool),
 AsksT B P I nn mm rel g lb → (∀ f u v, RB f u v = true ↔ relV (tells rel) f u v) → I X w → Sl S w a f.t → Vl S' w a1 t → Ints S' w c1 ws → Vl S' w a2 t' → Ints S' w c2 ws' → (∀ b o, S b o → ¬ P b) → (∀ b, S' b → ¬ P b) →
 f.good = true → okV nodeOk nn f n t ws = true → okV nodeOk mm f n' t' ws' = true →
 Calls Tryz.prog 56 #[f.val a cap, Vv n a1 t.len cap1 c1 ws.length cp1, Vv n' a2 t'.len cap2 c2 ws'.length cp2, .func (.func g) #[] lb] w fun e w' => e = .returned (.bool (RB f (n, t, ws) (n', t', ws'))) ∧ (∃ Y, Sub X Y ∧ (RB f (n, t, ws) (n', t', ws') = true → relV (tells Y) f (n, t, ws) (n', t', ws')) ∧ I Y w') ∧ Kept P w w'
def AsIsT (P : Nat → Prop) (I : (Nat → Nat → Bool) → World → Prop) (W : World) (X0 : Nat → Nat → Bool) (n m : Nat) (D : (Nat → Nat → Bool) → Nat → Nat → Prop) (X' : Nat → Nat → Bool) (x : World) : Prop :=
 ∃ X1, Sub X0 X1 ∧ I X1 x ∧ W.heap.size ≤ x.heap.size ∧ (∀ k, k < W.heap.size → ¬ P k → x.heap[k]? = W.heap[k]?) ∧ ∀ i j, X' i j = true → i < n ∧ j < m ∧ D X1 i j
abbrev elD (f0 : F) (t t' : V) (X : Nat → Nat → Bool) (i j : Nat) : Prop := relV (tells X) f0 (t.el i) (t'.el j)
theorem elD_mono {f0 : F} {t t' : V} {X Y : Nat → Nat → Bool} {i j : Nat} (hs : Sub X Y) (h : elD f0 t t' X i j) : elD f0 t t' Y i j := relV_mono (tells_mono hs) h
theorem flowP_of {n m : Nat} {L R : Nat → Int} {Y : Nat → Nat → Bool} {Rel : Nat → Nat → Prop} (h : Flow n m L R Y) (hY : ∀ a b, Y a b = true → Rel a b) : FlowP n m L R Rel := by
 obtain ⟨mv, h0, h1, h2, h3⟩ := h
 exact ⟨mv, h0, fun a b _ _ hn => h1 a b (by cases e : Y a b; · rfl
                                             ·exact absurd (hY a b e) hn), h2, h3⟩
theorem rel4_of {P : Int → Int → Prop} {fn : Int} {ft : T} {n n' : Int} {t t' : V} {ws ws' : List Int} (hl : (t.len : Int) = fn) (h : ∀ i, i < t.len → relV P (ft.get 0) (t.el i) (t'.el i)) : relV P ⟨4, fn, ft⟩ (n, t, ws) (n', t', ws') := by
 have h1 : relV P ⟨4, fn, ft⟩ (n, t, ws) (n', t', ws') = (∀ i, i < fn.toNat → t.relE P (fun _ => ft.get 0) i (t'.el i)) := by
  unfold relV nodeRel
  simp
 rw [h1, show fn.toNat = t.len by omega]
 exact fun i hi => (relE_el (fun _ => ft.get 0) (t'.el i) hi).2 (h i hi)
theorem rel5_of {P : Int → Int → Prop} {fn : Int} {ft : T} {n n' : Int} {t t' : V} {ws ws' : List Int} (h : (∀ i, i < t.len → ∃ j, j < t'.len ∧ relV P (ft.get 0) (t.el i) (t'.el j)) ∧ ∀ j, j < t'.len → ∃ i, i < t.len ∧ relV P (ft.get 0) (t.el i) (t'.el j)) :
    relV P ⟨5, fn, ft⟩ (n, t, ws) (n', t', ws') := by
 have h1 : relV P ⟨5, fn, ft⟩ (n, t, ws) (n', t', ws') = ((∀ i, i < t.len → ∃ j, j < t'.len ∧ t.relE P (fun _ => ft.get 0) i (t'.el j)) ∧ ∀ j, j < t'.len → ∃ i, i < t.len ∧ t.relE P (fun _ => ft.get 0) i (t'.el j)) := by
  unfold relV nodeRel
  simp
 rw [h1]
 exact ⟨fun i hi => let ⟨j, hj, hr⟩ := h.1 i hi; ⟨j, hj, (relE_el (fun _ => ft.get 0) (t'.el j) hi).2 hr⟩, fun j hj => let ⟨i, hi, hr⟩ := h.2 j hj; ⟨i, hi, (relE_el (fun _ => ft.get 0) (t'.el j) hi).2 hr⟩⟩
theorem rel6_of {P : Int → Int → Prop} {fn : Int} {ft : T} {n n' : Int} {t t' : V} {ws ws' : List Int} (h : FlowP t.len t'.len (fun a => getW ws a * 1) (fun b => getW ws' b * 1) (fun a b => a < t.len ∧ relV P (ft.get 0) (t.el a) (t'.el b))) :
    relV P ⟨6, fn, ft⟩ (n, t, ws) (n', t', ws') := by
 have h1 : relV P ⟨6, fn, ft⟩ (n, t, ws) (n', t', ws') = FlowP t.len t'.len (fun a => getW ws a * 1) (fun b => getW ws' b * 1) (fun a b => t.relE P (fun _ => ft.get 0) a (t'.el b)) := by
  unfold relV nodeRel
  simp
 rw [h1]
 exact flowP_mono (fun a b hr => (relE_el (fun _ => ft.get 0) (t'.el b) hr.1).2 hr.2) h
theorem rel7_of {P : Int → Int → Prop} {fn : Int} {ft : T} {n n' : Int} {t t' : V} {ws ws' : List Int} (h : FlowP t.len t'.len (fun a => getW ws a * sumN (getW ws') ws'.length) (fun b => getW ws' b * sumN (getW ws) ws.length) (fun a b => a < t.len ∧ relV P (ft.get 0) (t.el a) (t'.el b))) :
    relV P ⟨7, fn, ft⟩ (n, t, ws) (n', t', ws') := by
 have h1 : relV P ⟨7, fn, ft⟩ (n, t, ws) (n', t', ws') = FlowP t.len t'.len (fun a => getW ws a * sumN (getW ws') ws'.length) (fun b => getW ws' b * sumN (getW ws) ws.length) (fun a b => t.relE P (fun _ => ft.get 0) a (t'.el b)) := by
  unfold relV nodeRel
  simp
 rw [h1]
 exact flowP_mono (fun a b hr => (relE_el (fun _ => ft.get 0) (t'.el b) hr.1).2 hr.2) h
end Go.Proofs.YtcekilcgpgjooaaGreatDoor
namespace Go.Proofs.YtcekilcgpgjooaaGreatDoor
open Go Go.RowKit
open Go.Lib (hid)
theorem decide_anyT {t : V} (ih : t.Elems RelOkT) {B : Nat} {P : Nat → Prop} {I : (Nat → Nat → Bool) → World → Prop} {X0 : Nat → Nat → Bool} {nn mm : Nat} {rel : Nat → Nat → Bool} {g : Nat} {lb : Array Value} {RB : F → Int × V × List Int → Int × V × List Int → Bool} {S : Nat → Nat → Prop} {S' : Nat → Prop}
    {f : F} {n n' : Int} {t' : V} {ws ws' : List Int} {a a1 a2 c1 c2 : Option Addr} {cap cap1 cap2 cp1 cp2 : Nat} {W : World} {bf : Nat}
    (hA : AsksT B P I nn mm rel g lb) (hRB : ∀ f u v, RB f u v = true ↔ relV (tells rel) f u v) (hI : I X0 W) (hs : Sl S W a f.t) (hv : Vl S' W a1 t) (hv' : Vl S' W a2 t') (hSP : ∀ b o, S b o → ¬ P b) (hSP' : ∀ b, S' b → ¬ P b)
    (hg : f.good = true) (hu : okV nodeOk nn f n t ws = true) (hu' : okV nodeOk mm f n' t' ws' = true) (hk : 4 ≤ f.k) (hx : Boxes bf f n n' t t' ws ws' a a1 a2 c1 c2 cap cap1 cap2 cp1 cp2 g lb W) (hbf : B ≤ bf) (hfl : 0 < f.t.len) :
    AsksT W.heap.size P (AsIsT P I W X0 t.len t'.len (elD (f.t.get 0) t t')) t.len t'.len (fun i j => RB (f.t.get 0) (t.el i) (t'.el j)) 96 (Boxes.lb bf) := by
 refine ⟨enters_of Tryz.func96 (by kernel_rfl) rfl, ?_, fun _ x ⟨_, _, _, h, _⟩ => h, ?_, fun X1 X2 x hs ⟨Z, h1, h2, h3, h4, h5⟩ => ⟨Z, h1, h2, h3, h4, fun i j h => h5 i j (hs i j h)⟩, fun X1 x ⟨Z, h1, h2, h3, h4, h5⟩ i j h => (hRB _ _ _).2 (relV_mono (tells_mono (hA.le Z x h2)) (h5 i j h).2.2), ?_⟩
 ·intro k hp
  have := hA.pb k hp
  have := hA.lt X0 W hI
  omega
 ·intro X' x x' ⟨Z, z1, h1, h2, h3, h5⟩ hb
  have h4 := hb.size
  exact ⟨Z, z1, hA.same _ _ _ h1 (hb.mono (hA.lt X0 W hI)), by omega, fun k hk hp => (hb.block k hk).trans (h3 k hk hp), h5⟩
 intro X' i j x hi hj ⟨Z, hz, hIx, hsz, hkx, htk⟩
 have HZ := hid hz
 have HTK := hid htk
 have HIJ := hid (And.intro hi hj)
 have hKX : ∀ k o, W.heap[k]? = some o → ¬ P k → x.heap[k]? = some o := fun k o h hp => by rw [hkx k (heap_lt h) hp]; exact h
 have hPb : ∀ k, bf ≤ k → ¬ P k := fun k hk hp => by have := hA.pb k hp; omega
 have hpart : f.part n i = f.t.get 0 := by unfold F.part; rw [if_neg (by omega), if_neg (by omega)]
 have hpart' : f.part n' j = f.t.get 0 := by unfold F.part; rw [if_neg (by omega), if_neg (by omega)]
 have hsx : Sl S x a f.t := by
  refine ⟨hs.1, ?_⟩
  have h2 := hs.2
  cases a with
  | none => exact h2
  | some p => exact ⟨h2.1, T.At.mono (fun _ _ h => h) (fun b o hb hlt => hkx b hlt (hSP b o hb)) h2.2⟩
 have hvx : Vl S' x a1 t := hv.mono (fun _ h => h) (fun b hb hlt => hkx b hlt (hSP' b hb))
 have hvx' : Vl S' x a2 t' := hv'.mono (fun _ h => h) (fun b hb hlt => hkx b hlt (hSP' b hb))
 obtain ⟨fb, fo, fa, fc, rfl, hfb, f0, f1, f2, hfs⟩ := hsx.at hfl
 obtain ⟨ub, uo, ua, uc, uw, uwc, rfl, hub, u0, u1, u2, hus, hui⟩ := hvx.el hi
 obtain ⟨vb, vo, va, vc, vw, vwc, rfl, hvb, v0, v1, v2, hvs, hvi⟩ := hvx'.el hj
 have IH : RelOkT (t.el i).2.1 := by
  obtain ⟨n1, k1, ws1, r1, hd, _⟩ := V.drop_lt hi
  rw [V.el_drop hd]
  exact ih i n1 k1 ws1 r1 hd
 have oku := ok_el hu hi
 have okv := ok_el hu' hj
 rw [hpart] at oku
 rw [hpart'] at okv
 have hgp : (f.t.get 0).good = true := by
  rw [← hpart]; exact good_part hg (okV_fields hu) hi
 obtain ⟨b0, b1, b2⟩ := cells_of (hKX _ _ hx.f (hPb _ (by omega)))
 obtain ⟨b3, b4, b5⟩ := cells_of (hKX _ _ hx.u (hPb _ (by omega)))
 obtain ⟨b6, b7, b8⟩ := cells_of (hKX _ _ hx.v (hPb _ (by omega)))
 have b9 := cell_of1 (hKX _ _ hx.i (hPb _ (by omega)))
 rw [show fo + 3 * 0 = fo by omega] at f0 f1 f2
 obtain ⟨gk, hgk⟩ : ∃ gk : F, gk = f.t.get 0 := ⟨_, rfl⟩
 rw [← hgk] at f0 f1 f2 hfs oku okv hgp
 obtain ⟨nu, hnu⟩ : ∃ nu, nu = (t.el i).1 := ⟨_, rfl⟩
 obtain ⟨ku, hku⟩ : ∃ ku, ku = (t.el i).2.1 := ⟨_, rfl⟩
 obtain ⟨wu, hwu⟩ : ∃ wu, wu = (t.el i).2.2 := ⟨_, rfl⟩
 obtain ⟨nv, hnv⟩ : ∃ nv, nv = (t'.el j).1 := ⟨_, rfl⟩
 obtain ⟨kv, hkv⟩ : ∃ kv, kv = (t'.el j).2.1 := ⟨_, rfl⟩
 obtain ⟨wv, hwv⟩ : ∃ wv, wv = (t'.el j).2.2 := ⟨_, rfl⟩
 have eu : t.el i = (nu, ku, wu) := by rw [hnu, hku, hwu]
 have ev : t'.el j = (nv, kv, wv) := by rw [hnv, hkv, hwv]
 rw [← hnu] at u0 oku
 rw [← hku] at u1 hus oku IH
 rw [← hwu] at u2 hui oku
 rw [← hnv] at v0 okv
 rw [← hkv] at v1 hvs okv
 rw [← hwv] at v2 hvi okv
 clear hnu hku hwu hnv hkv hwv
 obtain ⟨RR, hRR⟩ : ∃ RR, RR = RB (f.t.get 0) (t.el i) (t'.el j) := ⟨_, rfl⟩
 have HDD := hid (show ∀ Y, relV (tells Y) gk (nu, ku, wu) (nv, kv, wv) → elD (f.t.get 0) t t' Y i j from fun Y h => by rw [← eu, ← ev, hgk] at h; exact h)
 have hRR2 : RR = RB gk (nu, ku, wu) (nv, kv, wv) := by rw [hRR, ← hgk, eu, ev]
 rw [← hRR]
 have HCL := hid (fun y (hk : Kept P x y) (hIy : I Z y) => IH B P I nn mm rel g lb RB S S' gk nu nv kv wu wv fa ua va uw vw fc uc vc uwc vwc y Z hA hRB hIy (hfs.keptP hk hSP) (hus.keptP hk hSP') (hui.keptP hk hSP') (hvs.keptP hk hSP') (hvi.keptP hk hSP') hSP hSP' hgp oku okv)
 rw [← hRR2] at HCL
 clear hRR hRR2 hz htk
 have HA := hid hA
 have HKX := hid hkx
 have HSZ := hid hsz
 have HIX := hid hIx
 have HNP := hid (show ¬ P bf ∧ ¬ P (bf + 1) ∧ ¬ P (bf + 2) ∧ ¬ P (bf + 3) from ⟨hPb _ (by omega), hPb _ (by omega), hPb _ (by omega), hPb _ (by omega)⟩)
 have HNQ := hid (show ¬ P fb ∧ ¬ P ub ∧ ¬ P vb from ⟨hSP _ _ hfb, hSP' _ hub, hSP' _ hvb⟩)
 have hlt1 := hs.1
 have hlt2 := hv.1
 have hlt3 := hv'.1
 clear hA hRB hI hs hv hv' hSP hSP' hg hu hu' hx hkx hsz hIx hKX hPb hpart hpart' hsx hvx hvx' hfs hus hui hvs hvi IH oku okv hgp ih eu ev hgk hfb hub hvb
 simp only [Boxes.lb]
 go_enter Tryz.func96, Tryz.ntmps96
 go_wp2_with fail
 go_region_held3 (fun x : World => x.cell? ⟨bf, 2, none⟩ = some (.slice (some ⟨fb, fo, none⟩) f.t.len cap) ∧ x.cell? ⟨bf + 1, 1, none⟩ = some (.slice (some ⟨ub, uo, none⟩) t.len cap1) ∧ x.cell? ⟨bf + 2, 1, none⟩ = some (.slice (some ⟨vb, vo, none⟩) t'.len cap2) ∧ x.cell? ⟨bf + 3, 0, none⟩ = some (.func (.func g) #[] lb) ∧ x.cell? ⟨fb, fo, none⟩ = some (.int .i64 gk.k) ∧ x.cell? ⟨fb, fo + 1, none⟩ = some (.int .i64 gk.n) ∧ x.cell? ⟨fb, fo + 2, none⟩ = some (.slice fa gk.t.len fc) ∧ x.cell? ⟨ub, uo + i * 3, none⟩ = some (.int .i64 nu) ∧ x.cell? ⟨ub, uo + i * 3 + 1, none⟩ = some (.slice ua ku.len uc) ∧ x.cell? ⟨ub, uo + i * 3 + 2, none⟩ = some (.slice uw wu.length uwc) ∧ x.cell? ⟨vb, vo + j * 3, none⟩ = some (.int .i64 nv) ∧ x.cell? ⟨vb, vo + j * 3 + 1, none⟩ = some (.slice va kv.len vc) ∧ x.cell? ⟨vb, vo + j * 3 + 2, none⟩ = some (.slice vw wv.length vwc)) (first | exact ⟨b2, b4, b7, b9, f0, f1, f2, u0, u1, u2, v0, v1, v2⟩ | exact ⟨yb2, yb4, yb7, yb9, yf0, yf1, yf2, yu0, yu1, yu2, yv0, yv1, yv2⟩ | fail) (first | (go_at_call 56; refine (HCL.out _ ((Kept.refl _ _).drewN) (HA.out.drewN HIX.out)).mono ?_; rintro e w2 ⟨rfl, ⟨Y2, hs2, ht2, hI2⟩, hk2⟩; have HS2 := hid hs2; have HT2 := hid ht2; have yb2 := hk2.cell HNP.out.1 b2; have yb4 := hk2.cell HNP.out.2.1 b4; have yb7 := hk2.cell HNP.out.2.2.1 b7; have yb9 := hk2.cell HNP.out.2.2.2 b9; have yf0 := hk2.cell HNQ.out.1 f0; have yf1 := hk2.cell HNQ.out.1 f1; have yf2 := hk2.cell HNQ.out.1 f2; have yu0 := hk2.cell HNQ.out.2.1 u0; have yu1 := hk2.cell HNQ.out.2.1 u1; have yu2 := hk2.cell HNQ.out.2.1 u2; have yv0 := hk2.cell HNQ.out.2.2 v0; have yv1 := hk2.cell HNQ.out.2.2 v1; have yv2 := hk2.cell HNQ.out.2.2 v2; have HI2 := hid hI2; have HK2 := hid hk2; clear hI2 hk2 hs2 ht2))
 go_wp2_with fail
 go_ret
 have hkk : Kept P x w2 := (Kept.refl P x).drewN.trans HK2.out
 refine ⟨rfl, ⟨fun p q => X' p q || (decide (p = i ∧ q = j) && RR), fun p q h => by simp [h], fun h => by simp [h], Y2, HZ.out.trans HS2.out, HI2.out, Nat.le_trans HSZ.out hkk.size, fun k hk hp => (hkk.block k (Nat.lt_of_lt_of_le hk HSZ.out) hp).trans (HKX.out k hk hp), fun p q h => ?_⟩, hkk⟩
 simp only [Bool.or_eq_true, Bool.and_eq_true, decide_eq_true_eq] at h
 rcases h with h | ⟨⟨rfl, rfl⟩, h⟩
 ·obtain ⟨h1, h2, h3⟩ := HTK.out p q h
  exact ⟨h1, h2, elD_mono HS2.out h3⟩
 ·exact ⟨HIJ.out.1, HIJ.out.2, HDD.out _ (HT2.out h)⟩
theorem rel7_anyT {t : V} (ih : t.Elems RelOkT) {B : Nat} {P : Nat → Prop} {I : (Nat → Nat → Bool) → World → Prop} {X : Nat → Nat → Bool} {nn mm : Nat} {rel : Nat → Nat → Bool} {g : Nat} {lb : Array Value} {RB : F → Int × V × List Int → Int × V × List Int → Bool} {S : Nat → Nat → Prop} {S' : Nat → Prop}
    {fn : Int} {ft : T} {n n' : Int} {t' : V} {ws ws' : List Int} {a a1 a2 c1 c2 : Option Addr} {cap cap1 cap2 cp1 cp2 : Nat} {w : World}
    (hA : AsksT B P I nn mm rel g lb) (hRB : ∀ f u v, RB f u v = true ↔ relV (tells rel) f u v) (hI : I X w) (hs : Sl S w a ft) (hv : Vl S' w a1 t) (hi : Ints S' w c1 ws) (hv' : Vl S' w a2 t') (hi' : Ints S' w c2 ws') (hSP : ∀ b o, S b o → ¬ P b) (hSP' : ∀ b, S' b → ¬ P b)
    (hg : F.good ⟨7, fn, ft⟩ = true) (hu : okV nodeOk nn ⟨7, fn, ft⟩ n t ws = true) (hu' : okV nodeOk mm ⟨7, fn, ft⟩ n' t' ws' = true) :
    Calls Tryz.prog 56 #[F.val ⟨7, fn, ft⟩ a cap, Vv n a1 t.len cap1 c1 ws.length cp1, Vv n' a2 t'.len cap2 c2 ws'.length cp2, .func (.func g) #[] lb] w fun e w' => e = .returned (.bool (RB ⟨7, fn, ft⟩ (n, t, ws) (n', t', ws'))) ∧ (∃ Y, Sub X Y ∧ (RB ⟨7, fn, ft⟩ (n, t, ws) (n', t', ws') = true → relV (tells Y) ⟨7, fn, ft⟩ (n, t, ws) (n', t', ws')) ∧ I Y w') ∧ Kept P w w' := by
 obtain ⟨W, hW⟩ : ∃ W : World, W = (((w.alloc (Obj.cells #[.int .i64 7, .int .i64 fn, .slice a ft.len cap] 24)).alloc (Obj.cells #[.int .i64 n, .slice a1 t.len cap1, .slice c1 ws.length cp1] 58)).alloc (Obj.cells #[.int .i64 n', .slice a2 t'.len cap2, .slice c2 ws'.length cp2] 58)).alloc (Obj.cells #[.func (.func g) #[] lb] 94) := ⟨_, rfl⟩
 have hx : Boxes w.heap.size ⟨7, fn, ft⟩ n n' t t' ws ws' a a1 a2 c1 c2 cap cap1 cap2 cp1 cp2 g lb W := boxes_made w hW
 have hWb : Below w.heap.size w W := by rw [hW]; exact (ba2 _ _ _).alloc (by simp; omega) _ |>.alloc (by simp; omega) _
 have hB := hA.lt X w hI
 have hIW : I X W := hA.same _ _ _ hI (hWb.mono hB)
 have hfl : 0 < ft.len := by
  have := (F.good_len hg).1
  simp only [arityOf] at this
  omega
 have hDA := decide_anyT ih hA hRB hIW (hs.below hWb) (hv.below hWb) (hv'.below hWb) hSP hSP' hg hu hu' (by simp only; omega) hx hB hfl
 have hw1 := wts_of hu (Or.inr rfl)
 have hw2 := wts_of hu' (Or.inr rfl)
 have hm1 := hw1.many
 have hm2 := hw2.many
 have hAI : AsIsT P I W X t.len t'.len (elD (ft.get 0) t t') (fun _ _ => false) W := ⟨X, Sub.refl _, hIW, Nat.le_refl _, fun _ _ _ => rfl, fun _ _ h => by cases h⟩
 have HRM := hid (remembered_anyT hDA (by omega) (by omega) W _ hAI)
 obtain ⟨bf, hbf⟩ : ∃ bf, bf = w.heap.size := ⟨_, rfl⟩
 rw [← hbf] at hx
 rw [← hbf] at HRM
 have HXB := hid hx
 have HI1 := hid (fun x (hb : Below w.heap.size w x) => hi.below hb)
 have HI2 := hid (fun x (hb : Below w.heap.size w x) => hi'.below hb)
 have HWB := hid hWb
 have HBF := hid hbf
 have HW1 := hid hw1
 have HW2 := hid hw2
 have HA := hid hA
 have HRB := hid (hRB ⟨7, fn, ft⟩ (n, t, ws) (n', t', ws'))
 have HRE := hid (fun i j => hRB (ft.get 0) (t.el i) (t'.el j))
 have HBB := hid hB
 have hlt2 := hv.1
 have hlt3 := hv'.1
 have hwl1 : ws.length ≤ 100 := by have := hw1.ln; omega
 have hwl2 : ws'.length ≤ 100 := by have := hw2.ln; omega
 have hnP : ∀ k, bf ≤ k → ¬ P k := fun k hk hp => by have := hA.pb k hp; omega
 have HNP := hid hnP
 obtain ⟨b0, b1, b2⟩ := cells_of hx.f
 obtain ⟨b3, b4, b5⟩ := cells_of hx.u
 obtain ⟨b6, b7, b8⟩ := cells_of hx.v
 simp only at b0 b1 b2
 clear hA hRB hI hs hv hi hv' hi' hSP hSP' hg hu hu' hx hWb hB hIW hfl hDA hw1 hw2 hAI ih hnP
 go_enter Tryz.func56, Tryz.ntmps56
 go_wp2_with fail
 rw [← hW, ← hbf]
 clear hW hbf
 refine HRM.out.mono ?_
 rintro e w1 ⟨lb1, P1, I1, rfl, hA1, hI1, hb1, hP1, hIm⟩
 have HA1 := hid hA1
 have HI11 := hid hI1
 have HB1 := hid hb1
 have HP1 := hid hP1
 have HIM := hid hIm
 have d0 := cell_below hb1 b0
 have d5 := cell_below hb1 b5
 have d8 := cell_below hb1 b8
 clear b0 b1 b2 b3 b4 b5 b6 b7 b8 hA1 hI1 hb1 hP1 hIm HRM
 go_wp2_with fail
 obtain ⟨su, hsu⟩ : ∃ su, su = sumN (getW ws) ws.length := ⟨_, rfl⟩
 obtain ⟨sv, hsv⟩ : ∃ sv, sv = sumN (getW ws') ws'.length := ⟨_, rfl⟩
 have hsub : 0 ≤ su ∧ su ≤ 1048576 := by rw [hsu]; exact ⟨sumN_nonneg _ HW1.out.nn, HW1.out.sum⟩
 have hsvb : 0 ≤ sv ∧ sv ≤ 1048576 := by rw [hsv]; exact ⟨sumN_nonneg _ HW2.out.nn, HW2.out.sum⟩
 have hww : Below w.heap.size w w1 := HWB.out.trans (HB1.out.mono HWB.out.size)
 have HXW := hid (fun x (hb : Below w1.heap.size w1 x) => (hww.trans (hb.mono hww.size) : Below w.heap.size w x))
 have HSU := hid (fun x (hb : Below w1.heap.size w1 x) => (show Calls Tryz.prog 101 #[.slice c1 ws.length cp1] x (fun e x' => e = .returned (.int .i64 su) ∧ x' = x) by rw [hsu]; exact sumInt_any S' c1 cp1 ws x (HI1.out x (HXW.out x hb)) HW1.out.nn (by have := HW1.out.sum; omega) (by omega)))
 have HSV := hid (fun x (hb : Below w1.heap.size w1 x) => (show Calls Tryz.prog 101 #[.slice c2 ws'.length cp2] x (fun e x' => e = .returned (.int .i64 sv) ∧ x' = x) by rw [hsv]; exact sumInt_any S' c2 cp2 ws' x (HI2.out x (HXW.out x hb)) HW2.out.nn (by have := HW2.out.sum; omega) (by omega)))
 have hpu : ∀ i, i < ws.length → 0 ≤ getW ws i * sv ∧ getW ws i * sv ≤ 1099511627776 := fun i hi => by
  have h1 := HW1.out.nn i hi
  have h2 : getW ws i ≤ 1048576 := by have := sumN_elem HW1.out.nn hi; have := HW1.out.sum; omega
  refine ⟨Int.mul_nonneg h1 hsvb.1, ?_⟩
  exact Int.le_trans (Int.mul_le_mul h2 hsvb.2 hsvb.1 (by omega)) (by omega)
 have hpv : ∀ i, i < ws'.length → 0 ≤ getW ws' i * su ∧ getW ws' i * su ≤ 1099511627776 := fun i hi => by
  have h1 := HW2.out.nn i hi
  have h2 : getW ws' i ≤ 1048576 := by have := sumN_elem HW2.out.nn hi; have := HW2.out.sum; omega
  refine ⟨Int.mul_nonneg h1 hsub.1, ?_⟩
  exact Int.le_trans (Int.mul_le_mul h2 hsub.2 hsub.1 (by omega)) (by omega)
 have hsum1 : sumN (fun i => getW ws i * sv) ws.length ≤ 1152921504606846976 := by
  rw [sumN_mul, ← hsu]
  exact Int.le_trans (Int.mul_le_mul hsub.2 hsvb.2 hsvb.1 (by omega)) (by omega)
 have hsum2 : sumN (fun i => getW ws' i * su) ws'.length ≤ 1152921504606846976 := by
  rw [sumN_mul, ← hsv]
  exact Int.le_trans (Int.mul_le_mul hsvb.2 hsub.2 hsub.1 (by omega)) (by omega)
 have HTU := hid (fun x (hb : Below w1.heap.size w1 x) => (timesW_any S' c1 cp1 ws sv x (HI1.out x (HXW.out x hb)) (fun i hi => ⟨(hpu i hi).1, by have := (hpu i hi).2; omega⟩) (by omega)).mono (show ∀ e x', _ → ∃ l : Nat, e = .returned (.slice (some ⟨l, 0, none⟩) ws.length ws.length) ∧ x.heap.size ≤ l ∧ x'.rowIs l 2 ws.length (fun i => .int .i64 (getW ws i * sv)) ∧ Below x.heap.size x x' from fun e x' h => ⟨_, h.1, Nat.le_refl _, h.2.1, h.2.2.1⟩))
 have HTV := hid (fun x (hb : Below w1.heap.size w1 x) => (timesW_any S' c2 cp2 ws' su x (HI2.out x (HXW.out x hb)) (fun i hi => ⟨(hpv i hi).1, by have := (hpv i hi).2; omega⟩) (by omega)).mono (show ∀ e x', _ → ∃ l : Nat, e = .returned (.slice (some ⟨l, 0, none⟩) ws'.length ws'.length) ∧ x.heap.size ≤ l ∧ x'.rowIs l 2 ws'.length (fun i => .int .i64 (getW ws' i * su)) ∧ Below x.heap.size x x' from fun e x' h => ⟨_, h.1, Nat.le_refl _, h.2.1, h.2.2.1⟩))
 have HIFF := hid (show Flow ws.length ws'.length (fun i => getW ws i * sv) (fun i => getW ws' i * su) (fun i j => RB (ft.get 0) (t.el i) (t'.el j)) ↔ RB ⟨7, fn, ft⟩ (n, t, ws) (n', t', ws') = true by
  rw [HRB.out, HW1.out.ln, HW2.out.ln, hsu, hsv]
  have h1 : relV (tells rel) ⟨7, fn, ft⟩ (n, t, ws) (n', t', ws') = FlowP t.len t'.len (fun a => getW ws a * sumN (getW ws') ws'.length) (fun b => getW ws' b * sumN (getW ws) ws.length) (fun a b => t.relE (tells rel) (fun _ => ft.get 0) a (t'.el b)) := by
   unfold relV nodeRel
   simp
  rw [h1]
  exact flowP_iff (fun i j hi hj => (HRE.out i j).trans (relE_el (fun _ => ft.get 0) (t'.el j) hi).symm))
 have HA2 := hid (show AsksT w1.heap.size P1 I1 ws.length ws'.length (fun i j => RB (ft.get 0) (t.el i) (t'.el j)) 131 lb1 by rw [HW1.out.ln, HW2.out.ln]; exact HA1.out)
 have HCM := hid (fun x l r (hb : Below w1.heap.size w1 x) (hl : w1.heap.size ≤ l) (hr : w1.heap.size ≤ r) (hne : l ≠ r) (hl' : x.rowIs l 2 ws.length (fun i => .int .i64 (getW ws i * sv))) (hr' : x.rowIs r 2 ws'.length (fun i => .int .i64 (getW ws' i * su))) =>
  (can_anyT ws.length ws'.length l r HA2.out (by omega) (by omega) (fun a ha => (hpu a ha).1) (fun b hb => (hpv b hb).1) hsum1 hsum2 hl hr hne x _ (HA2.out.same _ _ _ HI11.out hb) hl' hr').mono (show ∀ e x', _ → e = .returned (.bool (RB ⟨7, fn, ft⟩ (n, t, ws) (n', t', ws'))) ∧ (∃ Y, Sub X Y ∧ (RB ⟨7, fn, ft⟩ (n, t, ws) (n', t', ws') = true → relV (tells Y) ⟨7, fn, ft⟩ (n, t, ws) (n', t', ws')) ∧ I Y x') ∧ Kept P w x' ∧ x'.cell? ⟨bf + 1, 2, none⟩ = some (.slice c1 ws.length cp1) ∧ x'.cell? ⟨bf + 2, 2, none⟩ = some (.slice c2 ws'.length cp2) from by
   rintro e x' ⟨Y2, p, rfl, ⟨hp, hp2⟩, ⟨hI', _⟩, hk'⟩
   have hpe : p = RB ⟨7, fn, ft⟩ (n, t, ws) (n', t', ws') := by
    have h1 := hp.trans HIFF.out
    cases p <;> cases hq : RB ⟨7, fn, ft⟩ (n, t, ws) (n', t', ws') <;> simp_all
   obtain ⟨Z', hz, X1, x1, h1, h2, h3, h5⟩ := HIM.out Y2 x' hI'
   have hwx := HXW.out x hb
   refine ⟨by rw [hpe], ⟨X1, x1, fun h => rel7_of (by have h6 := flowP_of (hp2 (by rw [hpe]; exact h)) (Rel := fun a b => a < t.len ∧ relV (tells X1) (ft.get 0) (t.el a) (t'.el b)) (fun a b hr => ⟨(h5 a b (hz a b hr)).1, (h5 a b (hz a b hr)).2.2⟩); rw [HW1.out.ln, HW2.out.ln] at h6; rw [hsu, hsv] at h6; exact h6), h1⟩, ⟨hk'.os.trans hwx.os, hk'.tape.trans hwx.tape, hk'.output.trans hwx.output, Nat.le_trans hwx.size hk'.size, fun k hk hp => (h3 k (Nat.lt_of_lt_of_le hk HWB.out.size) hp).trans (HWB.out.block k hk)⟩, ?_, ?_⟩
   ·exact (cells_of (show x'.heap[bf + 1]? = _ from (h3 _ (heap_lt HXB.out.u) (HNP.out _ (by omega))).trans HXB.out.u)).2.2
   ·exact (cells_of (show x'.heap[bf + 2]? = _ from (h3 _ (heap_lt HXB.out.v) (HNP.out _ (by omega))).trans HXB.out.v)).2.2))
 have hbx : Below w1.heap.size w1 w1 := Below.refl _ _
 clear hsu hsv hpu hpv hsum1 hsum2 hww hsub hsvb HI1 HI2
 go_region_held3 (fun x : World => x.cell? ⟨bf + 1, 2, none⟩ = some (.slice c1 ws.length cp1) ∧ x.cell? ⟨bf + 2, 2, none⟩ = some (.slice c2 ws'.length cp2)) (first | exact ⟨d5, d8⟩ | fail) (first
  | (go_at_call 101; refine callAt (args' := #[.slice c1 ws.length cp1]) rfl ?_; refine (HSU.out _ (by first | exact hbx | exact belowN hbx)).mono ?_; rintro e x ⟨rfl, rfl⟩)
  | (go_at_call 101; refine callAt (args' := #[.slice c2 ws'.length cp2]) rfl ?_; refine (HSV.out _ (by first | exact hbx | exact belowN hbx)).mono ?_; rintro e x ⟨rfl, rfl⟩)
  | (go_at_call 100; refine callAt (args' := #[.slice c1 ws.length cp1, .int .i64 sv]) rfl ?_; refine (HTU.out _ (by first | exact hbx | exact belowN hbx)).mono ?_; rintro e x ⟨lu, rfl, hlu, ru, bu⟩; have hwu := Nat.le_trans hbx.size hlu; replace d5 := cell_below bu d5; replace d8 := cell_below bu d8; replace hbx := Below.trans (b := _) (by first | exact hbx | exact belowN hbx) (bu.mono hbx.size); (try replace rv := rv.of_block (bu.block _ rv.lt)); (try have hne := Ne.symm (Nat.ne_of_lt (Nat.lt_of_lt_of_le rv.lt hlu))))
  | (go_at_call 100; refine callAt (args' := #[.slice c2 ws'.length cp2, .int .i64 su]) rfl ?_; refine (HTV.out _ (by first | exact hbx | exact belowN hbx)).mono ?_; rintro e x ⟨lv, rfl, hlv, rv, bv⟩; have hwv := Nat.le_trans hbx.size hlv; (try have hne := Nat.ne_of_lt (Nat.lt_of_lt_of_le ru.lt hlv)); replace d5 := cell_below bv d5; replace d8 := cell_below bv d8; replace hbx := Below.trans (b := _) (by first | exact hbx | exact belowN hbx) (bv.mono hbx.size); (try replace ru := ru.of_block (bv.block _ ru.lt)))
  | (go_at_call 99; refine (HCM.out _ _ _ (by first | exact hbx | exact belowN hbx) hwu hwv hne ru rv).mono ?_; rintro e x ⟨rfl, hIz, hkz, e5, e8⟩; clear d5 d8; have d5 := e5; have d8 := e8; clear e5 e8; have HIZ := hid hIz; have HKZ := hid hkz; clear hIz hkz)
  | fail)
 all_goals (go_wp2_with fail; go_ret; exact ⟨rfl, HIZ.out, HKZ.out⟩)
theorem rel6_anyT {t : V} (ih : t.Elems RelOkT) {B : Nat} {P : Nat → Prop} {I : (Nat → Nat → Bool) → World → Prop} {X : Nat → Nat → Bool} {nn mm : Nat} {rel : Nat → Nat → Bool} {g : Nat} {lb : Array Value} {RB : F → Int × V × List Int → Int × V × List Int → Bool} {S : Nat → Nat → Prop} {S' : Nat → Prop}
    {fn : Int} {ft : T} {n n' : Int} {t' : V} {ws ws' : List Int} {a a1 a2 c1 c2 : Option Addr} {cap cap1 cap2 cp1 cp2 : Nat} {w : World}
    (hA : AsksT B P I nn mm rel g lb) (hRB : ∀ f u v, RB f u v = true ↔ relV (tells rel) f u v) (hI : I X w) (hs : Sl S w a ft) (hv : Vl S' w a1 t) (hi : Ints S' w c1 ws) (hv' : Vl S' w a2 t') (hi' : Ints S' w c2 ws') (hSP : ∀ b o, S b o → ¬ P b) (hSP' : ∀ b, S' b → ¬ P b)
    (hg : F.good ⟨6, fn, ft⟩ = true) (hu : okV nodeOk nn ⟨6, fn, ft⟩ n t ws = true) (hu' : okV nodeOk mm ⟨6, fn, ft⟩ n' t' ws' = true) :
    Calls Tryz.prog 56 #[F.val ⟨6, fn, ft⟩ a cap, Vv n a1 t.len cap1 c1 ws.length cp1, Vv n' a2 t'.len cap2 c2 ws'.length cp2, .func (.func g) #[] lb] w fun e w' => e = .returned (.bool (RB ⟨6, fn, ft⟩ (n, t, ws) (n', t', ws'))) ∧ (∃ Y, Sub X Y ∧ (RB ⟨6, fn, ft⟩ (n, t, ws) (n', t', ws') = true → relV (tells Y) ⟨6, fn, ft⟩ (n, t, ws) (n', t', ws')) ∧ I Y w') ∧ Kept P w w' := by
 obtain ⟨W, hW⟩ : ∃ W : World, W = (((w.alloc (Obj.cells #[.int .i64 6, .int .i64 fn, .slice a ft.len cap] 24)).alloc (Obj.cells #[.int .i64 n, .slice a1 t.len cap1, .slice c1 ws.length cp1] 58)).alloc (Obj.cells #[.int .i64 n', .slice a2 t'.len cap2, .slice c2 ws'.length cp2] 58)).alloc (Obj.cells #[.func (.func g) #[] lb] 94) := ⟨_, rfl⟩
 have hx : Boxes w.heap.size ⟨6, fn, ft⟩ n n' t t' ws ws' a a1 a2 c1 c2 cap cap1 cap2 cp1 cp2 g lb W := boxes_made w hW
 have hWb : Below w.heap.size w W := by rw [hW]; exact (ba2 _ _ _).alloc (by simp; omega) _ |>.alloc (by simp; omega) _
 have hB := hA.lt X w hI
 have hIW : I X W := hA.same _ _ _ hI (hWb.mono hB)
 have hfl : 0 < ft.len := by
  have := (F.good_len hg).1
  simp only [arityOf] at this
  omega
 have hDA := decide_anyT ih hA hRB hIW (hs.below hWb) (hv.below hWb) (hv'.below hWb) hSP hSP' hg hu hu' (by simp only; omega) hx hB hfl
 have hw1 := wts_of hu (Or.inl rfl)
 have hw2 := wts_of hu' (Or.inl rfl)
 have hm1 := hw1.many
 have hm2 := hw2.many
 have hAI : AsIsT P I W X t.len t'.len (elD (ft.get 0) t t') (fun _ _ => false) W := ⟨X, Sub.refl _, hIW, Nat.le_refl _, fun _ _ _ => rfl, fun _ _ h => by cases h⟩
 have HRM := hid (remembered_anyT hDA (by omega) (by omega) W _ hAI)
 obtain ⟨bf, hbf⟩ : ∃ bf, bf = w.heap.size := ⟨_, rfl⟩
 rw [← hbf] at hx
 rw [← hbf] at HRM
 have HXB := hid hx
 have HI1 := hid (fun x (hb : Below w.heap.size w x) => hi.below hb)
 have HI2 := hid (fun x (hb : Below w.heap.size w x) => hi'.below hb)
 have HWB := hid hWb
 have HBF := hid hbf
 have HW1 := hid hw1
 have HW2 := hid hw2
 have HA := hid hA
 have HRB := hid (hRB ⟨6, fn, ft⟩ (n, t, ws) (n', t', ws'))
 have HRE := hid (fun i j => hRB (ft.get 0) (t.el i) (t'.el j))
 have HBB := hid hB
 have hlt2 := hv.1
 have hlt3 := hv'.1
 have hwl1 : ws.length ≤ 100 := by have := hw1.ln; omega
 have hwl2 : ws'.length ≤ 100 := by have := hw2.ln; omega
 have hnP : ∀ k, bf ≤ k → ¬ P k := fun k hk hp => by have := hA.pb k hp; omega
 have HNP := hid hnP
 obtain ⟨b0, b1, b2⟩ := cells_of hx.f
 obtain ⟨b3, b4, b5⟩ := cells_of hx.u
 obtain ⟨b6, b7, b8⟩ := cells_of hx.v
 simp only at b0 b1 b2
 clear hA hRB hI hs hv hi hv' hi' hSP hSP' hg hu hu' hx hWb hB hIW hfl hDA hw1 hw2 hAI ih hnP
 go_enter Tryz.func56, Tryz.ntmps56
 go_wp2_with fail
 rw [← hW, ← hbf]
 clear hW hbf
 refine HRM.out.mono ?_
 rintro e w1 ⟨lb1, P1, I1, rfl, hA1, hI1, hb1, hP1, hIm⟩
 have HA1 := hid hA1
 have HI11 := hid hI1
 have HB1 := hid hb1
 have HP1 := hid hP1
 have HIM := hid hIm
 have d0 := cell_below hb1 b0
 have d5 := cell_below hb1 b5
 have d8 := cell_below hb1 b8
 clear b0 b1 b2 b3 b4 b5 b6 b7 b8 hA1 hI1 hb1 hP1 hIm HRM
 go_wp2_with fail
 have hww : Below w.heap.size w w1 := HWB.out.trans (HB1.out.mono HWB.out.size)
 have HXW := hid (fun x (hb : Below w1.heap.size w1 x) => (hww.trans (hb.mono hww.size) : Below w.heap.size w x))
 have hpu : ∀ i, i < ws.length → 0 ≤ getW ws i * 1 ∧ getW ws i * 1 ≤ 1099511627776 := fun i hi => by
  have h1 := HW1.out.nn i hi
  have h2 : getW ws i ≤ 1048576 := by have := sumN_elem HW1.out.nn hi; have := HW1.out.sum; omega
  omega
 have hpv : ∀ i, i < ws'.length → 0 ≤ getW ws' i * 1 ∧ getW ws' i * 1 ≤ 1099511627776 := fun i hi => by
  have h1 := HW2.out.nn i hi
  have h2 : getW ws' i ≤ 1048576 := by have := sumN_elem HW2.out.nn hi; have := HW2.out.sum; omega
  omega
 have hsum1 : sumN (fun i => getW ws i * 1) ws.length ≤ 1152921504606846976 := by
  rw [sumN_mul]; have := HW1.out.sum; omega
 have hsum2 : sumN (fun i => getW ws' i * 1) ws'.length ≤ 1152921504606846976 := by
  rw [sumN_mul]; have := HW2.out.sum; omega
 have HTU := hid (fun x (hb : Below w1.heap.size w1 x) => (timesW_any S' c1 cp1 ws 1 x (HI1.out x (HXW.out x hb)) (fun i hi => ⟨(hpu i hi).1, by have := (hpu i hi).2; omega⟩) (by omega)).mono (show ∀ e x', _ → ∃ l : Nat, e = .returned (.slice (some ⟨l, 0, none⟩) ws.length ws.length) ∧ x.heap.size ≤ l ∧ x'.rowIs l 2 ws.length (fun i => .int .i64 (getW ws i * 1)) ∧ Below x.heap.size x x' from fun e x' h => ⟨_, h.1, Nat.le_refl _, h.2.1, h.2.2.1⟩))
 have HTV := hid (fun x (hb : Below w1.heap.size w1 x) => (timesW_any S' c2 cp2 ws' 1 x (HI2.out x (HXW.out x hb)) (fun i hi => ⟨(hpv i hi).1, by have := (hpv i hi).2; omega⟩) (by omega)).mono (show ∀ e x', _ → ∃ l : Nat, e = .returned (.slice (some ⟨l, 0, none⟩) ws'.length ws'.length) ∧ x.heap.size ≤ l ∧ x'.rowIs l 2 ws'.length (fun i => .int .i64 (getW ws' i * 1)) ∧ Below x.heap.size x x' from fun e x' h => ⟨_, h.1, Nat.le_refl _, h.2.1, h.2.2.1⟩))
 have HIFF := hid (show Flow ws.length ws'.length (fun i => getW ws i * 1) (fun i => getW ws' i * 1) (fun i j => RB (ft.get 0) (t.el i) (t'.el j)) ↔ RB ⟨6, fn, ft⟩ (n, t, ws) (n', t', ws') = true by
  rw [HRB.out, HW1.out.ln, HW2.out.ln]
  have h1 : relV (tells rel) ⟨6, fn, ft⟩ (n, t, ws) (n', t', ws') = FlowP t.len t'.len (fun a => getW ws a * 1) (fun b => getW ws' b * 1) (fun a b => t.relE (tells rel) (fun _ => ft.get 0) a (t'.el b)) := by
   unfold relV nodeRel
   simp
  rw [h1]
  exact flowP_iff (fun i j hi hj => (HRE.out i j).trans (relE_el (fun _ => ft.get 0) (t'.el j) hi).symm))
 have HA2 := hid (show AsksT w1.heap.size P1 I1 ws.length ws'.length (fun i j => RB (ft.get 0) (t.el i) (t'.el j)) 131 lb1 by rw [HW1.out.ln, HW2.out.ln]; exact HA1.out)
 have HCM := hid (fun x l r (hb : Below w1.heap.size w1 x) (hl : w1.heap.size ≤ l) (hr : w1.heap.size ≤ r) (hne : l ≠ r) (hl' : x.rowIs l 2 ws.length (fun i => .int .i64 (getW ws i * 1))) (hr' : x.rowIs r 2 ws'.length (fun i => .int .i64 (getW ws' i * 1))) =>
  (can_anyT ws.length ws'.length l r HA2.out (by omega) (by omega) (fun a ha => (hpu a ha).1) (fun b hb => (hpv b hb).1) hsum1 hsum2 hl hr hne x _ (HA2.out.same _ _ _ HI11.out hb) hl' hr').mono (show ∀ e x', _ → e = .returned (.bool (RB ⟨6, fn, ft⟩ (n, t, ws) (n', t', ws'))) ∧ (∃ Y, Sub X Y ∧ (RB ⟨6, fn, ft⟩ (n, t, ws) (n', t', ws') = true → relV (tells Y) ⟨6, fn, ft⟩ (n, t, ws) (n', t', ws')) ∧ I Y x') ∧ Kept P w x' ∧ x'.cell? ⟨bf + 1, 2, none⟩ = some (.slice c1 ws.length cp1) ∧ x'.cell? ⟨bf + 2, 2, none⟩ = some (.slice c2 ws'.length cp2) from by
   rintro e x' ⟨Y2, p, rfl, ⟨hp, hp2⟩, ⟨hI', _⟩, hk'⟩
   have hpe : p = RB ⟨6, fn, ft⟩ (n, t, ws) (n', t', ws') := by
    have h1 := hp.trans HIFF.out
    cases p <;> cases hq : RB ⟨6, fn, ft⟩ (n, t, ws) (n', t', ws') <;> simp_all
   obtain ⟨Z', hz, X1, x1, h1, h2, h3, h5⟩ := HIM.out Y2 x' hI'
   have hwx := HXW.out x hb
   refine ⟨by rw [hpe], ⟨X1, x1, fun h => rel6_of (by have h6 := flowP_of (hp2 (by rw [hpe]; exact h)) (Rel := fun a b => a < t.len ∧ relV (tells X1) (ft.get 0) (t.el a) (t'.el b)) (fun a b hr => ⟨(h5 a b (hz a b hr)).1, (h5 a b (hz a b hr)).2.2⟩); rw [HW1.out.ln, HW2.out.ln] at h6; exact h6), h1⟩, ⟨hk'.os.trans hwx.os, hk'.tape.trans hwx.tape, hk'.output.trans hwx.output, Nat.le_trans hwx.size hk'.size, fun k hk hp => (h3 k (Nat.lt_of_lt_of_le hk HWB.out.size) hp).trans (HWB.out.block k hk)⟩, ?_, ?_⟩
   ·exact (cells_of (show x'.heap[bf + 1]? = _ from (h3 _ (heap_lt HXB.out.u) (HNP.out _ (by omega))).trans HXB.out.u)).2.2
   ·exact (cells_of (show x'.heap[bf + 2]? = _ from (h3 _ (heap_lt HXB.out.v) (HNP.out _ (by omega))).trans HXB.out.v)).2.2))
 have hbx : Below w1.heap.size w1 w1 := Below.refl _ _
 clear hpu hpv hsum1 hsum2 hww HI1 HI2
 go_region_held3 (fun x : World => x.cell? ⟨bf + 1, 2, none⟩ = some (.slice c1 ws.length cp1) ∧ x.cell? ⟨bf + 2, 2, none⟩ = some (.slice c2 ws'.length cp2)) (first | exact ⟨d5, d8⟩ | fail) (first
  | (go_at_call 100; refine callAt (args' := #[.slice c1 ws.length cp1, .int .i64 1]) rfl ?_; refine (HTU.out _ (by first | exact hbx | exact belowN hbx)).mono ?_; rintro e x ⟨lu, rfl, hlu, ru, bu⟩; have hwu := Nat.le_trans hbx.size hlu; replace d5 := cell_below bu d5; replace d8 := cell_below bu d8; replace hbx := Below.trans (b := _) (by first | exact hbx | exact belowN hbx) (bu.mono hbx.size); (try replace rv := rv.of_block (bu.block _ rv.lt)); (try have hne := Ne.symm (Nat.ne_of_lt (Nat.lt_of_lt_of_le rv.lt hlu))))
  | (go_at_call 100; refine callAt (args' := #[.slice c2 ws'.length cp2, .int .i64 1]) rfl ?_; refine (HTV.out _ (by first | exact hbx | exact belowN hbx)).mono ?_; rintro e x ⟨lv, rfl, hlv, rv, bv⟩; have hwv := Nat.le_trans hbx.size hlv; (try have hne := Nat.ne_of_lt (Nat.lt_of_lt_of_le ru.lt hlv)); replace d5 := cell_below bv d5; replace d8 := cell_below bv d8; replace hbx := Below.trans (b := _) (by first | exact hbx | exact belowN hbx) (bv.mono hbx.size); (try replace ru := ru.of_block (bv.block _ ru.lt)))
  | (go_at_call 99; refine (HCM.out _ _ _ (by first | exact hbx | exact belowN hbx) hwu hwv hne ru rv).mono ?_; rintro e x ⟨rfl, hIz, hkz, e5, e8⟩; clear d5 d8; have d5 := e5; have d8 := e8; clear e5 e8; have HIZ := hid hIz; have HKZ := hid hkz; clear hIz hkz)
  | fail)
 all_goals (go_wp2_with fail; go_ret; exact ⟨rfl, HIZ.out, HKZ.out⟩)
end Go.Proofs.YtcekilcgpgjooaaGreatDoor
