/- Contracts of the program's functions. -/
import Derived.Test.YtjpahjfjpkbcnaaGreatB19
import Derived.Test.YtjpahjfjpkbcnaaGreatB20
import Derived.Test.YtjpahjfjpkbcnaaGreatB13
import Derived.Test.YtjpahjfjpkbcnaaGreatB03

namespace Go.Proofs.YtjpahjfjpkbcnaaGreat
open Go.Proofs Go.RowKit
theorem lettersN_len (n : Nat) : (n < 26 → (lettersN n).length = 1) ∧ (¬ n < 26 → 2 ≤ (lettersN n).length) := by
 have pos : ∀ m, 1 ≤ (lettersN m).length := fun m => by
  by_cases h : m < 26
  ·rw [lettersN_small h]; simp
  ·rw [lettersN_great h]; simp
 refine ⟨fun h => by rw [lettersN_small h]; rfl, fun h => ?_⟩
 rw [lettersN_great h, List.length_append]
 have := pos (n / 26 - 1)
 simp only [List.length_singleton]
 omega
theorem chr_inj {a b : Nat} (ha : a < 26) (hb : b < 26) (h : UInt8.ofNat (97 + a) = UInt8.ofNat (97 + b)) : a = b := by
 have := congrArg UInt8.toNat h
 simp [UInt8.toNat_ofNat'] at this
 omega
theorem lettersN_inj : ∀ (n m : Nat), lettersN n = lettersN m → n = m := by
 intro n
 induction n using Nat.strongRecOn with
 | _ n ih =>
  intro m h
  have h1 := lettersN_len n
  have h2 := lettersN_len m
  by_cases hn : n < 26
  ·by_cases hm : m < 26
   ·rw [lettersN_small hn, lettersN_small hm] at h
    exact chr_inj hn hm (by simpa using h)
   ·have a1 := h1.1 hn; have a2 := h2.2 hm; rw [h] at a1; omega
  ·by_cases hm : m < 26
   ·have a1 := h1.2 hn; have a2 := h2.1 hm; rw [h] at a1; omega
   ·rw [lettersN_great hn, lettersN_great hm] at h
    have h3 := List.append_inj' h rfl
    have h4 := ih (n / 26 - 1) (by omega) (m / 26 - 1) h3.1
    have h5 : n % 26 = m % 26 := chr_inj (Nat.mod_lt _ (by decide)) (Nat.mod_lt _ (by decide)) (by simpa using h3.2)
    omega
theorem markB_list (n : Nat) : (markB n).toList = 35 :: lettersN n := by
 unfold markB
 rw [ByteArray.toList_eq, ByteArray.data_append, Array.toList_append]
 rfl
theorem markB_inj {n m : Nat} (h : (markB n).toList = (markB m).toList) : n = m := by
 rw [markB_list, markB_list] at h
 exact lettersN_inj n m (List.cons.inj h).2
def noMark (l : List UInt8) : Prop := l.head? ≠ some 35
theorem markB_mark (n : Nat) : ¬ noMark (markB n).toList := by
 unfold noMark; rw [markB_list]; simp
theorem unm_no {tk : List ByteArray} {s : ByteArray} (h : noMark s.toList) : unmB tk s = s := by
 unfold unmB; exact if_neg h
theorem unmL_at : ∀ (tk : List ByteArray) (i j : Nat) (h : j < tk.length), unmL (markB (i + j)) tk i = tk[j]
 | t :: ts, i, 0, _ => by unfold unmL; rw [if_pos (by simp)]; rfl
 | t :: ts, i, j + 1, h => by
  unfold unmL
  rw [if_neg, show i + (j + 1) = i + 1 + j by omega, unmL_at ts (i + 1) j (by simpa using h)]
  ·rfl
  ·intro e
   have := markB_inj (n := i + (j + 1)) (m := i) (by simpa using e)
   omega
theorem unm_mark {tk : List ByteArray} {j : Nat} (h : j < tk.length) : unmB tk (markB j) = tk[j] := by
 unfold unmB
 rw [if_pos (by rw [markB_list]; rfl)]
 have := unmL_at tk 0 j h
 rwa [Nat.zero_add] at this
def mksL (n : Nat) : List ByteArray → List ByteArray
 | [] => []
 | _ :: xs => markB n :: mksL (n + 1) xs
theorem mksL_len : ∀ (n : Nat) (xs : List ByteArray), (mksL n xs).length = xs.length
 | _, [] => rfl
 | n, x :: xs => by show (mksL (n + 1) xs).length + 1 = _; rw [mksL_len (n + 1) xs]; rfl
theorem mksL_get : ∀ (n : Nat) (xs : List ByteArray) (j : Nat) (h : j < (mksL n xs).length), (mksL n xs)[j] = markB (n + j)
 | n, x :: xs, 0, _ => rfl
 | n, x :: xs, j + 1, h => by
  have h' : j < (mksL (n + 1) xs).length := by simpa [mksL] using h
  show (mksL (n + 1) xs)[j]'(h') = _
  rw [mksL_get (n + 1) xs j h', show n + (j + 1) = n + 1 + j by omega]
theorem mksL_mem {n : Nat} {xs : List ByteArray} {o : ByteArray} (h : o ∈ mksL n xs) : ¬ noMark o.toList := by
 obtain ⟨j, hj, rfl⟩ := List.getElem_of_mem h
 rw [mksL_get]
 exact markB_mark _
theorem fS_at (bs os : List ByteArray) (sc : Sc) (hl : os.length = bs.length) (hn : (bs.map (·.toList)).Nodup) (j : Nat) (h : j < bs.length) : fS (pushS bs os sc) bs[j] = os[j]'(by omega) := by
 have h1 := find_push bs os sc hl hn
 have h2 := congrArg (fun l => l[j]?) h1
 simp only [List.getElem?_map] at h2
 rw [List.getElem?_eq_getElem h, List.getElem?_eq_getElem (by omega)] at h2
 exact Option.some.inj h2
theorem bs_index {bs : List ByteArray} {y : ByteArray} (h : inL bs y.toList = true) : ∃ j, ∃ hj : j < bs.length, bs[j] = y := by
 obtain ⟨s, hs, he⟩ := inL_mem h
 obtain ⟨j, hj, rfl⟩ := List.getElem_of_mem hs
 exact ⟨j, hj, bytes_ext he⟩
theorem noMark_small {s : ByteArray} (h : smallL s.toList = true) : noMark s.toList := by
 unfold noMark
 cases hs : s.toList with
 | nil => simp
 | cons c cs =>
  rw [hs] at h
  unfold smallL at h
  rw [List.all_cons, Bool.and_eq_true] at h
  have h1 := h.1
  unfold smallC at h1
  rw [Bool.and_eq_true, decide_eq_true_eq] at h1
  intro e
  have : c = 35 := by simpa using e
  rw [this] at h1
  exact absurd h1.1 (by decide)
theorem noMark_name {s : ByteArray} (h : nameB s = true) : noMark s.toList := by
 unfold nameB at h
 simp only [Bool.and_eq_true] at h
 exact noMark_small h.1.2
theorem noMark_great {s : ByteArray} (h : greatB s = true) : noMark s.toList := by
 unfold greatB firstB at h
 simp only [Bool.and_eq_true] at h
 have h1 := h.1.2
 unfold noMark
 cases hs : s.toList with
 | nil => simp
 | cons c cs =>
  rw [hs] at h1
  simp only [Bool.and_eq_true, decide_eq_true_eq] at h1
  intro e
  have : c = 35 := by simpa using e
  rw [this] at h1
  exact absurd h1.1 (by decide)
theorem noMark_nil {s : ByteArray} (h : s.toList.isEmpty = true) : noMark s.toList := by
 unfold noMark
 cases hs : s.toList with
 | nil => simp
 | cons c cs => rw [hs] at h; simp at h
theorem noMark_text {op : Int} {s : ByteArray} (h : textFitsB op s = true) : noMark s.toList := by
 unfold textFitsB at h
 split at h
 ·exact noMark_name h
 ·split at h
  ·exact noMark_great h
  ·exact noMark_nil h
theorem mem_if {c : Prop} [Decidable c] {t y : ByteArray} {l : List ByteArray} (h : y ∈ l) : y ∈ if c then t :: l else l := by
 split
 ·exact List.mem_cons_of_mem _ h
 ·exact h
mutual
theorem nmP_F (tk : List ByteArray) (g g' : ByteArray → ByteArray) : ∀ (p : Pt) (d : Int), (∀ y ∈ namesL ((partsP d p).map (·.2)), unmB tk (g y) = g' y) → (∀ q ∈ partsP d p, noMark q.2.text.toList) → nmP tk (rnF g p) = rnF g' p
 | .mk f n t ps, d, h, hq => by
  rw [partsP_mk] at h hq
  rw [List.map_cons, namesL_cons] at h
  have h0 := hq _ List.mem_cons_self
  have e : ∀ x, nmP tk (.mk f n x (rnFs g ps)) = .mk f n (unmB tk x) (nmPs tk (rnFs g ps)) := fun x => by conv => lhs; unfold nmP
  rw [rnF_mk, e, rnF_mk, nmPs_F tk g g' ps (d + 1) (fun y hy => h y (mem_if hy)) fun q hq' => hq q (List.mem_cons_of_mem _ hq')]
  by_cases h2 : f = 2
  ·rw [if_pos h2, if_pos h2]
   rw [h t (by rw [if_pos (show (Pt.mk f n t ps).form = 2 from h2)]; exact List.mem_cons_self)]
  ·rw [if_neg h2, if_neg h2]
   rw [unm_no (show noMark t.toList from h0)]
theorem nmPs_F (tk : List ByteArray) (g g' : ByteArray → ByteArray) : ∀ (ps : List Pt) (d : Int), (∀ y ∈ namesL ((partssP d ps).map (·.2)), unmB tk (g y) = g' y) → (∀ q ∈ partssP d ps, noMark q.2.text.toList) → nmPs tk (rnFs g ps) = rnFs g' ps
 | [], _, _, _ => by rw [rnFs_nil, rnFs_nil]; unfold nmPs; rfl
 | p :: ps, d, h, hq => by
  have e : partssP d (p :: ps) = partsP d p ++ partssP d ps := by conv => lhs; unfold partssP
  rw [e] at h hq
  rw [List.map_append, namesL_app] at h
  have e2 : nmPs tk (rnF g p :: rnFs g ps) = nmP tk (rnF g p) :: nmPs tk (rnFs g ps) := by conv => lhs; unfold nmPs
  rw [rnFs_cons, e2, rnFs_cons, nmP_F tk g g' p d (fun y hy => h y (List.mem_append_left _ hy)) (fun q hq' => hq q (List.mem_append_left _ hq')), nmPs_F tk g g' ps d (fun y hy => h y (List.mem_append_right _ hy)) (fun q hq' => hq q (List.mem_append_right _ hq'))]
end
def okH1 (T : Tm) : Prop := noMark T.text.toList ∧ ∀ p ∈ T.pats, ∀ q ∈ partsP 1 p, noMark q.2.text.toList
abbrev okH (T : Tm) : Prop := ∀ x ∈ partsM 1 T, okH1 x.2
theorem pfit_no {p : Pt} (h : p.fits = true) : noMark p.text.toList := by
 unfold Pt.fits patFitB at h
 split at h
 ·simp only [Bool.and_eq_true] at h; exact noMark_nil h.1.2
 ·split at h
  ·simp only [Bool.and_eq_true] at h; exact noMark_name h.1.2
  ·split at h
   ·simp only [Bool.and_eq_true] at h; exact noMark_nil h.1.2
   ·split at h
    ·simp only [Bool.and_eq_true] at h; exact noMark_nil h.1.2
    ·split at h
     ·simp only [Bool.and_eq_true] at h; exact noMark_great h.1.2
     ·cases h
theorem okH_of {T : Tm} (h : termB T = true) : okH T := fun x hx => by
 have hf := goM_all _ 0 h x hx
 refine ⟨?_, fun p hp q hq => ?_⟩
 ·have hf' := hf
  unfold Tm.fits at hf'
  simp only [Bool.and_eq_true] at hf'
  exact noMark_text hf'.1.2
 ·have h1 := (patB_iff p).1 ((fits_pats hf).2 p hp)
  exact pfit_no (h1.2.1 q.2 (List.mem_map_of_mem (f := fun x : Int × Pt => x.2) hq))
theorem okH.top {T : Tm} (h : okH T) : okH1 T := h (1, T) (by rw [partsM_eq]; exact List.mem_cons_self)
theorem okH.kid {T : Tm} (h : okH T) (j : Nat) (hj : j < T.kids.length) : okH T.kids[j] := fun x hx =>
 h (x.1 + 1, x.2) (by rw [partsM_eq]; exact List.mem_cons_of_mem _ ((partss_has T.kids 2 j hj).1 _ (partsM_up _ _ hx)))
theorem namesL_text {ps : List Pt} {y : ByteArray} (h : y ∈ namesL ps) : ∃ q ∈ ps, q.text = y := by
 unfold namesL at h
 obtain ⟨q, hq, rfl⟩ := List.mem_map.1 h
 exact ⟨q, (List.mem_filter.1 hq).1, rfl⟩
theorem bound_no {T : Tm} (h : okH1 T) (i : Nat) (y : ByteArray) (hy : y ∈ boundL T i) : noMark y.toList := by
 unfold boundL at hy
 split at hy
 ·rw [List.mem_singleton] at hy; rw [hy]; exact h.1
 ·split at hy
  ·cases hq : T.pats[i - 1]? with
   | none => rw [hq] at hy; cases hy
   | some p =>
    rw [hq] at hy
    obtain ⟨q, hq', rfl⟩ := namesL_text (show y ∈ namesL ((partsP 1 p).map (·.2)) from hy)
    obtain ⟨z, hz, rfl⟩ := List.mem_map.1 hq'
    exact h.2 p (List.mem_of_getElem? hq) z hz
  ·cases hy
theorem stand_no : ∀ (n : Nat) (T : Tm), heightM T ≤ n → okH T → ∀ x, inL (standL T) x = true → noMark x
 | 0, T, h, _, _, _ => by rw [height_eq] at h; omega
 | n + 1, T, h, hH, x, hx => by
  rw [height_eq] at h
  rcases stand_inv T x hx with ⟨-, h2⟩ | ⟨i, hi, h2 | h2⟩
  ·rw [← h2]; exact hH.top.1
  ·obtain ⟨s, hs, rfl⟩ := inL_mem h2
   exact bound_no hH.top i s hs
  ·have := heightsM_get T.kids i hi
   exact stand_no n T.kids[i] (by omega) (hH.kid i hi) x h2
theorem mark_stand {T : Tm} (hH : okH T) {y : List UInt8} (hy : ¬ noMark y) : inL (standL T) y = false := by
 cases h : inL (standL T) y
 ·rfl
 ·exact absurd (stand_no _ T (Nat.le_refl _) hH y h) hy
def gA (T : Tm) (r : ByteArray → ByteArray) (sc : Nat → Sc) (i : Nat) (y : ByteArray) : ByteArray := if inL (boundL T i) y.toList = true then fS (sc i) y else r y
def stA (T : Tm) (r : ByteArray → ByteArray) (sc : Nat → Sc) : Tm := .mk T.op T.n (stT T sc).text ((List.range T.kids.length).map fun i => rnS (gA T r sc i) (T.kids.getD i default)) (stT T sc).pats
theorem rnSK_range (r : ByteArray → ByteArray) (bnd : Nat → List ByteArray) : ∀ (ks : List Tm) (i : Nat), rnSK r bnd ks i = (List.range ks.length).map fun j => rnS (fun y => if inL (bnd (i + j)) y.toList = true then y else r y) (ks.getD j default)
 | [], i => by rw [rnSK_nil]; rfl
 | k :: ks, i => by
  rw [rnSK_cons, rnSK_range r bnd ks (i + 1), List.length_cons, List.range_succ_eq_map, List.map_cons, List.map_map]
  congr 1
  refine List.map_congr_left fun j _ => ?_
  show rnS (fun y => if inL (bnd (i + 1 + j)) y.toList = true then y else r y) (ks.getD j default) = rnS (fun y => if inL (bnd (i + (j + 1))) y.toList = true then y else r y) (ks.getD j default)
  rw [show i + 1 + j = i + (j + 1) by omega]
theorem stA_nil (T : Tm) (r : ByteArray → ByteArray) (h4 : T.op ≠ 4) : stA T r (fun _ => []) = rnS r T := by
 unfold stA
 rw [stT_nil]
 cases T with
 | mk op n t ks ps =>
  rw [rnS_mk, if_neg (show ¬ op = 4 from h4), rnSK_range]
  have e : ∀ i, gA (.mk op n t ks ps) r (fun _ => []) i = fun y => if inL (boundL (.mk op n t ks ps) (0 + i)) y.toList = true then y else r y := fun i => by
   funext y
   unfold gA
   rw [Nat.zero_add]
   rfl
  simp only [e]
  rfl
theorem gA_upd (T : Tm) (r : ByteArray → ByteArray) (sc : Nat → Sc) (i : Nat) (s : Sc) (j : Nat) (h : j ≠ i) : gA T r (updS sc i s) j = gA T r sc j := by
 funext y; unfold gA updS; rw [if_neg h]
theorem rb_stA (T : Tm) (r : ByteArray → ByteArray) (sc : Nat → Sc) (hR : okR1 T) (i : Nat) (hi : i < T.kids.length) (x s : ByteArray) (hx : x ∈ boundL T i)
  (h1 : ∀ y, oneN x s (fS (sc i) y) = fS ((x, s) :: sc i) y) (h2 : ∀ y, fS (sc i) y = y ∨ inL (standL T.kids[i]) (fS (sc i) y).toList = false)
  (h3 : ∀ y, inL (boundL T i) y.toList = false → oneN x s (r y) = r y) (h4 : ∀ y, gA T r sc i y = y ∨ inL (standL T.kids[i]) (gA T r sc i y).toList = false) :
  rbM x s i (stA T r sc) = stA T r (updS sc i ((x, s) :: sc i)) := by
 have hst := rb_st T sc hR i hi x s hx h1 h2
 have ht : (if T.op = 15 then (stT T sc).text else s) = (stT T (updS sc i ((x, s) :: sc i))).text := by rw [← hst]; rfl
 have hp : (if T.op = 15 then (stT T sc).pats.set (i - 1) (rnP x s ((stT T sc).pats.getD (i - 1) default)) else (stT T sc).pats) = (stT T (updS sc i ((x, s) :: sc i))).pats := by rw [← hst]; rfl
 have hfun : (fun y => oneN x s (gA T r sc i y)) = gA T r (updS sc i ((x, s) :: sc i)) i := by
  funext y
  unfold gA
  rw [updS_at]
  by_cases hb : inL (boundL T i) y.toList = true
  ·rw [if_pos hb, if_pos hb, h1]
  ·rw [if_neg hb, if_neg hb, h3 y (by simpa using hb)]
 show Tm.mk T.op T.n (if T.op = 15 then (stT T sc).text else s) (((List.range T.kids.length).map fun i => rnS (gA T r sc i) (T.kids.getD i default)).set i (rnM x s (((List.range T.kids.length).map fun i => rnS (gA T r sc i) (T.kids.getD i default)).getD i default))) (if T.op = 15 then (stT T sc).pats.set (i - 1) (rnP x s ((stT T sc).pats.getD (i - 1) default)) else (stT T sc).pats) = _
 rw [ht, hp]
 unfold stA
 congr 1
 refine List.ext_getElem (by simp) fun j h5 h6 => ?_
 have hj : j < T.kids.length := by simpa using h6
 rw [List.getElem_set, List.getElem_map, List.getElem_range, List.getElem_map, List.getElem_range]
 by_cases e : i = j
 ·subst e
  rw [if_pos rfl, List.getD_eq_getElem?_getD, List.getElem?_map, List.getElem?_range hi]
  show rnM x s (rnS (gA T r sc i) (T.kids.getD i default)) = _
  have hg : T.kids.getD i default = T.kids[i] := by rw [List.getD_eq_getElem?_getD, List.getElem?_eq_getElem hi]; rfl
  rw [rnM_S, hg, rnS_comp _ _ _ h4, hfun]
 ·rw [if_neg e, gA_upd T r sc i _ j (fun h => e h.symm)]
section
variable {T : Tm} {r : ByteArray → ByteArray}
theorem anN_st (hR : okR1 T) (hH : okH T) (hr : ∀ y, r y = y ∨ ¬ noMark (r y).toList) (i : Nat) (hi : i < T.kids.length) : ∀ (xs pre outs tk : List ByteArray) (sg : NS) (sc : Nat → Sc), boundL T i = pre ++ xs → ((boundL T i).map (·.toList)).Nodup → outs.length = pre.length → inL tk = sg.2 → sc i = pushS pre outs [] → (∀ o ∈ outs, ¬ noMark o.toList) →
  anN i xs (stA T r sc, tk) = (stA T r (updS sc i (pushS (boundL T i) (outs ++ mksL tk.length xs) [])), tk ++ (chL chNew sg xs).1) ∧ inL (tk ++ (chL chNew sg xs).1) = (chL chNew sg xs).2.2
 | [], pre, outs, tk, sg, sc, hb, _, hl, ht, hs, _ => by
  rw [List.append_nil] at hb
  have e : (chL chNew sg []).1 = [] := rfl
  have e2 : (chL chNew sg []).2 = sg := rfl
  have e3 : updS sc i (pushS (boundL T i) (outs ++ mksL tk.length []) []) = sc := by
   funext j
   unfold updS
   by_cases h : j = i
   ·subst h; rw [if_pos rfl, hs, hb]; show pushS pre (outs ++ []) [] = _; rw [List.append_nil]
   ·rw [if_neg h]
  rw [e, e2, e3, List.append_nil]
  exact ⟨rfl, ht⟩
 | x :: xs, pre, outs, tk, sg, sc, hb, hnd, hl, ht, hs, ho => by
  have hxm : x ∈ boundL T i := by rw [hb]; simp
  have hxno : noMark x.toList := bound_no hH.top i x hxm
  have hxp : inL pre x.toList = false := by
   cases h : inL pre x.toList
   ·rfl
   ·obtain ⟨s, hs1, hs2⟩ := inL_mem h
    rw [hb, List.map_append, List.map_cons, List.nodup_append] at hnd
    exact absurd hs2 (hnd.2.2 s.toList (List.mem_map_of_mem (f := fun s : ByteArray => s.toList) hs1) x.toList List.mem_cons_self)
  have hb' : boundL T i = (pre ++ [x]) ++ xs := by rw [hb]; simp
  have hval : ∀ y, fS (pushS pre outs []) y = y ∨ ¬ noMark (fS (pushS pre outs []) y).toList := fun y => by
   cases hy : inL pre y.toList
   ·exact .inl (fS_none pre outs y hl hy)
   ·obtain ⟨p, hp1, hp2, hp3⟩ := fS_out pre outs y hl hy
    rw [hp3]
    exact .inr (ho _ (List.of_mem_zip hp1).2)
  have hne : ∀ z : ByteArray, ¬ noMark z.toList → (z.toList == x.toList) = false := fun z hz => by
   have : z.toList ≠ x.toList := fun e => hz (e ▸ hxno)
   simpa using this
  have h1 : ∀ y, oneN x (markB tk.length) (fS (sc i) y) = fS ((x, markB tk.length) :: sc i) y := fun y => by
   rw [hs, fS_cons]
   by_cases e : x.toList = y.toList
   ·have : x = y := bytes_ext e
    subst this
    rw [if_pos (by simp), fS_none pre outs x hl hxp]
    unfold oneN
    rw [if_pos (by simp)]
   ·rw [if_neg (by simpa using e)]
    unfold oneN
    rw [if_neg]
    rcases hval y with h' | h'
    ·rw [h']; simpa using fun h => e h.symm
    ·rw [hne _ h']; simp
  have hst : ∀ z : ByteArray, ¬ noMark z.toList → inL (standL T.kids[i]) z.toList = false := fun z hz => mark_stand (hH.kid i hi) hz
  have h2 : ∀ y, fS (sc i) y = y ∨ inL (standL T.kids[i]) (fS (sc i) y).toList = false := fun y => by
   rw [hs]; exact (hval y).imp_right (hst _)
  have h3 : ∀ y, inL (boundL T i) y.toList = false → oneN x (markB tk.length) (r y) = r y := fun y hy => by
   unfold oneN
   rw [if_neg]
   rcases hr y with h' | h'
   ·rw [h']
    intro e
    rw [show y.toList = x.toList by simpa using e, mem_inL hxm] at hy
    cases hy
   ·rw [hne _ h']; simp
  have h4 : ∀ y, gA T r sc i y = y ∨ inL (standL T.kids[i]) (gA T r sc i y).toList = false := fun y => by
   unfold gA
   split
   ·exact h2 y
   ·exact (hr y).imp_right (hst _)
  have e1 : anN i (x :: xs) (stA T r sc, tk) = anN i xs (rbM x (markB tk.length) i (stA T r sc), tk ++ [firstW (inL tk)]) := rfl
  have e2 : chL chNew sg (x :: xs) = (firstW sg.2 :: (chL chNew (sg.1 + 1, fun k => sg.2 k || k == (firstW sg.2).toList) xs).1, (chL chNew (sg.1 + 1, fun k => sg.2 k || k == (firstW sg.2).toList) xs).2) := rfl
  rw [e1, e2, rb_stA T r sc hR i hi x _ hxm h1 h2 h3 h4, hs, ← pushS_snoc pre outs x (markB tk.length) [] hl, ht]
  obtain ⟨g1, g2⟩ := anN_st hR hH hr i hi xs (pre ++ [x]) (outs ++ [markB tk.length]) (tk ++ [firstW sg.2]) (sg.1 + 1, fun k => sg.2 k || k == (firstW sg.2).toList) (updS sc i (pushS (pre ++ [x]) (outs ++ [markB tk.length]) [])) hb' hnd (by simp [hl]) (by rw [inL_snoc', ht]) (updS_at _ _ _) (fun o ho' => by
   rcases List.mem_append.1 ho' with h | h
   ·exact ho o h
   ·rw [List.mem_singleton] at h; rw [h]; exact markB_mark _)
  rw [g1]
  rw [List.append_assoc, List.singleton_append] at g2
  refine ⟨?_, g2⟩
  rw [updS_same, List.append_assoc, List.append_assoc, List.singleton_append, List.singleton_append, List.length_append, List.length_singleton]
  rfl
end
end Go.Proofs.YtjpahjfjpkbcnaaGreat
namespace Go.Proofs.YtjpahjfjpkbcnaaGreat
open Go.Proofs Go.RowKit
def tkI (T : Tm) (sg : NS) (tk : List ByteArray) : Nat → List ByteArray
 | 0 => tk
 | i + 1 => tkI T sg tk i ++ (chL chNew (scp chNew (boundL T) [] sg i).2 (boundL T i)).1
theorem tkI_pre (T : Tm) (sg : NS) (tk : List ByteArray) : ∀ (m i : Nat), i ≤ m → ∃ more, tkI T sg tk i ++ more = tkI T sg tk m
 | 0, i, h => by obtain rfl : i = 0 := by omega
                 exact ⟨[], List.append_nil _⟩
 | m + 1, i, h => by
  by_cases e : i = m + 1
  ·subst e; exact ⟨[], List.append_nil _⟩
  ·obtain ⟨more, h1⟩ := tkI_pre T sg tk m i (by omega)
   exact ⟨more ++ (chL chNew (scp chNew (boundL T) [] sg m).2 (boundL T m)).1, by rw [← List.append_assoc, h1]; rfl⟩
def scM (T : Tm) (sg : NS) (tk : List ByteArray) (i : Nat) : Sc := pushS (boundL T i) (mksL (tkI T sg tk i).length (boundL T i)) []
section
variable {T : Tm} {r : ByteArray → ByteArray}
theorem boundA (T : Tm) (r : ByteArray → ByteArray) (sc : Nat → Sc) (i : Nat) : boundL (stA T r sc) i = boundL (stT T sc) i := rfl
theorem anI_st (hR : okR1 T) (hH : okH T) (hr : ∀ y, r y = y ∨ ¬ noMark (r y).toList) (sg : NS) (tk : List ByteArray) : ∀ (n i : Nat), i + n = T.kids.length → inL (tkI T sg tk i) = (scp chNew (boundL T) [] sg i).2.2 →
  anI n i (stA T r (fun j => if j < i then scM T sg tk j else []), tkI T sg tk i) = (stA T r (fun j => if j < T.kids.length then scM T sg tk j else []), tkI T sg tk T.kids.length) ∧ inL (tkI T sg tk T.kids.length) = (scp chNew (boundL T) [] sg T.kids.length).2.2
 | 0, i, hn, ht => by
  obtain rfl : i = T.kids.length := by omega
  exact ⟨rfl, ht⟩
 | n + 1, i, hn, ht => by
  have hi : i < T.kids.length := by omega
  have hb : boundL (stA T r (fun j => if j < i then scM T sg tk j else [])) i = boundL T i := (boundA _ _ _ _).trans (boundT T _ hR.2.2.1 i hi (if_neg (by omega)))
  have e : anI (n + 1) i (stA T r (fun j => if j < i then scM T sg tk j else []), tkI T sg tk i) = anI n (i + 1) (anN i (boundL (stA T r (fun j => if j < i then scM T sg tk j else [])) i) (stA T r (fun j => if j < i then scM T sg tk j else []), tkI T sg tk i)) := rfl
  rw [e, hb]
  obtain ⟨g1, g2⟩ := anN_st hR hH hr i hi (boundL T i) [] [] (tkI T sg tk i) (scp chNew (boundL T) [] sg i).2 (fun j => if j < i then scM T sg tk j else []) rfl (bound_nd hR i) rfl ht (if_neg (by omega)) (fun o ho => by cases ho)
  rw [g1, List.nil_append]
  have e2 : updS (fun j => if j < i then scM T sg tk j else []) i (pushS (boundL T i) (mksL (tkI T sg tk i).length (boundL T i)) []) = fun j => if j < i + 1 then scM T sg tk j else [] := by
   funext j
   unfold updS
   by_cases e : j = i
   ·subst e; rw [if_pos rfl, if_pos (by omega)]; rfl
   ·rw [if_neg e]
    show (if j < i then scM T sg tk j else []) = _
    by_cases h : j < i
    ·rw [if_pos h, if_pos (by omega)]
    ·rw [if_neg h, if_neg (by omega)]
  rw [e2]
  exact anI_st hR hH hr sg tk n (i + 1) (by omega) g2
end
def rnG (g : Nat → ByteArray → ByteArray) : List Tm → Nat → List Tm
 | [], _ => []
 | k :: ks, i => rnS (g i) k :: rnG g ks (i + 1)
theorem rnG_range (g : Nat → ByteArray → ByteArray) : ∀ (ks : List Tm) (i : Nat), rnG g ks i = (List.range ks.length).map fun j => rnS (g (i + j)) (ks.getD j default)
 | [], i => rfl
 | k :: ks, i => by
  show rnS (g i) k :: rnG g ks (i + 1) = _
  rw [rnG_range g ks (i + 1), List.length_cons, List.range_succ_eq_map, List.map_cons, List.map_map]
  congr 1
  refine List.map_congr_left fun j _ => ?_
  show rnS (g (i + 1 + j)) (ks.getD j default) = rnS (g (i + (j + 1))) (ks.getD j default)
  rw [show i + 1 + j = i + (j + 1) by omega]
theorem nmM_mk (tk : List ByteArray) (op n : Int) (t : ByteArray) (ks : List Tm) (ps : List Pt) : nmM tk (.mk op n t ks ps) = .mk op n (unmB tk t) (ks.map (nmM tk)) (ps.map (nmP tk)) := by
 conv => lhs; unfold nmM
 rw [nmMs_map]
def AnOk (f : Nat) (T : Tm) : Prop := ∀ (r : ByteArray → ByteArray) (sc : Sc) (tk : List ByteArray) (sg : NS), (∀ y, r y = y ∨ ¬ noMark (r y).toList) → inL tk = sg.2 →
 (∃ news, (anR f (rnS r T) tk).2 = tk ++ news) ∧ inL (anR f (rnS r T) tk).2 = (renM chNew sg sc T).2.2 ∧ ∀ tkF, (∃ more, (anR f (rnS r T) tk).2 ++ more = tkF) → (∀ y : ByteArray, noMark y.toList → unmB tkF (r y) = fS sc y) → nmM tkF (anR f (rnS r T) tk).1 = (renM chNew sg sc T).1
theorem an_list {f : Nat} (g : Nat → ByteArray → ByteArray) (S : Nat → Sc) (hg : ∀ i y, g i y = y ∨ ¬ noMark (g i y).toList) : ∀ (ks : List Tm) (i : Nat) (scsl : List Sc) (tk : List ByteArray) (sg : NS), (∀ k ∈ ks, AnOk f k) → inL tk = sg.2 → (∀ j, j < ks.length → scsl.getD j [] = S (i + j)) →
  (∃ news, (anK (anR f) (rnG g ks i) tk).2 = tk ++ news) ∧ inL (anK (anR f) (rnG g ks i) tk).2 = (renK chNew sg scsl ks).2.2 ∧ ∀ tkF, (∃ more, (anK (anR f) (rnG g ks i) tk).2 ++ more = tkF) → (∀ j, j < ks.length → ∀ y : ByteArray, noMark y.toList → unmB tkF (g (i + j) y) = fS (S (i + j)) y) → (anK (anR f) (rnG g ks i) tk).1.map (nmM tkF) = (renK chNew sg scsl ks).1
 | [], i, scsl, tk, sg, _, ht, _ => by
  have e : renK chNew sg scsl [] = ([], sg) := by unfold renK; rfl
  rw [e]
  exact ⟨⟨[], (List.append_nil _).symm⟩, ht, fun _ _ _ => rfl⟩
 | k :: ks, i, scsl, tk, sg, hk, ht, hs => by
  have hh : scsl.headD [] = scsl.getD 0 [] := by cases scsl <;> rfl
  have htl : ∀ j, scsl.tail.getD j [] = scsl.getD (j + 1) [] := fun j => by cases scsl <;> simp
  have h0 : scsl.headD [] = S i := by rw [hh, hs 0 (by simp), Nat.add_zero]
  obtain ⟨⟨n1, a1⟩, a2, a3⟩ := hk k List.mem_cons_self (g i) (S i) tk sg (hg i) ht
  obtain ⟨⟨n2, b1⟩, b2, b3⟩ := an_list (f := f) g S hg ks (i + 1) scsl.tail (anR f (rnS (g i) k) tk).2 (renM chNew sg (S i) k).2 (fun x hx => hk x (List.mem_cons_of_mem _ hx)) a2 (fun j hj => by rw [htl, hs (j + 1) (by simpa using hj), show i + 1 + j = i + (j + 1) by omega])
  have e1 : anK (anR f) (rnG g (k :: ks) i) tk = ((anR f (rnS (g i) k) tk).1 :: (anK (anR f) (rnG g ks (i + 1)) (anR f (rnS (g i) k) tk).2).1, (anK (anR f) (rnG g ks (i + 1)) (anR f (rnS (g i) k) tk).2).2) := rfl
  rw [e1, renK_cons, h0]
  refine ⟨⟨n1 ++ n2, by show (anK (anR f) (rnG g ks (i + 1)) (anR f (rnS (g i) k) tk).2).2 = _; rw [b1, a1, List.append_assoc]⟩, b2, fun tkF ⟨more, hm⟩ hy => ?_⟩
  have hm' : (anK (anR f) (rnG g ks (i + 1)) (anR f (rnS (g i) k) tk).2).2 ++ more = tkF := hm
  show nmM tkF (anR f (rnS (g i) k) tk).1 :: (anK (anR f) (rnG g ks (i + 1)) (anR f (rnS (g i) k) tk).2).1.map (nmM tkF) = _
  rw [a3 tkF ⟨n2 ++ more, by rw [← List.append_assoc, ← b1]; exact hm'⟩ (fun y hn => by have := hy 0 (by simp) y hn; simpa using this), b3 tkF ⟨more, hm'⟩ fun j hj y hn => by
   have := hy (j + 1) (by simpa using hj) y hn
   rw [show i + 1 + j = i + (j + 1) by omega]; exact this]
theorem an_eq : ∀ (f : Nat) (T : Tm), heightM T ≤ f → okR T → okH T → AnOk f T
 | 0, T, h, _, _ => by rw [height_eq] at h; omega
 | f + 1, T, h, hR, hH => by
  intro r sc tk sg hr ht
  rw [height_eq] at h
  by_cases h4 : T.op = 4
  ·have hk : T.kids = [] := hR.top.1 h4
   have hp : T.pats = [] := hR.top.2.1 (by omega)
   have hno := hH.top.1
   cases T with
   | mk op n t ks ps =>
    change op = 4 at h4; change ks = [] at hk; change ps = [] at hp; change noMark t.toList at hno
    subst h4; subst hk; subst hp
    have e1 : anR (f + 1) (rnS r (.mk 4 n t [] [])) tk = (.mk 4 n (r t) [] [], tk) := by
     rw [rnS_mk, if_pos rfl]
     conv => lhs; unfold anR
     rfl
    have e2 : renM chNew sg sc (.mk 4 n t [] []) = (.mk 4 n ((findS sc t).getD t) [] [], sg) := by
     rw [renM_eq]
     have e3 : ∀ s scs, renK chNew s scs [] = ([], s) := fun s scs => by unfold renK; rfl
     show (Tm.mk 4 n (if (4 : Int) = 4 then (findS sc t).getD t else _) (renK chNew _ _ []).1 (rebPats (.mk 4 n t [] []) _), (renK chNew _ _ []).2) = _
     rw [e3, if_pos rfl, rebPats_no (by show (4 : Int) ≠ 15; omega)]
     rfl
    rw [e1, e2]
    refine ⟨⟨[], (List.append_nil _).symm⟩, ht, fun tkF _ hy => ?_⟩
    rw [nmM_mk]
    show Tm.mk 4 n (unmB tkF (r t)) [] [] = _
    rw [hy t hno]
    rfl
  have hst := anI_st hR.top hH hr sg tk T.kids.length 0 (by omega) ht
  have e0 : (fun j => if j < 0 then scM T sg tk j else []) = fun _ => [] := by funext j; rw [if_neg (by omega)]
  rw [e0, stA_nil T r h4] at hst
  obtain ⟨hst1, hst2⟩ := hst
  have hkl : (rnS r T).kids.length = T.kids.length := by
   cases T with
   | mk op n t ks ps => rw [rnS_mk, if_neg (show ¬ op = 4 from h4)]; exact rnSK_len _ _ _ _
  have hst3 : anI (rnS r T).kids.length 0 (rnS r T, tk) = (stA T r (fun j => if j < T.kids.length then scM T sg tk j else []), tkI T sg tk T.kids.length) := by rw [hkl]; exact hst1
  have hAR : anR (f + 1) (rnS r T) tk = (.mk T.op T.n (stT T (fun j => if j < T.kids.length then scM T sg tk j else [])).text (anK (anR f) (rnG (gA T r (fun j => if j < T.kids.length then scM T sg tk j else [])) T.kids 0) (tkI T sg tk T.kids.length)).1 (stT T (fun j => if j < T.kids.length then scM T sg tk j else [])).pats, (anK (anR f) (rnG (gA T r (fun j => if j < T.kids.length then scM T sg tk j else [])) T.kids 0) (tkI T sg tk T.kids.length)).2) := by
   conv => lhs; unfold anR
   rw [hst3, rnG_range]
   simp only [Nat.zero_add]
   rfl
  have hscp : ∀ i, (scp chNew (boundL T) sc sg i).2 = (scp chNew (boundL T) [] sg i).2 := fun i => scp_new _ _ _ _ _ i fun _ _ => rfl
  have hsc : ∀ i, i < T.kids.length → (scp chNew (boundL T) sc sg T.kids.length).1.getD i [] = pushS (boundL T i) (chL chNew (scp chNew (boundL T) [] sg i).2 (boundL T i)).1 sc := fun i hi => by rw [scp_getD _ _ _ _ _ i hi, hscp]
  have hgm : ∀ i y, gA T r (fun j => if j < T.kids.length then scM T sg tk j else []) i y = y ∨ ¬ noMark (gA T r (fun j => if j < T.kids.length then scM T sg tk j else []) i y).toList := fun i y => by
   unfold gA
   by_cases hb : inL (boundL T i) y.toList = true
   ·rw [if_pos hb]
    show fS (if i < T.kids.length then scM T sg tk i else []) y = y ∨ ¬ noMark (fS (if i < T.kids.length then scM T sg tk i else []) y).toList
    by_cases hi : i < T.kids.length
    ·rw [if_pos hi]
     obtain ⟨p, hp1, -, hp3⟩ := fS_out (boundL T i) (mksL (tkI T sg tk i).length (boundL T i)) y (mksL_len _ _) hb
     right
     unfold scM
     rw [hp3]
     exact mksL_mem (List.of_mem_zip hp1).2
    ·rw [if_neg hi]; exact .inl rfl
   ·rw [if_neg hb]; exact hr y
  obtain ⟨⟨n2, b1⟩, b2, b3⟩ := an_list (f := f) (gA T r (fun j => if j < T.kids.length then scM T sg tk j else [])) (fun i => (scp chNew (boundL T) sc sg T.kids.length).1.getD i []) hgm T.kids 0 (scp chNew (boundL T) sc sg T.kids.length).1 (tkI T sg tk T.kids.length) (scp chNew (boundL T) sc sg T.kids.length).2 (fun k hk => by
   obtain ⟨j, hj, rfl⟩ := List.getElem_of_mem hk
   have := heightsM_get T.kids j hj
   exact an_eq f T.kids[j] (by omega) (hR.kid j hj) (hH.kid j hj)) (by rw [hscp]; exact hst2) (fun j _ => by rw [Nat.zero_add])
  rw [hAR, renM_eq]
  obtain ⟨n1, hn1⟩ := tkI_pre T sg tk T.kids.length 0 (Nat.zero_le _)
  refine ⟨⟨n1 ++ n2, by show (anK (anR f) _ _).2 = _; rw [b1, ← hn1, List.append_assoc]; rfl⟩, b2, fun tkF hm hy => ?_⟩
  obtain ⟨more, hm⟩ := hm
  have hm' : (anK (anR f) (rnG (gA T r (fun j => if j < T.kids.length then scM T sg tk j else [])) T.kids 0) (tkI T sg tk T.kids.length)).2 ++ more = tkF := hm
  -- a bound name
  have hol : ∀ i, (chL chNew (scp chNew (boundL T) [] sg i).2 (boundL T i)).1.length = (boundL T i).length := fun i => chL_len _ _ _
  have hkey : ∀ i, i < T.kids.length → ∀ y : ByteArray, inL (boundL T i) y.toList = true → unmB tkF (fS (scM T sg tk i) y) = fS (pushS (boundL T i) (chL chNew (scp chNew (boundL T) [] sg i).2 (boundL T i)).1 sc) y := fun i hi y hb => by
   obtain ⟨j, hj, rfl⟩ := bs_index hb
   have hnd := bound_nd hR.top i
   unfold scM
   rw [fS_at _ _ [] (mksL_len _ _) hnd j hj, fS_at _ _ sc (hol i) hnd j hj, mksL_get]
   obtain ⟨m2, hm2⟩ := tkI_pre T sg tk T.kids.length (i + 1) (by omega)
   have hF : tkF = tkI T sg tk i ++ (chL chNew (scp chNew (boundL T) [] sg i).2 (boundL T i)).1 ++ (m2 ++ n2 ++ more) := by
    rw [← hm', b1, ← hm2]
    show tkI T sg tk i ++ (chL chNew (scp chNew (boundL T) [] sg i).2 (boundL T i)).1 ++ m2 ++ n2 ++ more = _
    simp only [List.append_assoc]
   have hlt : (tkI T sg tk i).length + j < tkF.length := by
    rw [hF, List.length_append, List.length_append, hol]; omega
   rw [unm_mark hlt]
   have e : tkF[(tkI T sg tk i).length + j]? = some ((chL chNew (scp chNew (boundL T) [] sg i).2 (boundL T i)).1[j]'(by rw [hol]; exact hj)) := by
    rw [hF, List.append_assoc, List.getElem?_append_right (by omega), Nat.add_sub_cancel_left, List.getElem?_append_left (by rw [hol]; exact hj), List.getElem?_eq_getElem (by rw [hol]; exact hj)]
   rw [List.getElem?_eq_getElem hlt] at e
   exact Option.some.inj e
  have hkids := b3 tkF ⟨more, hm'⟩ fun i hi y hn => by
   rw [Nat.zero_add, hsc i hi]
   unfold gA
   by_cases hb : inL (boundL T i) y.toList = true
   ·rw [if_pos hb]
    show unmB tkF (fS (if i < T.kids.length then scM T sg tk i else []) y) = _
    rw [if_pos hi]
    exact hkey i hi y hb
   ·rw [if_neg hb, fS_skip _ _ sc y (hol i) (by simpa using hb)]
    exact hy y hn
  rw [nmM_mk, hkids]
  obtain ⟨-, hp2, ⟨s5, s7, s15⟩, -⟩ := hR.top
  have one : ∀ i, i < T.kids.length → boundL T i = [T.text] → unmB tkF (fS (scM T sg tk i) T.text) = asOf ((scp chNew (boundL T) sc sg T.kids.length).1.getD i []) := fun i hi hb => by
   rw [hkey i hi T.text (by rw [hb]; exact mem_inL (List.mem_singleton.2 rfl)), hsc i hi]
   have h1 := hol i
   generalize (chL chNew (scp chNew (boundL T) [] sg i).2 (boundL T i)).1 = os at *
   rw [hb] at h1 ⊢
   match os, h1 with
   | [o], _ =>
    show fS ((T.text, o) :: sc) T.text = o
    rw [fS_cons, if_pos (by simp)]
  have htext : unmB tkF (stT T (fun j => if j < T.kids.length then scM T sg tk j else [])).text = rebText T (scp chNew (boundL T) sc sg T.kids.length).1 := by
   show unmB tkF (if T.op = 5 ∨ T.op = 27 then fS (if 0 < T.kids.length then scM T sg tk 0 else []) T.text else if T.op = 7 then fS (if 1 < T.kids.length then scM T sg tk 1 else []) T.text else T.text) = _
   unfold rebText
   by_cases h5 : T.op = 5 ∨ T.op = 27
   ·have hk := s5 h5
    rw [if_pos h5, if_pos (by omega), if_pos (by omega), one 0 (by omega) (by unfold boundL; rw [if_pos (by omega)]), hk]
   ·by_cases h7 : T.op = 7
    ·have hk := s7 h7
     rw [if_neg h5, if_pos h7, if_pos (by omega), if_pos (by omega), one 1 (by omega) (by unfold boundL; rw [if_pos (by omega)]), hk]
    ·rw [if_neg h5, if_neg h7, if_neg (by omega), unm_no hH.top.1]
  have hpats : (stT T (fun j => if j < T.kids.length then scM T sg tk j else [])).pats.map (nmP tkF) = rebPats T (scp chNew (boundL T) sc sg T.kids.length).1 := by
   show (if T.op = 15 then (List.range T.pats.length).map fun i => rnF (fS (if i + 1 < T.kids.length then scM T sg tk (i + 1) else [])) (T.pats.getD i default) else T.pats).map (nmP tkF) = _
   unfold rebPats
   by_cases h15 : T.op = 15
   ·rw [if_pos h15, if_pos h15, List.map_map]
    refine List.map_congr_left fun i hi => ?_
    have hi0 := List.mem_range.1 hi
    have hi' : i + 1 < T.kids.length := by have := s15 h15; omega
    have hg : T.pats.getD i default = T.pats[i] := by rw [List.getD_eq_getElem?_getD, List.getElem?_eq_getElem hi0]; rfl
    show nmP tkF (rnF (fS (if i + 1 < T.kids.length then scM T sg tk (i + 1) else [])) (T.pats.getD i default)) = _
    rw [if_pos hi', renP_F, hsc _ hi', hg]
    have hb : boundL T (i + 1) = namesP T.pats[i] := by
     unfold boundL
     rw [if_neg (by omega), if_pos ⟨h15, by omega⟩, show i + 1 - 1 = i by omega, List.getElem?_eq_getElem hi0]
     rfl
    exact nmP_F tkF _ _ _ 1 (fun y hyn => hkey (i + 1) hi' y (by rw [hb]; exact mem_inL hyn)) fun q hq => hH.top.2 _ (List.getElem_mem hi0) q hq
   ·rw [if_neg h15, if_neg h15, hp2 h15]; rfl
  rw [htext, hpats, if_neg h4]
theorem canR_eq {T : Tm} (h : termB T = true) (hf : Fit T) : nmM (anR (heightM T) T (rfree T)).2 (anR (heightM T) T (rfree T)).1 = canM T := by
 have hs := termB_sub h hf
 have hfr : rfree T = freeL T := rfree_eq hs.ren.ok
 obtain ⟨-, -, h3⟩ := an_eq (heightM T) T (Nat.le_refl _) (okR_of h) (okH_of h) (fun y => y) [] (rfree T) ((freeL T).length, inL (freeL T)) (fun y => .inl rfl) (by rw [hfr])
 have hid : rnS (fun y => y) T = T := rnS_id _ (fun _ => rfl) T
 rw [hid] at h3
 exact h3 _ ⟨[], List.append_nil _⟩ fun y hy => unm_no hy
end Go.Proofs.YtjpahjfjpkbcnaaGreat
namespace Go.Proofs.YtjpahjfjpkbcnaaGreat
open Go.Proofs Go.RowKit
section
variable {P : Program} {ops : Array Oper} {Q : Exit → Act → World → Prop} {md : Region.Mode}
theorem getD_set_keep {l : Array Bool} {i j : Nat} (hi : i < l.size) (h : l.getD j false = true) : (l.setIfInBounds i true).getD j false = true := by
 by_cases e : j = i
 ·subst e; simp [Array.getD, hi]
 ·rw [getD_set_ne false (Ne.symm e)]; exact h
theorem wpAny_inv2 (hord : orderedB md ops = true) (z : Nat) (nxt : Nat → Nat) (hz : ∀ j, j < z → waitsB md ops (nxt j) j = true ∧ j < nxt j ∧ nxt j ≤ z) (hsz : ops.size = z + 1) (F : Nat → Act → World → Prop) (B : Act → World → Prop) (E : Nat → Act → World → Act → World → Prop)
  (hstep : ∀ i a w, i < z → B a w → (∀ j, waitsB md ops i j = true → F j a w) → wpOp P ops Q i (fun a' w' => B a' w' ∧ F i a' w' ∧ E i a w a' w') a w)
  (hstab : ∀ i j a w a' w', i ≠ j → i < z → j < z → B a w → F j a w → E i a w a' w' → F j a' w')
  (hlast : ∀ a w, B a w → (∀ j, j < z → F j a w) → wpOp P ops Q z (fun a' w' => Q .normal a' w') a w) :
  ∀ (fuel : Nat) (unl : List Nat) (listed : Array Bool) (a : Act) (w : World), unl.length ≤ fuel → listed.size = ops.size → (∀ j, listed.getD j true = false → j ∈ unl) → listed.getD z true = false →
   (∀ i j, listed.getD i false = true → waitsB md ops i j = true → listed.getD j false = true) →
   B a w → (∀ j, listed.getD j false = true → F j a w) → wpAny P md ops Q fuel listed a w
 | 0, unl, listed, a, w, hf, _, hu, hzl, _, _, _ => by
  have := hu z hzl
  cases unl with
  | nil => cases this
  | cons x xs => simp at hf
 | fuel + 1, unl, listed, a, w, hf, hls, hu, hzl, hcl, hB, hF => by
  refine ⟨fun hr => ?_, fun i hi => ?_⟩
  ·exact absurd hr (ready_least hord z (by omega) hls hzl)
  ·obtain ⟨hil, o, ho, hall⟩ := mem_ready.1 hi
   have hilt : i < ops.size := (Array.getElem?_eq_some_iff.1 ho).1
   have hpre : ∀ j, waitsB md ops i j = true → listed.getD j false = true := fun j hj => by
    unfold waitsB at hj
    rw [ho] at hj
    obtain ⟨e, he, hb⟩ := Array.any_eq_true'.1 hj
    simp only [Bool.and_eq_true, beq_iff_eq] at hb
    rw [← hb.2]
    exact hall e he hb.1
   by_cases hiz : i = z
   ·subst hiz
    have hanc : ∀ n j, i - j ≤ n → j < i → listed.getD j false = true := by
     intro n
     induction n with
     | zero => intro j h1 h2; omega
     | succ n ih =>
      intro j h1 h2
      obtain ⟨k1, k2, k3⟩ := hz j h2
      by_cases e : nxt j = i
      ·exact hpre j (by rw [← e]; exact k1)
      ·exact hcl _ _ (ih (nxt j) (by omega) (by omega)) k1
    refine wpOp_mono (fun a' w' hq => ?_) (hlast a w hB fun j hj => hF j (hanc _ j (Nat.le_refl _) hj))
    have hdone : Region.ready md ops (listed.setIfInBounds i true) = [] := by
     rw [List.eq_nil_iff_forall_not_mem]
     intro j hj
     obtain ⟨hjl, o', ho', -⟩ := mem_ready.1 hj
     have hjlt : j < ops.size := (Array.getElem?_eq_some_iff.1 ho').1
     by_cases e : j = i
     ·subst e; rw [getD_set_same] at hjl; cases hjl
     ·rw [getD_set_ne true (Ne.symm e)] at hjl
      have h1 := hanc _ j (Nat.le_refl _) (by omega)
      have h2 : j < listed.size := by omega
      simp [Array.getD, h2] at h1 hjl
      rw [h1] at hjl; cases hjl
    cases fuel with
    | zero => exact ⟨hdone, hq⟩
    | succ n => exact ⟨fun _ => hq, by rw [hdone]; simp⟩
   ·have hlt : i < z := by omega
    refine wpOp_mono (fun a' w' ⟨h1, h2, h3⟩ => ?_) (hstep i a w hlt hB fun j hj => hF j (hpre j hj))
    refine wpAny_inv2 hord z nxt hz hsz F B E hstep hstab hlast fuel (unl.erase i) _ a' w' ?_ (by simpa using hls) (fun j hj => ?_) (by rw [getD_set_ne true hiz]; exact hzl) (fun i' j hi' hw => ?_) h1 (fun j hj => ?_)
    ·rw [List.length_erase_of_mem (hu i hil)]; omega
    ·by_cases e : j = i
     ·subst e; rw [getD_set_same] at hj; cases hj
     ·rw [getD_set_ne true (Ne.symm e)] at hj
      exact (List.mem_erase_of_ne e).2 (hu j hj)
    ·rcases getD_set_false hi' with rfl | h
     ·exact getD_set_keep (by omega) (hpre j hw)
     ·exact getD_set_keep (by omega) (hcl i' j h hw)
    ·rcases getD_set_false hj with rfl | h
     ·exact h2
     ·by_cases e : i = j
      ·subst e; exact h2
      ·have hjl : j < listed.size := by
        rcases Nat.lt_or_ge j listed.size with h' | h'
        ·exact h'
        ·simp [Array.getD, Nat.not_lt.2 h'] at h
       have hjz : j ≠ z := by
        rintro rfl
        simp [Array.getD, hjl] at h hzl
        rw [h] at hzl; cases hzl
       exact hstab i j a w a' w' e hlt (by omega) hB (hF j h) h3
end
end Go.Proofs.YtjpahjfjpkbcnaaGreat
