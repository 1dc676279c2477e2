/- What the law function JoinStream comes to: true, whatever pieces of a stream are added, and however much is read; nothing that was there is changed. Conditions: the stream's bytes, the pieces' numbers and the reads' are cells of memory. -/
import Derived.Test.YtemphincefamfaaJoinStr
import Derived.Test.YtemphincefamfaaJoinLaw
import Derived.Test.YtemphincefamfaaBytes
import Derived.Deep.CutBlock
import Derived.Deep.DeepCutAuto
set_option linter.unusedVariables false
set_option linter.unusedSimpArgs false
namespace Go.Proofs.Ytemphincefamfaa
open Go.RowKit

/-- A list of pairs of numbers that came in. -/
def Pairs (w : World) (B : Nat) (A : Option Addr) (len : Nat) (f : Nat → Int × Int) : Prop :=
  0 < len → ∃ b off, A = some ⟨b, off, none⟩ ∧ b < B ∧ ∀ i, i < len → w.cell? ⟨b, off + i * 2, none⟩ = some (.int .i64 (f i).1) ∧ w.cell? ⟨b, off + i * 2 + 1, none⟩ = some (.int .i64 (f i).2)

/-- Where the walk stands: the joint, what was read, and the stream's bytes. -/
structure StrAt (w wr : World) (base g gb gt R : Nat) (next : Int) (zs : List Int) (v : Value) (p : Nat) (nx : Int) (G : List Int) (L : List (Nat × Int)) : Prop where
  jv : Jv wr g gb gt nx R G L
  str : Str next zs p nx G L
  own : wr.ownsRow base 5 1 v p (vals (zs.take p))
  bel : Below w.heap.size w wr
  low : base ≤ wr.heap.size

theorem strAdd (g gb gt : Nat) (next nx : Int) (R : Nat) (zs : List Int) (p : Nat) (G : List Int) (L : List (Nat × Int)) (w : World) (hj : Jv w g gb gt nx R G L) (hs : Str next zs p nx G L) (n0 : 0 ≤ next) (n1 : next < 4294967296)
    (hz3 : zs.length ≤ 300) (hR : R ≤ 401) (fr ex : Nat) (he : fr + ex ≤ zs.length) (A : Option Addr) (c : Nat)
    (hz : (zs.drop fr).take ex ≠ [] → ∃ b off, A = some ⟨b, off, none⟩ ∧ b < w.heap.size ∧ ¬ Jb g gb gt b ∧ ∀ i, i < ((zs.drop fr).take ex).length → w.cell? ⟨b, off + i, none⟩ = some (.int .u8 (((zs.drop fr).take ex).getD i 0))) :
    Calls Try.prog 14 #[.pointer (some ⟨g, 0, none⟩), .int .u32 ((next + (fr : Int)) % 4294967296), .slice A ex c] w fun e w' => ∃ (m : Nat) (nx2 : Int) (G2 : List Int) (L2 : List (Nat × Int)),
      e = .returned (.tuple #[.int .i64 m, .int .i64 0]) ∧ Jv w' g gb gt nx2 R G2 L2 ∧ Str next zs p nx2 G2 L2 ∧ G2.length = G.length + m ∧ Keeps (Jb g gb gt) w w' ∧
      (fr = 0 → ex = zs.length → G.length < R → p + G.length < zs.length → 1 ≤ m) := by
  have hl : ((zs.drop fr).take ex).length = ex := by rw [List.length_take, List.length_drop]; omega
  have hc := vAdd g gb gt nx R G L ((next + (fr : Int)) % 4294967296) A ((zs.drop fr).take ex) c w hj (by omega) (by omega) (by rw [hl]; omega) hz
  rw [hl] at hc
  have e1 : fr + ex - fr = ex := by omega
  refine hc.mono ?_
  rintro e w' ⟨m, he', hh, hj', hk⟩
  have hA := hs.add (R := R) n0 n1 hz3 (by have := hj.few; omega) hR fr (fr + ex) (by omega) he m (by rw [e1]; exact hh)
  rw [e1] at hA
  refine ⟨m, _, _, _, he', hj', hA, by simp, hk, fun h0 h1 h2 h3 => ?_⟩
  subst h0 h1
  exact hs.more (R := R) n0 n1 hz3 h2 hR m hh h3
theorem strRead (g gb gt : Nat) (next nx : Int) (R : Nat) (zs : List Int) (p : Nat) (G : List Int) (L : List (Nat × Int)) (w : World) (hj : Jv w g gb gt nx R G L) (hs : Str next zs p nx G L) (n : Int) (hn : 0 ≤ n) :
    Calls Try.prog 11 #[.pointer (some ⟨g, 0, none⟩), .int .i64 n] w fun e w' => ∃ (m : Nat), m ≤ G.length ∧ (m : Int) = min n G.length ∧
      e = .returned (.tuple #[.slice (some ⟨w.heap.size, 0, none⟩) m m, .int .i64 0]) ∧ Jv w' g gb gt nx R (G.drop m) L ∧ Str next zs (p + m) nx (G.drop m) L ∧ Blk w' w.heap.size 5 (u8s (G.take m)) ∧ Keeps (Jb g gb gt) w w' ∧ zs.take p ++ G.take m = zs.take (p + m) := by
  obtain ⟨m, hm⟩ : ∃ m : Nat, (m : Int) = min n G.length := ⟨(min n G.length).toNat, by omega⟩
  refine (vRead g gb gt nx R G L n m w hj hn hm).mono ?_
  rintro e w' ⟨he, hj', hb, hk⟩
  exact ⟨m, by omega, hm, he, hj', hs.read m (by omega), hb, hk, hs.taken m (by omega)⟩

set_option maxRecDepth 100000 in
set_option maxHeartbeats 8000000 in
theorem joinStream_walk (nx room : Int) (A : Option Addr) (zs0 : List Int) (len cap : Nat) (PA : Option Addr) (pl pc : Nat) (f : Nat → Int × Int) (RA : Option Addr) (rs : List Int) (rl rc : Nat) (w : World) (n0 : 0 ≤ nx) (n1 : nx < 4294967296)
    (hZ : Ints .u8 w w.heap.size A zs0) (hZl : zs0.length = len) (hZm : len ≤ maxLen) (hZc : len ≤ cap) (hP : Pairs w w.heap.size PA pl f) (hPl : pl ≤ maxLen) (hR : Ints .i64 w w.heap.size RA rs) (hRl : rs.length = rl) (hRm : rl ≤ maxLen) :
    Calls Try.prog 4 #[.int .u32 nx, .int .i64 room, .slice A len cap, .slice PA pl pc, .slice RA rl rc] w fun e w' => e = .returned (.bool true) ∧ Below w.heap.size w w' := by
  unfold maxLen at hZm hPl hRm
  obtain ⟨zs, hzs⟩ : ∃ zs, zs0.take 300 = zs := ⟨_, rfl⟩
  obtain ⟨n, hn⟩ : ∃ n, zs.length = n := ⟨_, rfl⟩
  have hn' := hn
  rw [← hzs, List.length_take] at hn'
  have hmin : (if 300 < (len : Int) then (300 : Int) else (len : Int)) = (n : Int) := by split <;> omega
  have hn300 : (n : Int) ≤ 300 := by omega
  have hncap : (n : Int) ≤ (cap : Int) := by omega
  have hZ2 := hZ.take 300
  rw [hzs] at hZ2
  have HZ := Lib.hid hZ2
  have HP := Lib.hid hP
  have HR := Lib.hid hR
  have HN := Lib.hid hn
  have HRL := Lib.hid hRl
  clear hZ hZ2 hP hR hn' hzs hn hRl hZl hZc hZm
  obtain ⟨i0, hi0, hz0, hz1, hz2⟩ := info_parts u8_info
  have hi0 := Lib.hid hi0
  go_enter Try.func4, Try.ntmps4
  go_wp2_with fail
  refine (jworks_any _).mono ?_
  rintro e w0 ⟨rfl, b0⟩
  go_wp2_with fail
  refine (among_any room _ _ (by omega) (by omega)).mono ?_
  rintro e w' ⟨q, hq, rfl, rfl⟩
  go_wp2_with fail
  refine (vNew nx (1 + q) _ (by omega) (by omega) n0 n1).mono ?_
  rintro e w1 ⟨g, gb, gt, rfl, h1, b1, l1, l2, l3⟩
  have B1 : Below w.heap.size w w1 := b0.trans (b1.mono b0.size)
  have H1 := Lib.hid h1
  have hgl : w.heap.size ≤ g ∧ w.heap.size ≤ gb ∧ w.heap.size ≤ gt := by have := b0.size; omega
  have hgu := h1.blocks
  clear h1
  go_upto_block 0 with fail
  have s0 : Hid (StrAt w (w1.alloc (Obj.cells #[] 5)) w1.heap.size g gb gt (1 + q) nx zs (.slice (some ⟨w1.heap.size, 0, none⟩) 0 0) 0 nx [] []) :=
    Lib.hid ⟨H1.out.alloc _, Str.start nx zs n0 n1, by simpa [vals] using World.ownsRow_lit (e := 5) (size := 1) (base := w1.heap.size) w1 #[] 0 (Nat.le_refl _) (by unfold maxLen; omega) rfl, B1.alloc B1.size _, by simp⟩
  have hbase : w.heap.size ≤ w1.heap.size := B1.size
  clear H1 B1 b0 b1
  generalize w1.alloc (Obj.cells #[] 5) = w2 at *
  obtain ⟨base, hb⟩ : ∃ base, w1.heap.size = base := ⟨_, rfl⟩
  rw [hb] at s0 hbase hgu ⊢
  clear hb
  go_cut [13] (fun v wc => ∃ (p : Nat) (nx2 : Int) (G : List Int) (L : List (Nat × Int)), Hid (StrAt w wc base g gb gt (1 + q) nx zs v p nx2 G L))
  case first =>
   go_wp2_with fail
   go_loopw [13, 14] (fun v k wr => ∃ (i p : Nat) (nx2 : Int) (G : List Int) (L : List (Nat × Int)), k = .int .i64 i ∧ i ≤ 60 ∧ i ≤ pl ∧ Hid (StrAt w wr base g gb gt (1 + q) nx zs v p nx2 G L)) (fun _ k _ => 61 - (intOf k).toNat)
   case atStart => exact ⟨0, 0, _, _, _, rfl, by omega, by omega, s0⟩
   case round =>
     obtain ⟨i, p, nx2, G, L, rfl, hi60, hil, hs⟩ := hrel
     clear s0
     obtain ⟨VA, vc, rfl, hvc, hvp, hVI, hown⟩ := own_form hs.out.own (fun x hx => HZ.out.1 x (List.mem_of_mem_take hx))
     have hpos := hs.out.str.pos
     rw [HN.out] at hpos
     clear hvp hVI hown
     by_cases hlt : i < pl
     · by_cases h60 : i < 60
       · obtain ⟨b, off, rfl, hb, hcell⟩ := HP.out (by omega)
         have hc1 := (hs.out.bel.cell (p := ⟨b, off + i * 2, none⟩) hb).trans (hcell i hlt).1
         have hc2 := (hs.out.bel.cell (p := ⟨b, off + i * 2 + 1, none⟩) hb).trans (hcell i hlt).2
         generalize (f i).1 = x1 at *
         generalize (f i).2 = x2 at *
         clear hcell
         go_wp2_with fail
         refine (among_any x1 _ _ (by omega) (by omega)).mono ?_
         rintro e w' ⟨fr, hfr, rfl, rfl⟩
         go_wp2_with fail
         refine (among_any x2 _ _ (by omega) (by omega)).mono ?_
         rintro e w' ⟨ex, hex, rfl, rfl⟩
         have hfr2 : fr ≤ n := by omega
         have hex2 : fr + ex ≤ n := by omega
         have hcut : Ints .u8 wr wr.heap.size (if cap = fr then A else A.map (·.add fr)) (((zs.drop fr).take ex)) := (((HZ.out.below hs.out.bel).drop (by rw [HN.out]; exact hfr2) (by rw [HN.out]; omega)).more hs.out.bel.size).take ex
         have hcl : ((zs.drop fr).take ex).length = ex := by rw [List.length_take, List.length_drop, HN.out]; omega
         obtain ⟨A2, hA2⟩ : ∃ A2, (if cap = fr then A else A.map (·.add fr)) = A2 := ⟨_, rfl⟩
         rw [hA2] at hcut
         have HCUT := Lib.hid hcut
         have HCL := Lib.hid hcl
         clear hcut hcl
         go_wp2_with fail
         have hbc := bytes_any A2 ((zs.drop fr).take ex) (cap - fr) wr HCUT.out (by rw [HCL.out]; omega)
         rw [HCL.out] at hbc
         refine hbc.mono ?_
         rintro e w3 ⟨v3, rfl, hown3, hb3⟩
         obtain ⟨A3, c3, rfl, hc3, hl3, hI3⟩ := Ints.of_own hown3 (fun x hx => HZ.out.1 x (List.mem_of_mem_drop (List.mem_of_mem_take hx)))
         have bl := hs.out.jv.blocks
         have bel3 : Below w.heap.size w w3 := hs.out.bel.trans (hb3.mono hs.out.bel.size)
         have jv3 : Hid (Jv w3 g gb gt (nx2) (1 + q) G L) := Lib.hid (hs.out.jv.below hb3 bl.1 bl.2.1 bl.2.2)
         have own3 : Hid (w3.ownsRow base 5 1 (.slice VA p vc) p (vals (zs.take p))) := Lib.hid (own_below hs.out.own hb3 (fun k hk => (hs.out.own.lt k hk).2))
         have hz3 : Hid (((zs.drop fr).take ex) ≠ [] → ∃ b off, A3 = some ⟨b, off, none⟩ ∧ b < w3.heap.size ∧ wr.heap.size ≤ b ∧ ∀ i, i < ((zs.drop fr).take ex).length → w3.cell? ⟨b, off + i, none⟩ = some (.int .u8 (((zs.drop fr).take ex).getD i 0))) := Lib.hid (own_hz hown3)
         have str3 := Lib.hid hs.out.str
         have hszr := hs.out.bel.size
         have low3 : base ≤ w3.heap.size := by have := hs.out.low; have := hb3.size; omega
         rw [HCL.out] at hc3 ⊢
         clear hown3 hl3 hI3 hbc hs HCUT hA2
         go_wp2_with fail
         refine (strAdd g gb gt nx nx2 (1 + q) zs p G L w3 jv3.out str3.out n0 n1 (by rw [HN.out]; omega) (by omega) fr ex (by rw [HN.out]; exact hex2) A3 c3 (fun hne => by
           obtain ⟨b, off, e1, e2, e3, e4⟩ := hz3.out hne
           exact ⟨b, off, e1, e2, by unfold Jb; omega, e4⟩)).mono ?_
         rintro e w4 ⟨m, nx4, G4, L4, rfl, hj4, hs4, hg4, k4, hmore⟩
         have own4 := Lib.hid (own_keeps own3.out k4 (by unfold Jb; omega))
         have bel4 : Below w.heap.size w w4 := bel3.trans (k4.below bel3.size (by unfold Jb; omega))
         have jv4 := Lib.hid hj4
         have low4 : base ≤ w4.heap.size := by have := k4.size; omega
         have str4 := Lib.hid hs4
         clear own3 bel3 jv3 str3 hz3 hj4 hs4 k4 hc1 hc2 bl hg4 hmore low3 hb3 hszr
         by_cases hir : i < rl
         · obtain ⟨rb, ro, rfl, hrb, hrc⟩ := HR.out.2 (by intro e; have := HRL.out; rw [e] at this; simp at this; omega)
           have hcr := (bel4.cell (p := ⟨rb, ro + i, none⟩) hrb).trans (hrc i (by rw [HRL.out]; exact hir))
           generalize rs.getD i 0 = xr at *
           clear hrc
           go_wp2_with fail
           refine (among_any xr _ _ (by omega) (by omega)).mono ?_
           rintro e w' ⟨rn, hrn, rfl, rfl⟩
           clear hcr
           go_wp2_with fail
           refine (strRead g gb gt nx nx4 (1 + q) zs p G4 L4 w4 jv4.out str4.out _ (by omega)).mono ?_
           rintro e w5 ⟨m5, hm5, hm5e, rfl, hj5, hs5, hbk, k5, htk⟩
           have own5 := Lib.hid (own_keeps own4.out k5 (by unfold Jb; omega))
           have bel5 : Below w.heap.size w w5 := bel4.trans (k5.below bel4.size (by unfold Jb; omega))
           have low5 : base ≤ w5.heap.size := by have := k5.size; omega
           have hrd : Hid (Reads w5 w5.heap.size 1 (some ⟨w4.heap.size, 0, none⟩) m5 (vals (G4.take m5))) := Lib.hid (by
             have hG : ∀ x ∈ G4.take m5, (Lit.int .u8 x).wf = true := fun x hx => HZ.out.1 x (List.mem_of_mem_take (by rw [← htk]; exact List.mem_append_right _ hx) (i := p + m5))
             have := (Ints.of_blk hbk hG).reads
             rw [List.length_take, Nat.min_eq_left hm5] at this
             exact this)
           have hps := hs5.pos
           rw [HN.out] at hps
           have hdl : (G4.drop m5).length = G4.length - m5 := List.length_drop
           have HDL := Lib.hid hdl
           have HM5 := Lib.hid (And.intro hm5 hm5e)
           have jv5 := Lib.hid hj5
           have str5 := Lib.hid hs5
           have HTK := Lib.hid htk
           have hp300 : p + m5 ≤ 300 := by omega
           clear own4 bel4 jv4 str4 hj5 hs5 hbk htk k5 low4 hm5 hm5e hdl
           go_wp2_with (at_builtin; refine wpList_append_any _ rfl (.tmp 107) (.tmp 108) _ rfl base 5 i0 _ 1 1 Try.underlying32 hi0.out hz0 hz1 hz2 rfl (by omega) (.slice VA p vc) p (vals (zs.take p)) rfl own5.out w5.heap.size (some ⟨w4.heap.size, 0, none⟩) m5 m5 (vals (G4.take m5)) rfl hrd.out (vals_one _) (by unfold maxLen; omega) (by omega) low5 ?_; intro v6 w6 hown6 hg6 hat6; rw [← vals_app, HTK.out] at hown6; obtain ⟨V6, vc6, rfl, hvc6, hvp6, hVI6, hown6'⟩ := own_form hown6 (fun x hx => HZ.out.1 x (List.mem_of_mem_take hx)); have own6 := Lib.hid hown6'; clear hvp6 hVI6 hown6 hown6')
           have st := Lib.hid (StrAt.mk (jv5.out.keeps (s := fun k => Value.ownBlock (.slice VA p vc) = some k) (Keeps.grown hg6 (fun k hk => hk)) (fun hk => by have := (own5.out.lt g hk).1; omega) (fun hk => by have := (own5.out.lt gb hk).1; omega) (fun hk => by have := (own5.out.lt gt hk).1; omega)) str5.out own6.out
             (bel5.grown hg6 bel5.size (fun k hk => by have := (own5.out.lt k hk).1; omega)) (by have := hg6.size; omega))
           clear jv5 own5 bel5 hrd str5 own6 hg6 hat6 HTK low5
           obtain ⟨G6, hG6⟩ : ∃ G6, G4.drop m5 = G6 := ⟨_, rfl⟩
           rw [hG6] at st hps HDL
           clear hG6
           obtain ⟨p6, hp6⟩ : ∃ p6, p + m5 = p6 := ⟨_, rfl⟩
           have HP6 := Lib.hid hp6
           rw [hp6] at st hvc6 hps hp300 ⊢
           have hpm : (p : Int) + (m5 : Int) = (p6 : Int) := by omega
           clear hp6
           have hpos6 := st.out.str.pos
           rw [HN.out] at hpos6
           have hsum : (p6 : Int) + (G6.length : Int) ≤ (n : Int) := by omega
           have hne : (nx4 != (nx + ((p6 : Int) + (G6.length : Int))) % 4294967296) = false := by
             have := st.out.str.nx
             rw [bne_eq_false_iff_eq]
             omega
           have hcapP : (p6 : Int) ≤ (cap : Int) := by omega
           have HT := Lib.hid (((HZ.out.below st.out.bel).more st.out.bel.size).take p6)
           have HO := Lib.hid (own_ints st.out.own (fun x hx => HZ.out.1 x (List.mem_of_mem_take hx)))
           have HPL : Hid (p6 = (zs.take p6).length) := Lib.hid (by rw [List.length_take, HN.out]; omega)
           clear hpos6
           go_wp2_with (first
             | (go_at_call 20; refine (vReady g gb gt nx4 (1 + q) G6 L4 _ st.out.jv).mono ?_; rintro e w' ⟨rfl, rfl⟩)
             | (go_at_call 17; refine (vNext g gb gt nx4 (1 + q) G6 L4 _ st.out.jv).mono ?_; rintro e w' ⟨rfl, rfl⟩)
             | (go_at_call 13; refine (sameBytes_yes V6 A (zs.take p6) p6 vc6 p6 cap w6.heap.size w6 HO.out HT.out HPL.out HPL.out).mono ?_; rintro e w' ⟨rfl, rfl⟩))
           go_roundw
           case rel => exact ⟨i + 1, p6, nx4, G6, L4, by go_num, by omega, by omega, st⟩
           case measure => simp [intOf]; omega
         · have hir2 : (rl : Int) ≤ (i : Int) := by omega
           have st := Lib.hid (StrAt.mk jv4.out str4.out own4.out bel4 low4)
           clear jv4 own4 bel4 str4 low4
           have hpos6 := st.out.str.pos
           rw [HN.out] at hpos6
           have hsum : (p : Int) + (G4.length : Int) ≤ (n : Int) := by omega
           have hne : (nx4 != (nx + ((p : Int) + (G4.length : Int))) % 4294967296) = false := by
             have := st.out.str.nx
             rw [bne_eq_false_iff_eq]
             omega
           have hcapP : (p : Int) ≤ (cap : Int) := by omega
           have HT := Lib.hid (((HZ.out.below st.out.bel).more st.out.bel.size).take p)
           have HO := Lib.hid (own_ints st.out.own (fun x hx => HZ.out.1 x (List.mem_of_mem_take hx)))
           have HPL : Hid (p = (zs.take p).length) := Lib.hid (by rw [List.length_take, HN.out]; omega)
           clear hpos6
           go_wp2_with (first
             | (go_at_call 20; refine (vReady g gb gt nx4 (1 + q) G4 L4 _ st.out.jv).mono ?_; rintro e w' ⟨rfl, rfl⟩)
             | (go_at_call 17; refine (vNext g gb gt nx4 (1 + q) G4 L4 _ st.out.jv).mono ?_; rintro e w' ⟨rfl, rfl⟩)
             | (go_at_call 13; refine (sameBytes_yes VA A (zs.take p) p vc p cap w4.heap.size w4 HO.out HT.out HPL.out HPL.out).mono ?_; rintro e w' ⟨rfl, rfl⟩))
           go_roundw
           case rel => exact ⟨i + 1, p, nx4, G4, L4, by go_num, by omega, by omega, st⟩
           case measure => simp [intOf]; omega
       · go_wp2_with fail
         go_meet
         case rel => exact ⟨p, nx2, G, L, hs⟩
     · go_wp2_with fail
       go_meet
       case rel => exact ⟨p, nx2, G, L, hs⟩
  case rest =>
    clear s0
    obtain ⟨p, nx2, G, L, hs⟩ := hcut
    obtain ⟨VA, vc, rfl, hvc, hvp, hVI, hown⟩ := own_form hs.out.own (fun x hx => HZ.out.1 x (List.mem_of_mem_take hx))
    clear hvp hVI hown hvc
    go_wp2_with fail
    go_loopw [13, 21] (fun v k wr => ∃ (i p : Nat) (nx2 : Int) (G : List Int) (L : List (Nat × Int)), k = .int .i64 i ∧ i ≤ n + 1 ∧ min i n ≤ p + G.length ∧ Hid (StrAt w wr base g gb gt (1 + q) nx zs v p nx2 G L)) (fun _ k _ => n + 2 - (intOf k).toNat)
    case atStart => exact ⟨0, p, nx2, G, L, rfl, by omega, by omega, hs⟩
    case round =>
      clear hs
      obtain ⟨i2, p, nx4, G4, L4, rfl, hi2, hmin2, hs⟩ := hrel
      obtain ⟨VA, vc, rfl, hvc, hvp, hVI, hown⟩ := own_form hs.out.own (fun x hx => HZ.out.1 x (List.mem_of_mem_take hx))
      have hpos := hs.out.str.pos
      rw [HN.out] at hpos
      have jv4 := Lib.hid hs.out.jv
      have str4 := Lib.hid hs.out.str
      have own4 := Lib.hid hown
      have bel4 := hs.out.bel
      have low4 := hs.out.low
      have hfew := hs.out.jv.few
      clear hvp hVI hown hs
      by_cases hlt : i2 ≤ n
      · have hltI : (i2 : Int) ≤ (n : Int) := by omega
        go_wp2_with fail
        refine (strRead g gb gt nx nx4 (1 + q) zs p G4 L4 wr jv4.out str4.out _ (by omega)).mono ?_
        rintro e w5 ⟨m5, hm5, hm5e, rfl, hj5, hs5, hbk, k5, htk⟩
        have own5 := Lib.hid (own_keeps own4.out k5 (by unfold Jb; omega))
        have bel5 : Below w.heap.size w w5 := bel4.trans (k5.below bel4.size (by unfold Jb; omega))
        have low5 : base ≤ w5.heap.size := by have := k5.size; omega
        have hrd : Hid (Reads w5 w5.heap.size 1 (some ⟨wr.heap.size, 0, none⟩) m5 (vals (G4.take m5))) := Lib.hid (by
          have hG : ∀ x ∈ G4.take m5, (Lit.int .u8 x).wf = true := fun x hx => HZ.out.1 x (List.mem_of_mem_take (by rw [← htk]; exact List.mem_append_right _ hx) (i := p + m5))
          have := (Ints.of_blk hbk hG).reads
          rw [List.length_take, Nat.min_eq_left hm5] at this
          exact this)
        have hps := hs5.pos
        rw [HN.out] at hps
        have hdl : (G4.drop m5).length = G4.length - m5 := List.length_drop
        have HDL := Lib.hid hdl
        have HM5 := Lib.hid (And.intro hm5 hm5e)
        have jv5 := Lib.hid hj5
        have str5 := Lib.hid hs5
        have HTK := Lib.hid htk
        have hp300 : p + m5 ≤ 300 := by omega
        clear own4 bel4 jv4 str4 hj5 hs5 hbk htk k5 low4 hm5 hm5e hdl
        go_wp2_with (at_builtin; refine wpList_append_any _ rfl (.tmp 151) (.tmp 152) _ rfl base 5 i0 _ 1 1 Try.underlying32 hi0.out hz0 hz1 hz2 rfl (by omega) (.slice VA p vc) p (vals (zs.take p)) rfl own5.out w5.heap.size (some ⟨wr.heap.size, 0, none⟩) m5 m5 (vals (G4.take m5)) rfl hrd.out (vals_one _) (by unfold maxLen; omega) (by omega) low5 ?_; intro v6 w6 hown6 hg6 hat6; rw [← vals_app, HTK.out] at hown6; obtain ⟨V6, vc6, rfl, hvc6, hvp6, hVI6, hown6'⟩ := own_form hown6 (fun x hx => HZ.out.1 x (List.mem_of_mem_take hx)); have own6 := Lib.hid hown6'; clear hvp6 hVI6 hown6 hown6')
        have st := Lib.hid (StrAt.mk (jv5.out.keeps (s := fun k => Value.ownBlock (.slice VA p vc) = some k) (Keeps.grown hg6 (fun k hk => hk)) (fun hk => by have := (own5.out.lt g hk).1; omega) (fun hk => by have := (own5.out.lt gb hk).1; omega) (fun hk => by have := (own5.out.lt gt hk).1; omega)) str5.out own6.out
          (bel5.grown hg6 bel5.size (fun k hk => by have := (own5.out.lt k hk).1; omega)) (by have := hg6.size; omega))
        clear jv5 own5 bel5 hrd str5 own6 hg6 hat6 HTK low5
        obtain ⟨G6, hG6⟩ : ∃ G6, G4.drop m5 = G6 := ⟨_, rfl⟩
        rw [hG6] at st hps HDL
        clear hG6
        obtain ⟨p6, hp6⟩ : ∃ p6, p + m5 = p6 := ⟨_, rfl⟩
        have HP6 := Lib.hid hp6
        rw [hp6] at st hvc6 hps hp300 ⊢
        have hpm : (p : Int) + (m5 : Int) = (p6 : Int) := by omega
        clear hp6

        have hG0 : G6.length = 0 := by have := HDL.out; have := HM5.out; omega
        have HPP : Hid (p6 = p + G4.length) := Lib.hid (by have := HP6.out; have := HM5.out; omega)
        have hz6 : Hid ((zs.drop 0).take n ≠ [] → ∃ b off, A = some ⟨b, off, none⟩ ∧ b < w6.heap.size ∧ ¬ Jb g gb gt b ∧ ∀ i, i < ((zs.drop 0).take n).length → w6.cell? ⟨b, off + i, none⟩ = some (.int .u8 (((zs.drop 0).take n).getD i 0))) := Lib.hid (by
          have e0 : (zs.drop 0).take n = zs := by rw [List.drop_zero, ← HN.out, List.take_length]
          rw [e0]
          intro hne
          obtain ⟨b, off, e1, e2, e3⟩ := (HZ.out.below st.out.bel).2 hne
          exact ⟨b, off, e1, by have := st.out.bel.size; omega, by unfold Jb; omega, e3⟩)
        have hadd := strAdd g gb gt nx nx4 (1 + q) zs p6 G6 L4 w6 st.out.jv st.out.str n0 n1 (by rw [HN.out]; omega) (by omega) 0 n (by rw [HN.out]; omega) A cap hz6.out
        have e0 : (nx + ((0 : Nat) : Int)) % 4294967296 = nx := by omega
        rw [e0] at hadd
        have HADD := Lib.hid hadd
        clear hadd e0 hz6
        go_wp2_with fail
        refine HADD.out.mono ?_
        rintro e w7 ⟨m, nx7, G7, L7, rfl, hj7, hs7, hg7, k7, hm7⟩
        have own7 := own_keeps st.out.own k7 (by unfold Jb; omega)
        have bel7 : Below w.heap.size w w7 := st.out.bel.trans (k7.below st.out.bel.size (by unfold Jb; omega))
        have st7 := Lib.hid (StrAt.mk hj7 hs7 own7 bel7 (by have := k7.size; have := st.out.low; omega))
        have hge : min (i2 + 1) n ≤ p6 + G7.length := by
          rw [HN.out] at hm7
          by_cases hlast : p6 + G6.length < n
          · have := hm7 (by simp) (by simp) (by omega) hlast; have := HPP.out; omega
          · have := HPP.out; omega
        clear HADD hj7 hs7 own7 bel7 k7 hm7 hG0
        go_wp2
        go_roundw
        case rel => exact ⟨i2 + 1, p6, nx7, G7, L7, by go_num, by omega, hge, st7⟩
        case measure => simp [intOf]; omega
      · have hltI : decide ((i2 : Int) ≤ (n : Int)) = false := by simp; omega
        go_wp2_with fail
        refine (strRead g gb gt nx nx4 (1 + q) zs p G4 L4 wr jv4.out str4.out _ (by omega)).mono ?_
        rintro e w5 ⟨m5, hm5, hm5e, rfl, hj5, hs5, hbk, k5, htk⟩
        have own5 := Lib.hid (own_keeps own4.out k5 (by unfold Jb; omega))
        have bel5 : Below w.heap.size w w5 := bel4.trans (k5.below bel4.size (by unfold Jb; omega))
        have low5 : base ≤ w5.heap.size := by have := k5.size; omega
        have hrd : Hid (Reads w5 w5.heap.size 1 (some ⟨wr.heap.size, 0, none⟩) m5 (vals (G4.take m5))) := Lib.hid (by
          have hG : ∀ x ∈ G4.take m5, (Lit.int .u8 x).wf = true := fun x hx => HZ.out.1 x (List.mem_of_mem_take (by rw [← htk]; exact List.mem_append_right _ hx) (i := p + m5))
          have := (Ints.of_blk hbk hG).reads
          rw [List.length_take, Nat.min_eq_left hm5] at this
          exact this)
        have hps := hs5.pos
        rw [HN.out] at hps
        have hdl : (G4.drop m5).length = G4.length - m5 := List.length_drop
        have HDL := Lib.hid hdl
        have HM5 := Lib.hid (And.intro hm5 hm5e)
        have jv5 := Lib.hid hj5
        have str5 := Lib.hid hs5
        have HTK := Lib.hid htk
        have hp300 : p + m5 ≤ 300 := by omega
        clear own4 bel4 jv4 str4 hj5 hs5 hbk htk k5 low4 hm5 hm5e hdl
        go_wp2_with (at_builtin; refine wpList_append_any _ rfl (.tmp 163) (.tmp 164) _ rfl base 5 i0 _ 1 1 Try.underlying32 hi0.out hz0 hz1 hz2 rfl (by omega) (.slice VA p vc) p (vals (zs.take p)) rfl own5.out w5.heap.size (some ⟨wr.heap.size, 0, none⟩) m5 m5 (vals (G4.take m5)) rfl hrd.out (vals_one _) (by unfold maxLen; omega) (by omega) low5 ?_; intro v6 w6 hown6 hg6 hat6; rw [← vals_app, HTK.out] at hown6; obtain ⟨V6, vc6, rfl, hvc6, hvp6, hVI6, hown6'⟩ := own_form hown6 (fun x hx => HZ.out.1 x (List.mem_of_mem_take hx)); have own6 := Lib.hid hown6'; clear hvp6 hVI6 hown6 hown6')
        have st := Lib.hid (StrAt.mk (jv5.out.keeps (s := fun k => Value.ownBlock (.slice VA p vc) = some k) (Keeps.grown hg6 (fun k hk => hk)) (fun hk => by have := (own5.out.lt g hk).1; omega) (fun hk => by have := (own5.out.lt gb hk).1; omega) (fun hk => by have := (own5.out.lt gt hk).1; omega)) str5.out own6.out
          (bel5.grown hg6 bel5.size (fun k hk => by have := (own5.out.lt k hk).1; omega)) (by have := hg6.size; omega))
        clear jv5 own5 bel5 hrd str5 own6 hg6 hat6 HTK low5
        obtain ⟨G6, hG6⟩ : ∃ G6, G4.drop m5 = G6 := ⟨_, rfl⟩
        rw [hG6] at st hps HDL
        clear hG6
        obtain ⟨p6, hp6⟩ : ∃ p6, p + m5 = p6 := ⟨_, rfl⟩
        have HP6 := Lib.hid hp6
        rw [hp6] at st hvc6 hps hp300 ⊢
        have hpm : (p : Int) + (m5 : Int) = (p6 : Int) := by omega
        clear hp6

        have hpn : p6 = n := by have := HP6.out; have := HM5.out; omega
        have HT := Lib.hid (((HZ.out.below st.out.bel).more st.out.bel.size))
        have HO := own_ints st.out.own (fun x hx => HZ.out.1 x (List.mem_of_mem_take hx))
        rw [hpn, ← HN.out, List.take_length] at HO
        have HO := Lib.hid HO
        have HPL : Hid (p6 = zs.length) := Lib.hid (by rw [HN.out]; exact hpn)
        clear hpn
        go_wp2_with (go_at_call 13; refine (sameBytes_yes V6 A zs p6 vc6 n cap w6.heap.size w6 HO.out HT.out HPL.out HN.out.symm).mono ?_; rintro e w' ⟨rfl, rfl⟩)
        go_ret
        exact ⟨rfl, st.out.bel⟩
end Go.Proofs.Ytemphincefamfaa
